/-
  Contracts of package octet.
-/
import Derived.Test.YtcdghmidpaeloaaOctetM
namespace Go.Proofs.Ytcdghmidpaeloaa
set_option linter.unusedVariables false
open Go.RowKit

theorem u8_info : (Try.prog.info? 5).map (fun i => (i.zero, i.size, i.bytes)) = some (some (.int .u8 0), 1, 1) := by kernel_rfl

theorem onum_yes (A : Option Addr) (c : Nat) (l : List UInt8) (w : World) (hl : l.length ≤ 8) (h : BS w A l) :
    Calls Try.prog 52 #[.slice A l.length c] w fun e w' => e = .returned (.tuple #[.int .u64 (numL l), .bool true]) ∧ w = w' := by
  have H := Lib.hid h
  clear h
  go_enter Try.func52, Try.ntmps52
  go_wp2
  go_loop [4, 12] (fun x i => ∃ (k : Nat), k ≤ l.length ∧ i = .int .i64 k ∧ x = .int .u64 (numL (l.take k))) (fun _ i => l.length - (intOf i).toNat)
  case atStart => exact ⟨0, by omega, rfl, rfl⟩
  case round =>
    obtain ⟨k, hk, rfl, rfl⟩ := hrel
    by_cases hlt : k < l.length
    · obtain ⟨b, o, rfl, _, hcs⟩ := H.out.addr (by omega)
      have hc := hcs k hlt
      clear hcs
      unfold byteV at hc
      have hn := numL_take l k hlt
      have hz1 := numL_take_lt l k 7 (by omega)
      have hb := UInt8.toNat_lt l[k]
      have HO := Lib.hid (or_byte (numL (l.take k)) l[k].toNat (by simpa using hz1) hb)
      have HN := Lib.hid hn
      clear hn
      generalize numL (l.take k) = z at *
      have hz0 : (0 : Int) ≤ (z : Int) := by omega
      have hz2 : (z : Int) < 72057594037927936 := by simp at hz1; omega
      go_wp2
      go_round
      case rel => exact ⟨k + 1, by omega, by go_num, by rw [HN.out, HO.out]⟩
      case measure => simp [intOf]; omega
    · obtain rfl : k = l.length := by omega
      go_wp2
      go_ret2
      exact ⟨by simp, rfl⟩
theorem onum_no (A : Option Addr) (c n : Nat) (w : World) (hl : 8 < n) (hn : n ≤ 9223372036854775807) :
    Calls Try.prog 52 #[.slice A n c] w fun e w' => e = .returned (.tuple #[.int .u64 0, .bool false]) ∧ w = w' := by
  go_enter Try.func52, Try.ntmps52
  go_wp2
  go_ret2
  exact ⟨rfl, rfl⟩


/-- A reader at block p: what is left is l, in the slice at A of capacity c. -/
structure InAt (w : World) (p : Nat) (A : Option Addr) (c : Nat) (l : List UInt8) : Prop where
  blk : Blk w p 77 #[.slice A l.length c]
  le : l.length ≤ c
  max : c ≤ maxLen
  bytes : BS w A l
  addr : (A = none ∧ c = 0) ∨ ∃ b o, A = some ⟨b, o, none⟩ ∧ b < w.heap.size ∧ b ≠ p
theorem InAt.cell {w : World} {p c : Nat} {A : Option Addr} {l : List UInt8} (h : InAt w p A c l) : w.cell? ⟨p, 0, none⟩ = some (.slice A l.length c) := by rw [h.blk.cell]; rfl
theorem InAt.fresh {w w' : World} {p c : Nat} {A : Option Addr} {l : List UInt8} (h : InAt w p A c l) (hf : Fresh w w') : InAt w' p A c l :=
  ⟨h.blk.fresh hf, h.le, h.max, h.bytes.fresh hf, by
    rcases h.addr with h | ⟨b, o, e, hb, hn⟩
    · exact .inl h
    · exact .inr ⟨b, o, e, by have := hf.size; omega, hn⟩⟩

theorem InAt.bytesOnly {w w' : World} {p c : Nat} {A : Option Addr} {l : List UInt8} (h : InAt w p A c l) (ho : Only (· = p) w w') : BS w' A l :=
  h.bytes.only ho (fun b o e => by
    rcases h.addr with ⟨e', _⟩ | ⟨b', o', e', _, hp⟩
    · rw [e'] at e; cases e
    · rw [e'] at e; simp at e; rw [← e.1]; exact hp)

def NewPost (l : List UInt8) (w : World) (e : Ending) (w' : World) : Prop :=
  e = .returned (.pointer (some ⟨w.heap.size + 1, 0, none⟩)) ∧ InAt w' (w.heap.size + 1) (some ⟨w.heap.size, 0, none⟩) l.length l ∧ Blk w' w.heap.size 5 (bytesA l) ∧ Fresh w w'

set_option maxHeartbeats 400000 in
theorem onew (A : Option Addr) (c : Nat) (l : List UInt8) (w : World) (h : BS w A l) (hm : l.length ≤ 140737488355328) :
    Calls Try.prog 42 #[.slice A l.length c] w (NewPost l w) := by
  have hmk := run_make_row' (P := Try.prog) 22 5 (.int .u8 0) 1 Try.underlying22 u8_info rfl .i64 .i64 l.length (by omega) (by omega)
  have hb0 : BS (w.alloc (.cells (madeCells #[.int .u8 0] l.length) 5)) A l := h.fresh (Fresh.alloc _ _)
  have hn0 : Blk (w.alloc (.cells (madeCells #[.int .u8 0] l.length) 5)) w.heap.size 5 (madeCells #[.int .u8 0] l.length) := Blk.new _ _ _
  obtain ⟨W2, hcp, hb2, ho2, hsz⟩ := run_copy_bs (P := Try.prog) hb0 22 5 3 Try.underlying22 (by kernel_rfl) w.heap.size 0 l.length l.length c _ _ hn0 (Nat.le_refl _) (by rw [size_madeCells]; omega) (some ⟨w.heap.size, 0, none⟩) (fun _ => rfl)
  rw [over_all _ _ (by rw [size_madeCells]; simp)] at hb2
  have HB2 : Hid (Blk W2 w.heap.size 5 (bytesA l)) := hb2
  have HO2 : Hid (Fresh w W2) := ((Only.of_fresh (Fresh.alloc _ _)).trans ho2).fresh (fun k hk e => by omega)
  have HSZ : Hid (W2.heap.size = w.heap.size + 1) := by show _ = _; rw [hsz]; simp
  clear hb0 hn0 hb2 ho2 h hsz
  generalize madeCells #[.int .u8 0] l.length = Z at *
  go_enter Try.func42, Try.ntmps42
  go_wp2
  go_ret
  have e := HSZ.out
  have hb := HB2.out
  have hlt := hb.lt
  refine ⟨by rw [← e]; rfl, ?_, hb.alloc _, HO2.out.trans (Fresh.alloc _ _)⟩
  rw [← e]
  have hf := Fresh.alloc W2 (.cells #[Value.slice (some ⟨w.heap.size, 0, none⟩) l.length l.length] 77)
  exact ⟨Blk.new _ _ _, Nat.le_refl _, by unfold maxLen; omega, BS.row (hb.fresh hf), .inr ⟨_, _, rfl, by simp; omega, by omega⟩⟩

theorem u8_size : ∀ W : World, (Go.sizeOf 5).run Try.prog W = .ok 1 W := fun W => by kernel_rfl

def TakePost (p : Nat) (A : Option Addr) (c : Nat) (l : List UInt8) (n : Nat) (w : World) (e : Ending) (w' : World) : Prop :=
  e = .returned (.tuple #[.slice A n n, .bool true]) ∧ InAt w' p (cutA A n c) (c - n) (l.drop n) ∧ Only (· = p) w w' ∧ BS w' A (l.take n)

theorem InAt.cut {w : World} {p c : Nat} {A : Option Addr} {l : List UInt8} (h : InAt w p A c l) (n : Nat) (hn : n ≤ l.length) :
    InAt (w.setCell ⟨p, 0, none⟩ (.slice (cutA A n c) (l.length - n) (c - n))) p (cutA A n c) (c - n) (l.drop n) := by
  have hle := h.le
  have hmx := h.max
  refine ⟨?_, by simp; omega, by unfold maxLen at *; omega, ?_, ?_⟩
  · have := h.blk.set 0 (.slice (cutA A n c) (l.length - n) (c - n))
    rw [List.length_drop]
    exact this
  · rcases h.addr with ⟨rfl, rfl⟩ | ⟨b, o, rfl, hb, hp⟩
    · have : l.drop n = [] := List.drop_eq_nil_of_le (by omega)
      rw [this]; exact BS.nil _ _
    · unfold cutA
      by_cases e : c = n
      · have : l.drop n = [] := List.drop_eq_nil_of_le (by omega)
        rw [this]; exact BS.nil _ _
      · rw [if_neg e]
        have h1 : Option.map (fun x : Addr => x.add n) (some ⟨b, o, none⟩) = some ⟨b, o + n, none⟩ := by simp [add_eq]
        rw [h1]
        exact (h.bytes.drop n).only (Only.setCell _ ⟨p, 0, none⟩ _) (fun b' o' e' => by simp at e'; rw [← e'.1]; exact hp)
  · rcases h.addr with ⟨rfl, rfl⟩ | ⟨b, o, rfl, hb, hp⟩
    · left
      unfold cutA
      split <;> simp
    · right
      unfold cutA
      split
      · exact ⟨b, o, rfl, by simpa [World.setCell] using hb, hp⟩
      · exact ⟨b, o + n, by simp [add_eq], by simpa [World.setCell] using hb, hp⟩

set_option maxHeartbeats 400000 in
theorem otake_yes (p : Nat) (A : Option Addr) (c : Nat) (l : List UInt8) (n : Nat) (w : World) (h : InAt w p A c l) (hn : n ≤ l.length) :
    Calls Try.prog 51 #[.pointer (some ⟨p, 0, none⟩), .int .i64 n] w (TakePost p A c l n w) := by
  have hc := h.cell
  have hz := h.blk.frozen 0
  have hle := h.le
  have hmx := h.max
  unfold maxLen at hmx
  have HC := Lib.hid (h.cut n hn)
  have HBS := Lib.hid ((h.bytesOnly (Only.setCell w ⟨p, 0, none⟩ (.slice (cutA A n c) (l.length - n) (c - n)))).take n)
  have h1 := run_cut_full (P := Try.prog) Try.underlying22 u8_size A l.length c n (by omega)
  have h2 := run_cut_from (P := Try.prog) Try.underlying22 u8_size A l.length c n hn
  clear h
  go_enter Try.func51, Try.ntmps51
  go_wp2
  go_ret2
  exact ⟨rfl, HC.out, Only.setCell _ ⟨p, 0, none⟩ _, HBS.out⟩
theorem otake_no (p : Nat) (A : Option Addr) (c : Nat) (l : List UInt8) (n : Int) (w : World) (h : InAt w p A c l) (hn : ¬ (0 ≤ n ∧ n ≤ l.length)) :
    Calls Try.prog 51 #[.pointer (some ⟨p, 0, none⟩), .int .i64 n] w fun e w' => e = .returned (.tuple #[.slice none 0 0, .bool false]) ∧ w = w' := by
  have hc := h.cell
  clear h
  by_cases h0 : n < 0
  · clear hn
    go_enter Try.func51, Try.ntmps51
    go_wp2
    go_ret2
    exact ⟨rfl, rfl⟩
  · have h1 : (l.length : Int) < n := by omega
    clear hn
    go_enter Try.func51, Try.ntmps51
    go_wp2
    go_ret2
    exact ⟨rfl, rfl⟩
def BytePost (p : Nat) (A : Option Addr) (c : Nat) (l : List UInt8) (w : World) (e : Ending) (w' : World) : Prop :=
  (∀ h : 0 < l.length, e = .returned (.tuple #[.int .i64 (l[0].toNat : Int), .bool true]) ∧ InAt w' p (cutA A 1 c) (c - 1) (l.drop 1) ∧ Only (· = p) w w') ∧
  (l.length = 0 → e = .returned (.tuple #[.int .i64 0, .bool false]) ∧ w = w')
set_option maxHeartbeats 400000 in
theorem obyte (p : Nat) (A : Option Addr) (c : Nat) (l : List UInt8) (w : World) (h : InAt w p A c l) :
    Calls Try.prog 48 #[.pointer (some ⟨p, 0, none⟩)] w (BytePost p A c l w) := by
  by_cases h0 : 0 < l.length
  · have HT := Lib.hid (otake_yes p A c l 1 w h h0)
    obtain ⟨b, o, rfl, hb, hcs⟩ := h.bytes.addr h0
    have hcell := hcs 0 h0
    have hbp : b ≠ p := by
      rcases h.addr with ⟨e, _⟩ | ⟨b', o', e, _, hp⟩
      · cases e
      · simp at e; rw [e.1]; exact hp
    clear hcs
    unfold byteV at hcell
    have hlt := UInt8.toNat_lt l[0]
    go_enter Try.func48, Try.ntmps48
    go_wp2_with fail
    refine HT.out.mono ?_
    rintro e w1 ⟨rfl, hI, ho, _⟩
    have hc1 := (ho.cell (p := ⟨b, o + 0, none⟩) hb hbp).trans hcell
    simp only [Nat.add_zero] at hc1
    have HI := Lib.hid hI
    clear hI h hcell
    go_wp2_with fail
    go_ret2
    exact ⟨fun _ => ⟨rfl, HI.out, ho⟩, fun he => by omega⟩
  · have HT := Lib.hid (otake_no p A c l 1 w h (by omega))
    clear h
    go_enter Try.func48, Try.ntmps48
    go_wp2_with fail
    refine HT.out.mono ?_
    rintro e w1 ⟨rfl, rfl⟩
    go_wp2_with fail
    go_ret2
    exact ⟨fun he => absurd he h0, fun _ => ⟨rfl, rfl⟩⟩
def RNumPost (p : Nat) (A : Option Addr) (c : Nat) (l : List UInt8) (n : Nat) (w : World) (e : Ending) (w' : World) : Prop :=
  e = .returned (.tuple #[.int .u64 (numL (l.take n)), .bool true]) ∧ InAt w' p (cutA A n c) (c - n) (l.drop n) ∧ Only (· = p) w w'
set_option maxHeartbeats 400000 in
theorem ornum_yes (p : Nat) (A : Option Addr) (c : Nat) (l : List UInt8) (n : Nat) (w : World) (h : InAt w p A c l) (hn : n ≤ l.length) (h8 : n ≤ 8) :
    Calls Try.prog 49 #[.pointer (some ⟨p, 0, none⟩), .int .i64 n] w (RNumPost p A c l n w) := by
  have HT := Lib.hid (otake_yes p A c l n w h hn)
  have hlen : (l.take n).length = n := by simp; omega
  have HN : ∀ w', Only (· = p) w w' → Hid (Calls Try.prog 52 #[.slice A n n] w' fun e w2 => e = .returned (.tuple #[.int .u64 (numL (l.take n)), .bool true]) ∧ w' = w2) := by
    intro w' ho
    have hbs : BS w' A (l.take n) := (h.bytes.take n).only ho (fun b o e => by
      rcases h.addr with ⟨e', _⟩ | ⟨b', o', e', _, hp⟩
      · rw [e'] at e; cases e
      · rw [e'] at e; simp at e; rw [← e.1]; exact hp)
    have := onum_yes A n (l.take n) w' (by omega) hbs
    rw [hlen] at this
    exact this
  have HN' := Lib.hid HN
  clear HN hlen h
  go_enter Try.func49, Try.ntmps49
  go_wp2_with fail
  refine HT.out.mono ?_
  rintro e w1 ⟨rfl, hI, ho, _⟩
  have HC := HN'.out w1 ho
  have HI := Lib.hid hI
  clear hI
  go_wp2_with fail
  refine HC.out.mono ?_
  rintro e w2 ⟨rfl, rfl⟩
  go_wp2_with fail
  go_ret2
  exact ⟨rfl, HI.out, ho⟩
theorem ornum_no (p : Nat) (A : Option Addr) (c : Nat) (l : List UInt8) (n : Int) (w : World) (h : InAt w p A c l) (hn : ¬ (0 ≤ n ∧ n ≤ l.length ∧ n ≤ 8)) :
    Calls Try.prog 49 #[.pointer (some ⟨p, 0, none⟩), .int .i64 n] w fun e w' => e = .returned (.tuple #[.int .u64 0, .bool false]) ∧ w = w' := by
  by_cases h8 : 8 < n
  · clear hn
    go_enter Try.func49, Try.ntmps49
    go_wp2_with fail
    go_ret2
    exact ⟨rfl, rfl⟩
  · have HT := Lib.hid (otake_no p A c l n w h (by omega))
    clear hn h
    go_enter Try.func49, Try.ntmps49
    go_wp2_with fail
    refine HT.out.mono ?_
    rintro e w1 ⟨rfl, rfl⟩
    go_wp2_with fail
    go_ret2
    exact ⟨rfl, rfl⟩
theorem oleft (p : Nat) (A : Option Addr) (c : Nat) (l : List UInt8) (w : World) (h : InAt w p A c l) :
    Calls Try.prog 50 #[.pointer (some ⟨p, 0, none⟩)] w fun e w' => e = .returned (.int .i64 (l.length : Int)) ∧ w = w' := by
  have hc := h.cell
  clear h
  go_enter Try.func50, Try.ntmps50
  go_wp2_with fail
  go_ret
  exact ⟨rfl, rfl⟩
def RestPost (p : Nat) (A : Option Addr) (l : List UInt8) (w : World) (e : Ending) (w' : World) : Prop :=
  e = .returned (.slice A l.length l.length) ∧ InAt w' p none 0 [] ∧ Only (· = p) w w' ∧ BS w' A l
set_option maxHeartbeats 400000 in
theorem orest (p : Nat) (A : Option Addr) (c : Nat) (l : List UInt8) (w : World) (h : InAt w p A c l) :
    Calls Try.prog 44 #[.pointer (some ⟨p, 0, none⟩)] w (RestPost p A l w) := by
  have hc := h.cell
  have hz := h.blk.frozen 0
  have hle := h.le
  have hmx := h.max
  unfold maxLen at hmx
  have h1 := run_cut_full (P := Try.prog) Try.underlying22 u8_size A l.length c l.length (by omega)
  have HB := Lib.hid h.blk
  have HBS := Lib.hid (fun w' ho => InAt.bytesOnly (w' := w') h ho)
  clear h
  go_enter Try.func44, Try.ntmps44
  go_wp2_with fail
  go_quiet (fail)
  go_wp2_with fail
  go_ret
  refine ⟨rfl, ⟨?_, by simp, by simp [maxLen], BS.nil _ _, .inl ⟨rfl, rfl⟩⟩, ?_, HBS.out _ ?_⟩
  · exact (HB.out.drewN _).set 0 _
  · exact (Only.of_fresh (Fresh.drewN w _)).trans (Only.setCell _ ⟨p, 0, none⟩ _)
  · exact (Only.of_fresh (Fresh.drewN w _)).trans (Only.setCell _ ⟨p, 0, none⟩ _)
end Go.Proofs.Ytcdghmidpaeloaa

