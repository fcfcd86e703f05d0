/-
  Texts laid together: Octet More Eq Frame.
-/
import Derived.Test.YtginhebfjbhmnaaGreatG01
import Derived.Laws.OwnMore
import Derived.Laws.Append
import Derived.ChangeKeysEq
import Derived.Laws.StructEq
import Derived.Lib.SmallJoins
import Derived.Deep.RegionHeld3
/-
  Contracts of package octet.
-/
namespace Go.Proofs.YtginhebfjbhmnaaGreat
set_option maxRecDepth 100000
set_option linter.unusedVariables false
open Go.RowKit

theorem u8_info : (Tryz.prog.info? 5).map (fun i => (i.zero, i.size, i.bytes)) = some (some (.int .u8 0), 1, 1) := by kernel_rfl

theorem onum_yes (A : Option Addr) (c : Nat) (l : List UInt8) (w : World) (hl : l.length ≤ 8) (h : BS w A l) :
    Calls Tryz.prog 48 #[.slice A l.length c] w fun e w' => e = .returned (.tuple #[.int .u64 (numL l), .bool true]) ∧ w = w' := by
  have H := Lib.hid h
  clear h
  go_enter Tryz.func48, Tryz.ntmps48
  go_wp2
  go_loop [4, 12] (fun x i => ∃ (k : Nat), k ≤ l.length ∧ i = .int .i64 k ∧ x = .int .u64 (numL (l.take k))) (fun _ i => l.length - (intOf i).toNat)
  case atStart => exact ⟨0, by omega, rfl, rfl⟩
  case round =>
    obtain ⟨k, hk, rfl, rfl⟩ := hrel
    by_cases hlt : k < l.length
    · obtain ⟨b, o, rfl, _, hcs⟩ := H.out.addr (by omega)
      have hc := hcs k hlt
      clear hcs
      unfold byteV at hc
      have hn := numL_take l k hlt
      have hz1 := numL_take_lt l k 7 (by omega)
      have hb := UInt8.toNat_lt l[k]
      have HO := Lib.hid (or_byte (numL (l.take k)) l[k].toNat (by simpa using hz1) hb)
      have HN := Lib.hid hn
      clear hn
      generalize numL (l.take k) = z at *
      have hz0 : (0 : Int) ≤ (z : Int) := by omega
      have hz2 : (z : Int) < 72057594037927936 := by simp at hz1; omega
      go_wp2
      go_round
      case rel => exact ⟨k + 1, by omega, by go_num, by rw [HN.out, HO.out]⟩
      case measure => simp [intOf]; omega
    · obtain rfl : k = l.length := by omega
      go_wp2
      go_ret2
      exact ⟨by simp, rfl⟩
theorem onum_no (A : Option Addr) (c n : Nat) (w : World) (hl : 8 < n) (hn : n ≤ 9223372036854775807) :
    Calls Tryz.prog 48 #[.slice A n c] w fun e w' => e = .returned (.tuple #[.int .u64 0, .bool false]) ∧ w = w' := by
  go_enter Tryz.func48, Tryz.ntmps48
  go_wp2
  go_ret2
  exact ⟨rfl, rfl⟩

def BigPost (x n : Nat) (w : World) (e : Ending) (w' : World) : Prop :=
  e = .returned (.slice (some ⟨w.heap.size, 0, none⟩) n n) ∧ Blk w' w.heap.size 5 (bytesA (bigL x n)) ∧ Fresh w w'

theorem obig_no (x n : Int) (w : World) (h : ¬ (1 ≤ n ∧ n ≤ 64)) :
    Calls Tryz.prog 22 #[.int .u64 x, .int .i64 n] w fun e w' => e = .returned (.slice none 0 0) ∧ w = w' := by
  by_cases h1 : n < 1
  · clear h
    go_enter Tryz.func22, Tryz.ntmps22
    go_wp2
    go_ret
    exact ⟨rfl, rfl⟩
  · have h2 : 64 < n := by omega
    clear h
    go_enter Tryz.func22, Tryz.ntmps22
    go_wp2
    go_ret
    exact ⟨rfl, rfl⟩

def BigRel (x n g k : Nat) (w wr : World) : Prop :=
  ∃ cs : Array Value, cs.size = n ∧ Blk wr g 5 cs ∧ (∀ j, k ≤ j → j < n → cs[j]? = some (byteV (UInt8.ofNat (x / 256 ^ (n - 1 - j))))) ∧ Below g w wr

theorem BigRel.step {x n g k : Nat} {w wr : World} (h : BigRel x n g (k + 1) w wr) (hk : k + 1 ≤ n) (v : Int) (hv : v = ((x / 256 ^ (n - 1 - k)) % 256 : Nat)) :
    BigRel x n g k w (wr.setCell ⟨g, k, none⟩ (.int .u8 v)) := by
  obtain ⟨cs, hs, hb, hp, hbl⟩ := h
  refine ⟨cs.setIfInBounds k (.int .u8 v), by simpa using hs, hb.set k _, fun j hj hjn => ?_, hbl.setCell (Nat.le_refl _) _⟩
  by_cases e : j = k
  · subst e
    have : byteV (UInt8.ofNat (x / 256 ^ (n - 1 - j))) = .int .u8 v := by
      unfold byteV; rw [hv]; simp
    rw [this, Array.getElem?_setIfInBounds_self_of_lt (by omega)]
  · rw [Array.getElem?_setIfInBounds_ne (by omega)]; exact hp j (by omega) hjn

set_option maxHeartbeats 400000 in
theorem obig_yes (x n : Nat) (w : World) (hx1 : x < 18446744073709551616) (h1 : 1 ≤ n) (h2 : n ≤ 64) :
    Calls Tryz.prog 22 #[.int .u64 x, .int .i64 n] w (BigPost x n w) := by
  have hmk := run_make_row' (P := Tryz.prog) 28 5 (.int .u8 0) 1 Tryz.underlying28 u8_info rfl .i64 .i64 n (by omega) (by omega)
  have hst : Hid (BigRel x n w.heap.size n w (w.alloc (.cells (madeCells #[.int .u8 0] n) 5))) :=
    ⟨_, size_madeCells _ _, Blk.new _ _ _, fun j hj hjn => by omega, (Below.refl _ _).alloc (Nat.le_refl _) _⟩
  go_enter Tryz.func22, Tryz.ntmps22
  go_wp2
  go_loopw [0, 6] (fun y i wr => ∃ (k : Nat), k ≤ n ∧ i = .int .i64 ((k : Int) - 1) ∧ y = .int .u64 ((x / 256 ^ (n - k) : Nat) : Int) ∧ BigRel x n w.heap.size k w wr) (fun _ i _ => (intOf i + 1).toNat)
  case atStart => exact ⟨n, by omega, rfl, by simp, hst.out⟩
  case round =>
    obtain ⟨k, hk, rfl, rfl, hR⟩ := hrel
    by_cases hlt : 0 < k
    · obtain ⟨j, rfl⟩ : ∃ j, k = j + 1 := ⟨k - 1, by omega⟩
      have HR := Lib.hid hR
      obtain ⟨cs, hs, hb, hp, hbl⟩ := hR
      obtain ⟨v, hv⟩ : ∃ v, cs[j]? = some v := ⟨cs[j]'(by omega), Array.getElem?_eq_getElem _⟩
      have hc := (hb.cell j).trans hv
      have hz := hb.frozen j
      clear hp hs hb hbl hv
      have hj : ((j + 1 : Nat) : Int) - 1 = j := by omega
      rw [hj]
      have hle : x / 256 ^ (n - (j + 1)) ≤ x := Nat.div_le_self _ _
      have hpw : n - j = n - (j + 1) + 1 := by omega
      have hdd : x / 256 ^ (n - j) = x / 256 ^ (n - (j + 1)) / 256 := by rw [hpw, Nat.pow_succ, Nat.div_div_eq_div_mul]
      have HD : Hid (((x / 256 ^ (n - j) : Nat) : Int) = ((x / 256 ^ (n - (j + 1)) : Nat) : Int) / 256) := by
        show _ = _
        rw [hdd]; omega
      have HS : ∀ v, v = ((x / 256 ^ (n - (j + 1)) % 256 : Nat) : Int) → Hid (BigRel x n w.heap.size j w (wr.setCell ⟨w.heap.size, j, none⟩ (.int .u8 v))) := fun v hv =>
        HR.out.step (by omega) v (by rw [hv, show n - 1 - j = n - (j + 1) by omega])
      have HS' := Lib.hid HS
      clear HS hpw hdd hj
      generalize x / 256 ^ (n - (j + 1)) = z at *
      have hz0 : (0 : Int) ≤ (z : Int) := by omega
      have hz1 : (z : Int) < 18446744073709551616 := by omega
      go_wp2
      go_roundw
      case rel => exact ⟨j, by omega, rfl, by rw [HD.out], by
        refine (HS'.out _ ?_).out
        simp [IntKind.wrap_u8]⟩
      case measure => simp [intOf]
    · obtain rfl : k = 0 := by omega
      have HR := Lib.hid hR
      clear hR
      go_wp2
      go_ret
      obtain ⟨cs, hs, hb, hp, hbl⟩ := HR.out
      refine ⟨rfl, ?_, hbl⟩
      have : cs = bytesA (bigL x n) := by
        apply Array.ext_getElem?
        intro i
        by_cases hi : i < n
        · rw [hp i (by omega) hi, bytesA_get, bigL_get x n i hi]; rfl
        · rw [Array.getElem?_eq_none (by omega), bytesA_get, List.getElem?_eq_none (by rw [bigL_length]; omega)]; rfl
      rwa [this] at hb
def BigAt (x k : Nat) (w : World) (e : Ending) (w' : World) : Prop :=
  ∃ g, e = .returned (.slice (some ⟨g, 0, none⟩) k k) ∧ w.heap.size ≤ g ∧ Blk w' g 5 (bytesA (bigL x k)) ∧ Fresh w w'
theorem obig_at (x k : Nat) (z n : Int) (w : World) (hz : z = x) (hn : n = k) (hx1 : x < 18446744073709551616) (h1 : 1 ≤ k) (h2 : k ≤ 64) :
    Calls Tryz.prog 22 #[.int .u64 z, .int .i64 n] w (BigAt x k w) := by
  subst hz hn
  exact (obig_yes x k w hx1 h1 h2).mono fun _ _ ⟨he, hb, hf⟩ => ⟨_, he, Nat.le_refl _, hb, hf⟩

/-- A reader at block p: what is left is l, in the slice at A of capacity c. -/
structure InAt (w : World) (p : Nat) (A : Option Addr) (c : Nat) (l : List UInt8) : Prop where
  blk : Blk w p 125 #[.slice A l.length c]
  le : l.length ≤ c
  max : c ≤ maxLen
  bytes : BS w A l
  addr : (A = none ∧ c = 0) ∨ ∃ b o, A = some ⟨b, o, none⟩ ∧ b < w.heap.size ∧ b ≠ p
theorem InAt.cell {w : World} {p c : Nat} {A : Option Addr} {l : List UInt8} (h : InAt w p A c l) : w.cell? ⟨p, 0, none⟩ = some (.slice A l.length c) := by rw [h.blk.cell]; rfl
theorem InAt.fresh {w w' : World} {p c : Nat} {A : Option Addr} {l : List UInt8} (h : InAt w p A c l) (hf : Fresh w w') : InAt w' p A c l :=
  ⟨h.blk.fresh hf, h.le, h.max, h.bytes.fresh hf, by
    rcases h.addr with h | ⟨b, o, e, hb, hn⟩
    · exact .inl h
    · exact .inr ⟨b, o, e, by have := hf.size; omega, hn⟩⟩

theorem InAt.bytesOnly {w w' : World} {p c : Nat} {A : Option Addr} {l : List UInt8} (h : InAt w p A c l) (ho : Only (· = p) w w') : BS w' A l :=
  h.bytes.only ho (fun b o e => by
    rcases h.addr with ⟨e', _⟩ | ⟨b', o', e', _, hp⟩
    · rw [e'] at e; cases e
    · rw [e'] at e; simp at e; rw [← e.1]; exact hp)

def NewPost (l : List UInt8) (w : World) (e : Ending) (w' : World) : Prop :=
  e = .returned (.pointer (some ⟨w.heap.size + 1, 0, none⟩)) ∧ InAt w' (w.heap.size + 1) (some ⟨w.heap.size, 0, none⟩) l.length l ∧ Blk w' w.heap.size 5 (bytesA l) ∧ Fresh w w'

set_option maxHeartbeats 400000 in
theorem onew (A : Option Addr) (c : Nat) (l : List UInt8) (w : World) (h : BS w A l) (hm : l.length ≤ 140737488355328) :
    Calls Tryz.prog 44 #[.slice A l.length c] w (NewPost l w) := by
  have hmk := run_make_row' (P := Tryz.prog) 28 5 (.int .u8 0) 1 Tryz.underlying28 u8_info rfl .i64 .i64 l.length (by omega) (by omega)
  have hb0 : BS (w.alloc (.cells (madeCells #[.int .u8 0] l.length) 5)) A l := h.fresh (Fresh.alloc _ _)
  have hn0 : Blk (w.alloc (.cells (madeCells #[.int .u8 0] l.length) 5)) w.heap.size 5 (madeCells #[.int .u8 0] l.length) := Blk.new _ _ _
  obtain ⟨W2, hcp, hb2, ho2, hsz⟩ := run_copy_bs (P := Tryz.prog) hb0 28 5 3 Tryz.underlying28 (by kernel_rfl) w.heap.size 0 l.length l.length c _ _ hn0 (Nat.le_refl _) (by rw [size_madeCells]; omega) (some ⟨w.heap.size, 0, none⟩) (fun _ => rfl)
  rw [over_all _ _ (by rw [size_madeCells]; simp)] at hb2
  have HB2 : Hid (Blk W2 w.heap.size 5 (bytesA l)) := hb2
  have HO2 : Hid (Fresh w W2) := ((Only.of_fresh (Fresh.alloc _ _)).trans ho2).fresh (fun k hk e => by omega)
  have HSZ : Hid (W2.heap.size = w.heap.size + 1) := by show _ = _; rw [hsz]; simp
  clear hb0 hn0 hb2 ho2 h hsz
  generalize madeCells #[.int .u8 0] l.length = Z at *
  go_enter Tryz.func44, Tryz.ntmps44
  go_wp2
  go_ret
  have e := HSZ.out
  have hb := HB2.out
  have hlt := hb.lt
  refine ⟨by rw [← e]; rfl, ?_, hb.alloc _, HO2.out.trans (Fresh.alloc _ _)⟩
  rw [← e]
  have hf := Fresh.alloc W2 (.cells #[Value.slice (some ⟨w.heap.size, 0, none⟩) l.length l.length] 125)
  exact ⟨Blk.new _ _ _, Nat.le_refl _, by unfold maxLen; omega, BS.row (hb.fresh hf), .inr ⟨_, _, rfl, by simp; omega, by omega⟩⟩

theorem u8_size : ∀ W : World, (Go.sizeOf 5).run Tryz.prog W = .ok 1 W := fun W => by kernel_rfl

def TakePost (p : Nat) (A : Option Addr) (c : Nat) (l : List UInt8) (n : Nat) (w : World) (e : Ending) (w' : World) : Prop :=
  e = .returned (.tuple #[.slice A n n, .bool true]) ∧ InAt w' p (cutA A n c) (c - n) (l.drop n) ∧ Only (· = p) w w' ∧ BS w' A (l.take n)

theorem InAt.cut {w : World} {p c : Nat} {A : Option Addr} {l : List UInt8} (h : InAt w p A c l) (n : Nat) (hn : n ≤ l.length) :
    InAt (w.setCell ⟨p, 0, none⟩ (.slice (cutA A n c) (l.length - n) (c - n))) p (cutA A n c) (c - n) (l.drop n) := by
  have hle := h.le
  have hmx := h.max
  refine ⟨?_, by simp; omega, by unfold maxLen at *; omega, ?_, ?_⟩
  · have := h.blk.set 0 (.slice (cutA A n c) (l.length - n) (c - n))
    rw [List.length_drop]
    exact this
  · rcases h.addr with ⟨rfl, rfl⟩ | ⟨b, o, rfl, hb, hp⟩
    · have : l.drop n = [] := List.drop_eq_nil_of_le (by omega)
      rw [this]; exact BS.nil _ _
    · unfold cutA
      by_cases e : c = n
      · have : l.drop n = [] := List.drop_eq_nil_of_le (by omega)
        rw [this]; exact BS.nil _ _
      · rw [if_neg e]
        have h1 : Option.map (fun x : Addr => x.add n) (some ⟨b, o, none⟩) = some ⟨b, o + n, none⟩ := by simp [add_eq]
        rw [h1]
        exact (h.bytes.drop n).only (Only.setCell _ ⟨p, 0, none⟩ _) (fun b' o' e' => by simp at e'; rw [← e'.1]; exact hp)
  · rcases h.addr with ⟨rfl, rfl⟩ | ⟨b, o, rfl, hb, hp⟩
    · left
      unfold cutA
      split <;> simp
    · right
      unfold cutA
      split
      · exact ⟨b, o, rfl, by simpa [World.setCell] using hb, hp⟩
      · exact ⟨b, o + n, by simp [add_eq], by simpa [World.setCell] using hb, hp⟩

set_option maxHeartbeats 400000 in
theorem otake_yes (p : Nat) (A : Option Addr) (c : Nat) (l : List UInt8) (n : Nat) (w : World) (h : InAt w p A c l) (hn : n ≤ l.length) :
    Calls Tryz.prog 75 #[.pointer (some ⟨p, 0, none⟩), .int .i64 n] w (TakePost p A c l n w) := by
  have hc := h.cell
  have hz := h.blk.frozen 0
  have hle := h.le
  have hmx := h.max
  unfold maxLen at hmx
  have HC := Lib.hid (h.cut n hn)
  have HBS := Lib.hid ((h.bytesOnly (Only.setCell w ⟨p, 0, none⟩ (.slice (cutA A n c) (l.length - n) (c - n)))).take n)
  have h1 := run_cut_full (P := Tryz.prog) Tryz.underlying28 u8_size A l.length c n (by omega)
  have h2 := run_cut_from (P := Tryz.prog) Tryz.underlying28 u8_size A l.length c n hn
  clear h
  go_enter Tryz.func75, Tryz.ntmps75
  go_wp2
  go_ret2
  exact ⟨rfl, HC.out, Only.setCell _ ⟨p, 0, none⟩ _, HBS.out⟩
theorem otake_no (p : Nat) (A : Option Addr) (c : Nat) (l : List UInt8) (n : Int) (w : World) (h : InAt w p A c l) (hn : ¬ (0 ≤ n ∧ n ≤ l.length)) :
    Calls Tryz.prog 75 #[.pointer (some ⟨p, 0, none⟩), .int .i64 n] w fun e w' => e = .returned (.tuple #[.slice none 0 0, .bool false]) ∧ w = w' := by
  have hc := h.cell
  clear h
  by_cases h0 : n < 0
  · clear hn
    go_enter Tryz.func75, Tryz.ntmps75
    go_wp2
    go_ret2
    exact ⟨rfl, rfl⟩
  · have h1 : (l.length : Int) < n := by omega
    clear hn
    go_enter Tryz.func75, Tryz.ntmps75
    go_wp2
    go_ret2
    exact ⟨rfl, rfl⟩
def BytePost (p : Nat) (A : Option Addr) (c : Nat) (l : List UInt8) (w : World) (e : Ending) (w' : World) : Prop :=
  (∀ h : 0 < l.length, e = .returned (.tuple #[.int .i64 (l[0].toNat : Int), .bool true]) ∧ InAt w' p (cutA A 1 c) (c - 1) (l.drop 1) ∧ Only (· = p) w w') ∧
  (l.length = 0 → e = .returned (.tuple #[.int .i64 0, .bool false]) ∧ w = w')
set_option maxHeartbeats 400000 in
theorem obyte (p : Nat) (A : Option Addr) (c : Nat) (l : List UInt8) (w : World) (h : InAt w p A c l) :
    Calls Tryz.prog 56 #[.pointer (some ⟨p, 0, none⟩)] w (BytePost p A c l w) := by
  by_cases h0 : 0 < l.length
  · have HT := Lib.hid (otake_yes p A c l 1 w h h0)
    obtain ⟨b, o, rfl, hb, hcs⟩ := h.bytes.addr h0
    have hcell := hcs 0 h0
    have hbp : b ≠ p := by
      rcases h.addr with ⟨e, _⟩ | ⟨b', o', e, _, hp⟩
      · cases e
      · simp at e; rw [e.1]; exact hp
    clear hcs
    unfold byteV at hcell
    have hlt := UInt8.toNat_lt l[0]
    go_enter Tryz.func56, Tryz.ntmps56
    go_wp2_with fail
    refine HT.out.mono ?_
    rintro e w1 ⟨rfl, hI, ho, _⟩
    have hc1 := (ho.cell (p := ⟨b, o + 0, none⟩) hb hbp).trans hcell
    simp only [Nat.add_zero] at hc1
    have HI := Lib.hid hI
    clear hI h hcell
    go_wp2_with fail
    go_ret2
    exact ⟨fun _ => ⟨rfl, HI.out, ho⟩, fun he => by omega⟩
  · have HT := Lib.hid (otake_no p A c l 1 w h (by omega))
    clear h
    go_enter Tryz.func56, Tryz.ntmps56
    go_wp2_with fail
    refine HT.out.mono ?_
    rintro e w1 ⟨rfl, rfl⟩
    go_wp2_with fail
    go_ret2
    exact ⟨fun he => absurd he h0, fun _ => ⟨rfl, rfl⟩⟩
def RNumPost (p : Nat) (A : Option Addr) (c : Nat) (l : List UInt8) (n : Nat) (w : World) (e : Ending) (w' : World) : Prop :=
  e = .returned (.tuple #[.int .u64 (numL (l.take n)), .bool true]) ∧ InAt w' p (cutA A n c) (c - n) (l.drop n) ∧ Only (· = p) w w'
set_option maxHeartbeats 400000 in
theorem ornum_yes (p : Nat) (A : Option Addr) (c : Nat) (l : List UInt8) (n : Nat) (w : World) (h : InAt w p A c l) (hn : n ≤ l.length) (h8 : n ≤ 8) :
    Calls Tryz.prog 55 #[.pointer (some ⟨p, 0, none⟩), .int .i64 n] w (RNumPost p A c l n w) := by
  have HT := Lib.hid (otake_yes p A c l n w h hn)
  have hlen : (l.take n).length = n := by simp; omega
  have HN : ∀ w', Only (· = p) w w' → Hid (Calls Tryz.prog 48 #[.slice A n n] w' fun e w2 => e = .returned (.tuple #[.int .u64 (numL (l.take n)), .bool true]) ∧ w' = w2) := by
    intro w' ho
    have hbs : BS w' A (l.take n) := (h.bytes.take n).only ho (fun b o e => by
      rcases h.addr with ⟨e', _⟩ | ⟨b', o', e', _, hp⟩
      · rw [e'] at e; cases e
      · rw [e'] at e; simp at e; rw [← e.1]; exact hp)
    have := onum_yes A n (l.take n) w' (by omega) hbs
    rw [hlen] at this
    exact this
  have HN' := Lib.hid HN
  clear HN hlen h
  go_enter Tryz.func55, Tryz.ntmps55
  go_wp2_with fail
  refine HT.out.mono ?_
  rintro e w1 ⟨rfl, hI, ho, _⟩
  have HC := HN'.out w1 ho
  have HI := Lib.hid hI
  clear hI
  go_wp2_with fail
  refine HC.out.mono ?_
  rintro e w2 ⟨rfl, rfl⟩
  go_wp2_with fail
  go_ret2
  exact ⟨rfl, HI.out, ho⟩
theorem ornum_no (p : Nat) (A : Option Addr) (c : Nat) (l : List UInt8) (n : Int) (w : World) (h : InAt w p A c l) (hn : ¬ (0 ≤ n ∧ n ≤ l.length ∧ n ≤ 8)) :
    Calls Tryz.prog 55 #[.pointer (some ⟨p, 0, none⟩), .int .i64 n] w fun e w' => e = .returned (.tuple #[.int .u64 0, .bool false]) ∧ w = w' := by
  by_cases h8 : 8 < n
  · clear hn
    go_enter Tryz.func55, Tryz.ntmps55
    go_wp2_with fail
    go_ret2
    exact ⟨rfl, rfl⟩
  · have HT := Lib.hid (otake_no p A c l n w h (by omega))
    clear hn h
    go_enter Tryz.func55, Tryz.ntmps55
    go_wp2_with fail
    refine HT.out.mono ?_
    rintro e w1 ⟨rfl, rfl⟩
    go_wp2_with fail
    go_ret2
    exact ⟨rfl, rfl⟩
theorem oleft (p : Nat) (A : Option Addr) (c : Nat) (l : List UInt8) (w : World) (h : InAt w p A c l) :
    Calls Tryz.prog 78 #[.pointer (some ⟨p, 0, none⟩)] w fun e w' => e = .returned (.int .i64 (l.length : Int)) ∧ w = w' := by
  have hc := h.cell
  clear h
  go_enter Tryz.func78, Tryz.ntmps78
  go_wp2_with fail
  go_ret
  exact ⟨rfl, rfl⟩
def RestPost (p : Nat) (A : Option Addr) (l : List UInt8) (w : World) (e : Ending) (w' : World) : Prop :=
  e = .returned (.slice A l.length l.length) ∧ InAt w' p none 0 [] ∧ Only (· = p) w w' ∧ BS w' A l
set_option maxHeartbeats 400000 in
theorem orest (p : Nat) (A : Option Addr) (c : Nat) (l : List UInt8) (w : World) (h : InAt w p A c l) :
    Calls Tryz.prog 45 #[.pointer (some ⟨p, 0, none⟩)] w (RestPost p A l w) := by
  have hc := h.cell
  have hz := h.blk.frozen 0
  have hle := h.le
  have hmx := h.max
  unfold maxLen at hmx
  have h1 := run_cut_full (P := Tryz.prog) Tryz.underlying28 u8_size A l.length c l.length (by omega)
  have HB := Lib.hid h.blk
  have HBS := Lib.hid (fun w' ho => InAt.bytesOnly (w' := w') h ho)
  clear h
  go_enter Tryz.func45, Tryz.ntmps45
  go_wp2_with fail
  go_quiet (fail)
  go_wp2_with fail
  go_ret
  refine ⟨rfl, ⟨?_, by simp, by simp [maxLen], BS.nil _ _, .inl ⟨rfl, rfl⟩⟩, ?_, HBS.out _ ?_⟩
  · exact (HB.out.drewN _).set 0 _
  · exact (Only.of_fresh (Fresh.drewN w _)).trans (Only.setCell _ ⟨p, 0, none⟩ _)
  · exact (Only.of_fresh (Fresh.drewN w _)).trans (Only.setCell _ ⟨p, 0, none⟩ _)
end Go.Proofs.YtginhebfjbhmnaaGreat

/-
  An append of a slice of bytes to a row of the call's own.
-/
namespace Go.Proofs.YtginhebfjbhmnaaGreat
set_option maxRecDepth 100000
set_option linter.unusedVariables false
open Go.RowKit

/-- An append leaves what was read by the old value. -/
theorem append_keeps {P : Program} (w : World) (base : Nat) (t ty e : TypeId) (i : TypeInfo) (z : Value) (size bytes : Nat) (ht : P.underlying t = some (.slice e)) (hi : P.info? e = some i) (hz : i.zero = some z)
    (hsize : i.size = size) (hby : i.bytes = bytes) (v : Value) (n : Nat) (xs : List Value) (hown : w.ownsRow base e size v n xs)
    (a : Addr) (m c : Nat) (news : List Value) (hl : news.length = m * size) (hnews : ∀ j u, news[j]? = some u → w.cell? (a.add j) = some u) (h1 : ∀ u ∈ news, u.oneCell' = true)
    (h63 : n + m ≤ maxLen) (hbytes : (n + m) * bytes ≤ 140737488355328) {v' : Value} {w' : World} (hrun : (Builtin.append_ #[t, t] ty #[v, .slice (some a) m c]).run P w = .ok v' w') :
    w'.ownsRow base e size v n xs := by
  have h63' := h63
  unfold maxLen at h63'
  rcases hown.2 with ⟨rfl, rfl⟩ | ⟨g, cap, cur, rfl, hbg, hg, hnc, hcm, hcs, htake⟩
  · have : xs = [] := List.eq_nil_of_length_eq_zero (by simpa using hown.1)
    subst this
    exact World.ownsRow_nil _ _ _ _
  · by_cases hroom : n + m ≤ cap
    · obtain ⟨w2, hr, ho, _⟩ := run_append_fits (P := P) w base t ty e i size ht hi hsize g n cap xs hown a m c news hl hnews h1 hroom
      rw [hr] at hrun
      cases hrun
      rcases ho.2 with ⟨hh, _⟩ | ⟨g', cap', cur', hh, hbg', hg', hnc', hcm', hcs', htake'⟩
      · cases hh
      · cases hh
        refine ⟨hown.1, .inr ⟨_, _, cur', rfl, hbg', hg', hnc, hcm', hcs', ?_⟩⟩
        have h2 := congrArg (List.take (n * size)) htake'
        rw [List.take_take, Nat.min_eq_left (Nat.mul_le_mul_right _ (by omega)), ← hown.1, List.take_left] at h2
        rw [← hown.1]
        exact h2
    · subst hsize hby
      have hr := run_append_grow (P := P) w t ty e i z ht hi hz ⟨g, 0, none⟩ n cap xs hown.1 (hown.cells (g := g) rfl) a m c news hl hnews (by omega) (by omega) (growslice_fits (by omega) hbytes)
      rw [hr] at hrun
      cases hrun
      exact Own.fresh (show Own w base e _ _ n xs from hown) ((Fresh.drew w).trans (Fresh.alloc _ _))

section
variable {P : Program} {T E : TypeId} (hT : P.underlying T = some (.slice E)) (hinfo : (P.info? E).map (fun i => (i.zero, i.size, i.bytes)) = some (some (.int .u8 0), 1, 1))
include hT hinfo
theorem Own.more {w0 w : World} {base n : Nat} {v : Value} {xs : List Value} (ty : TypeId) (h : Own w base E 1 v n xs) (hb : Below base w0 w) (hbase : base ≤ w0.heap.size) (A : Option Addr) (c : Nat) (l : List UInt8) (hS : BS w A l) (hlc : l.length ≤ c)
    (hn : n + l.length ≤ maxLen) (hbytes : n + l.length ≤ 140737488355328) :
    ∃ v' w', (Builtin.append_ #[T, T] ty #[v, .slice A l.length c]).run P w = .ok v' w' ∧ Own w' base E 1 v' (n + l.length) (xs ++ l.map byteV) ∧ Below base w0 w' ∧ w.grownBy w' v.ownBlock ∧ Own w' base E 1 v n xs := by
  obtain ⟨i, hi, hiz, his, hib⟩ := info_parts hinfo
  cases A with
  | none =>
    have hl : l = [] := by
      rcases l with _ | ⟨x, l⟩
      · rfl
      · obtain ⟨b, o, e, _⟩ := hS.addr (by simp)
        cases e
    subst hl
    refine ⟨v, w, ?_, by simpa using h, hb, World.grownBy.refl _ _, h⟩
    rcases h.2 with ⟨rfl, rfl⟩ | ⟨g, cap, cur, rfl, _, _, hnc, _⟩
    · simp [Builtin.append_, run_underlying hT, sizeOf, typeInfo, hi, Builtin.lenOf, Builtin.firstCells]
    · simp [Builtin.append_, run_underlying hT, sizeOf, typeInfo, hi, Builtin.lenOf, Builtin.firstCells, hnc, storeCells]
  | some a =>
    have hcs : ∀ j u, (l.map byteV)[j]? = some u → w.cell? (a.add j) = some u := fun j u hj => by
      have hjl : j < l.length := by
        rcases Nat.lt_or_ge j l.length with h | h
        · exact h
        · rw [List.getElem?_eq_none (by simpa using h)] at hj; cases hj
      obtain ⟨b, o, e, _, hc⟩ := hS.addr (by omega)
      injection e with e
      subst e
      rw [add_eq _ _ rfl, hc j hjl]
      rw [List.getElem?_map, List.getElem?_eq_getElem hjl] at hj
      exact hj
    have h1 : ∀ u ∈ l.map byteV, u.oneCell' = true := by
      intro u hu
      rw [List.mem_map] at hu
      obtain ⟨x, _, rfl⟩ := hu
      rfl
    obtain ⟨v', w', hr, ho, hg, hnil⟩ := run_append_own (P := P) w base T ty E i (.int .u8 0) 1 1 hT hi hiz his hib rfl (by omega) v n xs h a l.length c (l.map byteV) (by simp) hcs h1 hn (by omega) (by have := hb.size; omega)
    have hk := append_keeps (P := P) w base T ty E i (.int .u8 0) 1 1 hT hi hiz his hib v n xs h a l.length c (l.map byteV) (by simp) hcs h1 hn (by omega) hr
    refine ⟨v', w', hr, ho, ?_, hg, hk⟩
    have hlt := h.lt
    exact hb.grown hg (by have := hb.size; omega) (fun k hk => (hlt k hk).1)
end
end Go.Proofs.YtginhebfjbhmnaaGreat

/-
  '==' between arrays of whole numbers.
-/
namespace Go.Proofs.YtginhebfjbhmnaaGreat
set_option maxRecDepth 100000
set_option linter.unusedVariables false
open Go.RowKit

section
variable {P : Program} {t e : TypeId} {k : IntKind}
theorem run_eqItems_ints (he : P.underlying e = some (.int k)) (d : Nat) (xs ys : List Int) (w : World) : ∀ (is : List Nat), (∀ i ∈ is, i < xs.length ∧ i < ys.length) →
    (Op.eqItems (d + 1) e 1 (xs.map (Value.int k)).toArray (ys.map (Value.int k)).toArray is).run P w = .ok (is.all fun i => xs.getD i 0 == ys.getD i 0) w
  | [], _ => by simp [Op.eqItems]
  | i :: is, h => by
    have hi := h i (by simp)
    have hk : P.plainKey e = true := by simp [Program.plainKey, he]
    have p1 := run_part_plain (P := P) w (e := e) hk (xs := (xs.map (Value.int k)).toArray) (off := i * 1) (v := .int k (xs.getD i 0)) (by simp [hi.1])
    have p2 := run_part_plain (P := P) w (e := e) hk (xs := (ys.map (Value.int k)).toArray) (off := i * 1) (v := .int k (ys.getD i 0)) (by simp [hi.2])
    have ih := run_eqItems_ints he d xs ys w is (fun j hj => h j (by simp [hj]))
    simp only [Op.eqItems, Sem.run_bind, p1, p2, Result.andThen_ok, run_equalIn_int w d e k k _ _ he, List.all_cons]
    cases hxy : (xs.getD i 0 == ys.getD i 0) with
    | false => simp
    | true => simpa using ih
theorem list_eq_all (xs ys : List Int) (n : Nat) (hx : xs.length = n) (hy : ys.length = n) : ((List.range n).all fun i => xs.getD i 0 == ys.getD i 0) = decide (xs = ys) := by
  rw [Bool.eq_iff_iff]
  simp only [List.all_eq_true, List.mem_range, beq_iff_eq, decide_eq_true_eq]
  constructor
  · intro h
    apply List.ext_getElem (by omega)
    intro i h1 h2
    have := h i (by omega)
    rw [List.getD_eq_getElem?_getD, List.getD_eq_getElem?_getD, List.getElem?_eq_getElem h1, List.getElem?_eq_getElem h2] at this
    simpa using this
  · rintro rfl i _
    rfl
theorem run_equalIn_ints {n : Nat} (ht : P.underlying t = some (.array n e)) (he : P.underlying e = some (.int k)) (hinfo : (P.info? e).map (·.size) = some 1) (d : Nat) (xs ys : List Int) (hx : xs.length = n) (hy : ys.length = n) (w : World) :
    (Op.equalIn (d + 2) t (.agg (xs.map (Value.int k)).toArray) (.agg (ys.map (Value.int k)).toArray)).run P w = .ok (decide (xs = ys)) w := by
  obtain ⟨i, hi, hs⟩ : ∃ i, P.info? e = some i ∧ i.size = 1 := by
    cases h : P.info? e with
    | none => rw [h] at hinfo; simp at hinfo
    | some i => rw [h] at hinfo; exact ⟨i, rfl, by simpa using hinfo⟩
  rw [run_equalIn_array w (d + 1) _ _ ht hi]
  have hc : P.cellsOf e = 1 := by simp [Program.cellsOf, hi, hs]
  rw [hc, run_eqItems_ints he d xs ys w _ (fun j hj => by have := List.mem_range.1 hj; omega), list_eq_all xs ys n hx hy]
end
end Go.Proofs.YtginhebfjbhmnaaGreat

/-
  Contracts of package frame: its methods.
-/
namespace Go.Proofs.YtginhebfjbhmnaaGreat
set_option maxRecDepth 100000
set_option linter.unusedVariables false
open Go.RowKit

set_option maxHeartbeats 400000 in
theorem fhas (ty fl st : Int) (A : Option Addr) (n c : Nat) (flag : Int) (w : World) :
    Calls Tryz.prog 38 #[.agg #[.int .i64 ty, .int .i64 fl, .int .i64 st, .slice A n c], .int .i64 flag] w fun e w' => e = .returned (.bool (oneP flag && !(bits .and .i64 fl flag == 0))) ∧ Fresh w w' := by
  by_cases h0 : flag < 1
  · have ho := Lib.hid (oneP_out (z := flag) (.inl h0))
    go_enter Tryz.func38, Tryz.ntmps38
    go_wp2
    go_ret
    exact ⟨by rw [ho.out]; rfl, Fresh.alloc _ _⟩
  · by_cases h1 : 255 < flag
    · have ho := Lib.hid (oneP_out (z := flag) (.inr h1))
      go_enter Tryz.func38, Tryz.ntmps38
      go_wp2
      go_ret
      exact ⟨by rw [ho.out]; rfl, Fresh.alloc _ _⟩
    · obtain ⟨k, rfl⟩ : ∃ k : Nat, flag = k := ⟨flag.toNat, by omega⟩
      have hk := one_nat k (by omega) (by omega)
      have ha : bits .and .i64 (k : Int) ((k : Int) - 1) = ((k &&& (k - 1) : Nat) : Int) := by
        have := i64_and_nat k (k - 1) (by omega) (by omega)
        rwa [show ((k - 1 : Nat) : Int) = (k : Int) - 1 by omega] at this
      have hb : (((k &&& (k - 1) : Nat) : Int) == 0) = oneP (k : Int) := by
        rw [← hk, Bool.eq_iff_iff]
        simp
      rw [← ha] at hb
      clear ha hk
      cases ho : oneP (k : Int) with
      | false =>
        rw [ho] at hb
        have HO := Lib.hid ho
        clear ho
        go_enter Tryz.func38, Tryz.ntmps38
        go_wp2
        all_goals (go_ret; exact ⟨rfl, Fresh.alloc _ _⟩)
      | true =>
        rw [ho] at hb
        have HO := Lib.hid ho
        clear ho
        go_enter Tryz.func38, Tryz.ntmps38
        go_wp2
        go_ret
        exact ⟨by simp [bne], Fresh.alloc _ _⟩
theorem flen (ty fl st : Int) (A : Option Addr) (n c : Nat) (w : World) (hn : n ≤ 9223372036854775000) :
    Calls Tryz.prog 21 #[.agg #[.int .i64 ty, .int .i64 fl, .int .i64 st, .slice A n c]] w fun e w' => e = .returned (.int .i64 (9 + (n : Int))) ∧ Fresh w w' := by
  go_enter Tryz.func21, Tryz.ntmps21
  go_wp2
  go_ret
  exact ⟨rfl, Fresh.alloc _ _⟩
theorem flen_at (ty fl st : Int) (A : Option Addr) (n c : Nat) (z : Int) (w : World) (hn : n ≤ 9223372036854775000) (hz : z = 9 + (n : Int)) :
    Calls Tryz.prog 21 #[.agg #[.int .i64 ty, .int .i64 fl, .int .i64 st, .slice A n c]] w fun e w' => e = .returned (.int .i64 z) ∧ Fresh w w' := by
  subst hz
  exact flen ty fl st A n c w hn
set_option maxHeartbeats 800000 in
theorem fright (ty fl st : Int) (A : Option Addr) (n c : Nat) (w : World) :
    Calls Tryz.prog 20 #[.agg #[.int .i64 ty, .int .i64 fl, .int .i64 st, .slice A n c]] w fun e w' => e = .returned (.bool (frR ty fl st n)) ∧ Fresh w w' := by
  go_enter Tryz.func20, Tryz.ntmps20
  go_wp2
  all_goals (go_ret; exact ⟨ret_bool (by unfold frR; first | exact (decide_eq_true (by omega)).symm | exact (decide_eq_false (by omega)).symm | (rw [decide_eq_decide]; omega)), Fresh.alloc _ _⟩)
theorem bequal (A B : Option Addr) (l m : List UInt8) (c d : Nat) (w : World) (hA : BS w A l) (hB : BS w B m) :
    Calls Tryz.prog 28 #[.slice A l.length c, .slice B m.length d] w fun e w' => e = .returned (.bool (l == m)) ∧ w = w' := by
  have h1 := run_str (P := Tryz.prog) hA 28 9 5 Tryz.underlying28 Tryz.underlying5 Tryz.underlying9 c
  have h2 := run_str (P := Tryz.prog) hB 28 9 5 Tryz.underlying28 Tryz.underlying5 Tryz.underlying9 d
  go_enter Tryz.func28, Tryz.ntmps28
  go_wp2
  go_ret
  exact ⟨by simp [strB], rfl⟩
end Go.Proofs.YtginhebfjbhmnaaGreat

