/-
  Contracts of package reasm.
-/
import Derived.Test.YtgmgnokmeocmjaaFrameA
namespace Go.Proofs.Ytgmgnokmeocmjaa
set_option linter.unusedVariables false
open Go.RowKit

/-- How many bytes more there must be. -/
def needI (l : List UInt8) : Int := if l.length < 9 then 9 - (l.length : Int) else 9 + (numL (l.take 3) : Int) - (l.length : Int)
theorem parseK_16 {l : List UInt8} {most : Int} (h : parseK l most = 16) : l.length < 9 ∨ (9 ≤ l.length ∧ (numL (l.take 3) : Int) ≤ most ∧ l.length < 9 + numL (l.take 3)) := by
  unfold parseK at h
  split at h
  · omega
  · split at h
    · omega
    · split at h
      · omega
      · omega
theorem needI_pos {l : List UInt8} {most : Int} (h : parseK l most = 16) : 1 ≤ needI l ∧ needI l ≤ 16777224 := by
  have := numL_take3 l
  unfold needI
  rcases parseK_16 h with h | ⟨h1, h2, h3⟩
  · rw [if_pos h]; omega
  · rw [if_neg (by omega)]; omega
theorem parse_need {l b : List UInt8} {most : Int} (h : parseK l most = 16) (hb : (b.length : Int) < needI l) : parseK (l ++ b) most = 16 := by
  have hlen : (l ++ b).length = l.length + b.length := List.length_append
  unfold needI at hb
  rcases parseK_16 h with h | ⟨h1, h2, h3⟩
  · rw [if_pos h] at hb
    unfold parseK
    rw [if_pos (by omega)]
  · rw [if_neg (by omega)] at hb
    have ht : (l ++ b).take 3 = l.take 3 := List.take_append_of_le_length (by omega)
    unfold parseK
    rw [ht, if_neg (by omega), if_neg (by omega), if_pos (by omega)]

/-- A living reassembler at block p: the bytes l wait, in the row v. -/
structure RsAt (w : World) (p : Nat) (most : Int) (l : List UInt8) (v : Value) : Prop where
  blk : Blk w p 48 #[.int .i64 most, v, .bool false]
  own : Own w 0 5 1 v l.length (l.map byteV)
  inv : parseK l most = 16
  m0 : 0 ≤ most
  m1 : most ≤ 16777215
/-- A dead one. -/
def RsDead (w : World) (p : Nat) : Prop := ∃ A c, Blk w p 48 #[.int .i64 0, .slice A 0 c, .bool true]
theorem RsAt.only {S : Nat → Prop} {w w' : World} {p : Nat} {most : Int} {l : List UInt8} {v : Value} (h : RsAt w p most l v) (ho : Only S w w') (hp : ¬ S p) (hv : ∀ k, v.ownBlock = some k → ¬ S k) : RsAt w' p most l v :=
  ⟨h.blk.only ho hp, h.own.only ho hv, h.inv, h.m0, h.m1⟩
theorem RsAt.fresh {w w' : World} {p : Nat} {most : Int} {l : List UInt8} {v : Value} (h : RsAt w p most l v) (hf : Fresh w w') : RsAt w' p most l v :=
  ⟨h.blk.fresh hf, h.own.fresh hf, h.inv, h.m0, h.m1⟩
theorem RsAt.ne {w : World} {p : Nat} {most : Int} {l : List UInt8} {v : Value} (h : RsAt w p most l v) : ∀ k, v.ownBlock = some k → k ≠ p ∧ k < w.heap.size := fun k hk => by
  obtain ⟨cur, hc⟩ := h.own.blk hk
  exact ⟨fun e => by subst e; exact hc.ne h.blk (by decide) rfl, hc.lt⟩
theorem RsAt.len {w : World} {p : Nat} {most : Int} {l : List UInt8} {v : Value} (h : RsAt w p most l v) : l.length ≤ 16777224 := by
  have := numL_take3 l
  have := h.m1
  rcases parseK_16 h.inv with h | ⟨h1, h2, h3⟩ <;> omega
theorem RsDead.only {S : Nat → Prop} {w w' : World} {p : Nat} (h : RsDead w p) (ho : Only S w w') (hp : ¬ S p) : RsDead w' p := by
  obtain ⟨A, c, h⟩ := h
  exact ⟨A, c, h.only ho hp⟩
theorem RsDead.fresh {w w' : World} {p : Nat} (h : RsDead w p) (hf : Fresh w w') : RsDead w' p := by
  obtain ⟨A, c, h⟩ := h
  exact ⟨A, c, h.fresh hf⟩

section
variable {w : World} {g : Nat} {t : TypeId} {a b c : Value}
theorem Blk.z3 (h : Blk w g t #[a, b, c]) : w.frozen? ⟨g, 0, none⟩ = false ∧ w.frozen? ⟨g, 1, none⟩ = false ∧ w.frozen? ⟨g, 2, none⟩ = false := ⟨h.frozen 0, h.frozen 1, h.frozen 2⟩
end

def RNew (most : Int) (w : World) (e : Ending) (w' : World) : Prop :=
  ∃ p, e = .returned (.tuple #[.pointer (some ⟨p, 0, none⟩), .int .i64 0]) ∧ w.heap.size ≤ p ∧ RsAt w' p most [] (.slice none 0 0) ∧ Fresh w w'
theorem rnew_no (most : Int) (w : World) (h : most < 0 ∨ 16777215 < most) :
    Calls Try.prog 9 #[.int .i64 most] w fun e w' => e = .returned (.tuple #[.pointer none, .int .i64 11]) ∧ w = w' := by
  rcases h with h | h
  · go_enter Try.func9, Try.ntmps9
    go_wp2
    go_ret2
    exact ⟨rfl, rfl⟩
  · have h' : ¬ most < 0 := by omega
    go_enter Try.func9, Try.ntmps9
    go_wp2
    go_ret2
    exact ⟨rfl, rfl⟩
theorem rnew (most : Int) (w : World) (h0 : 0 ≤ most) (h1 : most ≤ 16777215) :
    Calls Try.prog 9 #[.int .i64 most] w (RNew most w) := by
  have h0' : ¬ most < 0 := by omega
  have h1' : ¬ 16777215 < most := by omega
  go_enter Try.func9, Try.ntmps9
  go_wp2
  go_ret2
  exact ⟨w.heap.size, rfl, Nat.le_refl _, ⟨Blk.new _ _ _, Own.nil _ _ _ _, rfl, h0, h1⟩, Fresh.alloc _ _⟩

set_option maxHeartbeats 800000 in
theorem rneeds (p : Nat) (most : Int) (l : List UInt8) (v : Value) (w : World) (h : RsAt w p most l v) :
    Calls Try.prog 14 #[.pointer (some ⟨p, 0, none⟩)] w fun e w' => e = .returned (.int .i64 (needI l)) ∧ w = w' := by
  obtain ⟨A, c, rfl, hlc, hcm, _⟩ := h.own.slice
  obtain ⟨c0, c1, c2⟩ := h.blk.c3
  have hlen := h.len
  have hN3 := numL_take3 l
  unfold maxLen at hcm
  by_cases h9 : l.length < 9
  · have h9' : (l.length : Int) < 9 := by omega
    have HN : Hid (needI l = 9 - (l.length : Int)) := by show _ = _; unfold needI; rw [if_pos h9]
    clear h h9
    go_enter Try.func14, Try.ntmps14
    go_wp2
    go_ret
    exact ⟨by rw [HN.out]; rfl, rfl⟩
  · have h9' : ¬ (l.length : Int) < 9 := by omega
    have HN : Hid (needI l = 9 + (numL (l.take 3) : Int) - (l.length : Int)) := by show _ = _; unfold needI; rw [if_neg h9]
    have h1 := run_cut_to (P := Try.prog) Try.underlying29 u8_size A l.length c 3 (by omega)
    rw [show ((3 : Nat) : Int) = 3 by omega] at h1
    have HNum := Lib.hid (onum_yes A c (l.take 3) w (by simp; omega) (h.own.bytes.1.take 3))
    rw [show (l.take 3).length = 3 by simp; omega] at HNum
    clear h h9
    generalize numL (l.take 3) = N at *
    go_enter Try.func14, Try.ntmps14
    go_wp2_with fail
    with_reducible refine HNum.out.mono ?_
    rintro e w' ⟨rfl, rfl⟩
    go_wp2
    go_ret
    exact ⟨by rw [HN.out]; rfl, rfl⟩
theorem rneeds_dead (p : Nat) (w : World) (h : RsDead w p) :
    Calls Try.prog 14 #[.pointer (some ⟨p, 0, none⟩)] w fun e w' => e = .returned (.int .i64 0) ∧ w = w' := by
  obtain ⟨A, c, h⟩ := h
  obtain ⟨c0, c1, c2⟩ := Blk.c3 h
  clear h
  go_enter Try.func14, Try.ntmps14
  go_wp2
  go_ret
  exact ⟨rfl, rfl⟩
theorem rwaiting (p : Nat) (most : Int) (l : List UInt8) (v : Value) (w : World) (h : RsAt w p most l v) :
    Calls Try.prog 13 #[.pointer (some ⟨p, 0, none⟩)] w fun e w' => e = .returned (.int .i64 (l.length : Int)) ∧ w = w' := by
  obtain ⟨A, c, rfl, _⟩ := h.own.slice
  obtain ⟨c0, c1, c2⟩ := h.blk.c3
  clear h
  go_enter Try.func13, Try.ntmps13
  go_wp2
  go_ret
  exact ⟨rfl, rfl⟩
theorem rwaiting_dead (p : Nat) (w : World) (h : RsDead w p) :
    Calls Try.prog 13 #[.pointer (some ⟨p, 0, none⟩)] w fun e w' => e = .returned (.int .i64 0) ∧ w = w' := by
  obtain ⟨A, c, h⟩ := h
  obtain ⟨c0, c1, c2⟩ := Blk.c3 h
  clear h
  go_enter Try.func13, Try.ntmps13
  go_wp2
  go_ret
  exact ⟨rfl, rfl⟩
theorem rdead_no (p : Nat) (most : Int) (l : List UInt8) (v : Value) (w : World) (h : RsAt w p most l v) :
    Calls Try.prog 11 #[.pointer (some ⟨p, 0, none⟩)] w fun e w' => e = .returned (.bool false) ∧ w = w' := by
  obtain ⟨c0, c1, c2⟩ := h.blk.c3
  clear h
  go_enter Try.func11, Try.ntmps11
  go_wp2
  go_ret
  exact ⟨rfl, rfl⟩
theorem rdead_yes (p : Nat) (w : World) (h : RsDead w p) :
    Calls Try.prog 11 #[.pointer (some ⟨p, 0, none⟩)] w fun e w' => e = .returned (.bool true) ∧ w = w' := by
  obtain ⟨A, c, h⟩ := h
  obtain ⟨c0, c1, c2⟩ := Blk.c3 h
  clear h
  go_enter Try.func11, Try.ntmps11
  go_wp2
  go_ret
  exact ⟨rfl, rfl⟩
end Go.Proofs.Ytgmgnokmeocmjaa
