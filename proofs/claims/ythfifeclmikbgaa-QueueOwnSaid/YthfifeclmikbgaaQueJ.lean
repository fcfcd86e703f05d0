/-
  Package queue: Drop.
-/
import Derived.Test.YthfifeclmikbgaaQueI
namespace Go.Proofs.Ythfifeclmikbgaa
set_option linter.unusedVariables false
set_option linter.unusedSimpArgs false
open Go.RowKit
section
variable {base q R n : Nat} {by_ it : Int} {ro : Rows} {w : World}
def DropNo (w : World) (e : Ending) (w' : World) : Prop := e = .returned (.bool false) ∧ Fresh w w'
theorem qu_drop_no (i num : Int) (h : QAt w base q R n by_ it ro) (hi : (i < 0 ∨ (n : Int) ≤ i) ∨ ∃ t : Nat, i = (t : Int) ∧ t < n ∧ (ro t).2 = []) : Calls Try.prog 22 #[.pointer (some ⟨q, 0, none⟩), .int .i64 i, .int .i64 num] w (DropNo w) := by
  have H : Hid (∀ W, Fresh w W → Calls Try.prog 28 #[.pointer (some ⟨q, 0, none⟩), .int .i64 i] W fun e w' => ∃ p, e = .returned (.tuple #[p, .bool false]) ∧ Fresh W w') := Lib.hid (fun W hw => by
    rcases hi with hi | ⟨t, rfl, ht, he⟩
    · exact qu_full_no i (h.fresh hw) hi
    · exact qu_full_none t (h.fresh hw) ht he)
  clear h hi
  go_enter Try.func22, Try.ntmps22
  go_wp2_with fail
  with_reducible refine (H.out _ (Fresh.alloc _ _)).mono ?_
  rintro e w1 ⟨p, rfl, hf1⟩
  have HF1 := Lib.hid ((Fresh.alloc w (.cells #[.int .i64 num] 3)).trans hf1)
  clear hf1
  go_wp2
  go_ret
  exact ⟨rfl, HF1.out⟩
def DropP (base q R n : Nat) (by_ it : Int) (ro : Rows) (t : Nat) (num : Int) (w : World) (e : Ending) (w' : World) : Prop :=
  (idxQ num (ro t).2 = (ro t).2.length ∧ DropNo w e w') ∨ (idxQ num (ro t).2 < (ro t).2.length ∧ ∃ v', e = .returned (.bool true) ∧ QAt w' base q R n by_ it (updR ro t (v', (ro t).2.eraseIdx (idxQ num (ro t).2))) ∧ v'.ownBlock = (ro t).1.ownBlock ∧ Only (fun k => k = R ∨ (ro t).1.ownBlock = some k) w w')
set_option maxHeartbeats 3200000 in
theorem qu_drop (t : Nat) (num : Int) (h : QAt w base q R n by_ it ro) (ht : t < n) (hl : 0 < (ro t).2.length) : Calls Try.prog 22 #[.pointer (some ⟨q, 0, none⟩), .int .i64 (t : Int), .int .i64 num] w (DropP base q R n by_ it ro t num w) := by
  have H := Lib.hid h
  have HFU := Lib.hid (fun W (hw : Fresh w W) => qu_full t (h.fresh hw) ht hl)
  have HL := Lib.hid hl
  obtain ⟨A, c, hv, _⟩ := (h.own t ht).slice
  have HV := Lib.hid hv
  unfold qrow at HFU
  clear h hl hv
  go_enter Try.func22, Try.ntmps22
  go_upto_region 1 with fail
  refine wp_gen (fun W => Fresh w W ∧ Blk W w.heap.size 3 #[.int .i64 num]) ⟨Fresh.alloc _ _, Blk.new _ _ _⟩ ?_
  rintro W ⟨hf0, hb0⟩
  have HF0 := Lib.hid hf0
  have HB0 := Lib.hid hb0
  clear hf0 hb0
  go_wp2_with fail
  with_reducible refine (HFU.out W HF0.out).mono ?_
  rintro e w1 ⟨rfl, hf1⟩
  have HF1 := Lib.hid (HF0.out.trans hf1)
  have HB1 := Lib.hid (HB0.out.fresh hf1)
  have d0 := ((H.out.fresh HF1.out).cells ht).1
  rw [HV.out] at d0
  have HIX := Lib.hid (qu_index base w.heap.size num (ro t).1 (ro t).2 w1 ((H.out.own t ht).fresh HF1.out) HB1.out (by have := (H.out.len ht).1; omega))
  rw [HV.out] at HIX
  clear hf1 HFU
  go_wp2_with fail
  with_reducible refine HIX.out.mono ?_
  rintro e w2 ⟨hf2, ⟨hlt, rfl⟩ | ⟨heq, rfl⟩⟩
  · have HF2 := Lib.hid (HF1.out.trans hf2)
    have HLT := Lib.hid hlt
    obtain ⟨k, hk⟩ : ∃ k, idxQ num (ro t).2 = k := ⟨_, rfl⟩
    have HK := Lib.hid hk
    rw [hk] at hlt ⊢
    obtain ⟨x, hx⟩ : ∃ x, (ro t).2[k]? = some x := ⟨_, List.getElem?_eq_getElem hlt⟩
    have HT := Lib.hid (qu_take t k x (H.out.fresh HF2.out) ht hx)
    unfold qrow at HT
    have k0 : ¬ (k : Int) < 0 := by omega
    clear hf2 hk hlt hx d0
    go_wp2_with fail
    with_reducible refine HT.out.mono ?_
    rintro e w3 ⟨v', rfl, hq, hv', ho⟩
    have HX := Lib.hid (And.intro hq (And.intro hv' ho))
    clear hq hv' ho HT
    go_wp2
    go_ret
    obtain ⟨x1, x2, x3⟩ := HX.out
    exact .inr ⟨HLT.out, v', rfl, by rw [HK.out]; exact x1, x2, (Only.of_fresh HF2.out).trans x3⟩
  · have HF2 := Lib.hid (HF1.out.trans hf2)
    have HEQ := Lib.hid heq
    clear hf2 heq d0
    go_wp2
    go_ret
    exact .inl ⟨HEQ.out, rfl, HF2.out⟩
end
end Go.Proofs.Ythfifeclmikbgaa
