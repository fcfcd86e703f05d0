/-
  The document's Find in a list of fields.
-/
import Derived.Test.YthjajipagfojoaaDynK
namespace Go.Proofs.Ythjajipagfojoaa
set_option linter.unusedVariables false
set_option linter.unusedSimpArgs false
open Go.RowKit
def RFindP (f : FldT) (l : List FldT) (w : World) (e : Ending) (w' : World) : Prop :=
  Fresh w w' ∧ ((∃ k, k < l.length ∧ (∀ g ∈ l.take k, g ≠ f) ∧ l[k]? = some f ∧ e = .returned (.tuple #[.int .i64 ((k : Int) + 1), .int .i64 1])) ∨ ((∀ g ∈ l, g ≠ f) ∧ e = .returned (.tuple #[.int .i64 (namF f l : Int), .int .i64 0])))
def nfD (f : FldT) (l : List FldT) (m : Nat) : Nat := if namF f (l.drop m) = 0 then 0 else namF f (l.drop m) + m
theorem nfD_step (f : FldT) (l : List FldT) (m : Nat) (g : FldT) (h : l[m]? = some g) : nfD f l m = if g.1 = f.1 then m + 1 else nfD f l (m + 1) := by
  obtain ⟨hm, rfl⟩ := List.getElem?_eq_some_iff.1 h
  unfold nfD
  rw [List.drop_eq_getElem_cons hm, namF]
  by_cases h1 : l[m].1 = f.1
  · simp [h1]; omega
  · simp only [h1, if_false]
    by_cases h2 : namF f (l.drop (m + 1)) = 0
    · simp [h2]
    · simp [h2]; omega
theorem nfD_end (f : FldT) (l : List FldT) : nfD f l l.length = 0 := by simp [nfD, namF]
theorem nfD_zero (f : FldT) (l : List FldT) : nfD f l 0 = namF f l := by
  unfold nfD
  rw [List.drop_zero]
  split
  · omega
  · omega
theorem nfD_le (f : FldT) (l : List FldT) (m : Nat) (hm : m ≤ l.length) : nfD f l m ≤ l.length := by
  have := namF_le f (l.drop m)
  rw [List.length_drop] at this
  unfold nfD
  split <;> omega
set_option maxRecDepth 100000 in
set_option maxHeartbeats 3200000 in
theorem rf_find (A : Option Addr) (c : Nat) (xs : List FldT) (f : FldT) (w : World) (hm : Many fldD 2 w A xs) (hl : xs.length ≤ 1000000) :
    Calls Try.prog 14 #[.slice A xs.length c, .agg #[.string f.1, .string f.2]] w (RFindP f xs w) := by
  have HM := Lib.hid hm
  clear hm
  obtain ⟨n, hn⟩ : ∃ n, xs.length = n := ⟨_, rfl⟩
  have HN := Lib.hid hn
  rw [hn] at hl ⊢
  clear hn
  have hwn : IntKind.i64.wrap ((n : Int) - 1) = (n : Int) - 1 := by rw [IntKind.wrap_i64]; omega
  go_enter Try.func14, Try.ntmps14
  go_upto_region 1 with fail
  refine wp_gen (fun W => Fresh w W ∧ Blk W w.heap.size 42 #[.string f.1, .string f.2]) ⟨Fresh.alloc _ _, Blk.new _ _ _⟩ ?_
  rintro W ⟨hf0, hb0⟩
  have HF0 := Lib.hid hf0
  have HB0 := Lib.hid hb0
  clear hf0 hb0
  go_wp2
  go_loopw [6, 7] (fun t i wr => ∃ m : Nat, m ≤ n ∧ i = .int .i64 ((m : Int) - 1) ∧ t = .int .i64 (nfD f xs m : Int) ∧ Fresh W wr) (fun _ i _ => (intOf i + 1).toNat)
  case atStart => exact ⟨n, Nat.le_refl _, rfl, by rw [← HN.out, nfD_end]; rfl, Fresh.refl _⟩
  case round =>
    obtain ⟨m, hmn, rfl, rfl, hf⟩ := hrel
    have HF := Lib.hid hf
    clear hf
    obtain ⟨c0, c1⟩ := (HB0.out.fresh HF.out).c2
    by_cases h0 : 0 < m
    · obtain ⟨j, rfl⟩ : ∃ j, m = j + 1 := ⟨m - 1, by omega⟩
      obtain ⟨g, hg⟩ : ∃ g, xs[j]? = some g := ⟨_, List.getElem?_eq_getElem (by rw [HN.out]; omega)⟩
      obtain ⟨b, o, hA, hb, y0, y1⟩ := (HM.out.fresh (HF0.out.trans HF.out)).at2 j g hg
      subst hA
      have HS := Lib.hid (nfD_step f xs j g hg)
      have em : (((j + 1 : Nat) : Int) - 1) = (j : Int) := by omega
      rw [em]
      clear hg em
      have hwj : IntKind.i64.wrap ((j : Int) + 1) = (j : Int) + 1 := by rw [IntKind.wrap_i64]; omega
      have HNF := Lib.hid (nfD_le f xs (j + 1) (by rw [HN.out]; exact hmn))
      obtain ⟨z, hz⟩ : ∃ z, nfD f xs (j + 1) = z := ⟨_, rfl⟩
      have HZ := Lib.hid hz
      rw [hz]
      clear hz
      by_cases he : g.1 = f.1
      · have e1 := fst_eq g f true (by simp [he])
        have HS2 : Hid (nfD f xs j = j + 1) := Lib.hid (by rw [HS.out, if_pos he])
        clear he
        go_upto_region 5 with fail
        go_quiet (fail)
        all_goals
          go_wp2
          go_roundw
          case rel => exact ⟨j, by omega, rfl, by rw [HS2.out]; rfl, HF.out.trans (Fresh.drewN _ _)⟩
          case measure => simp [intOf]
      · have e1 := fst_eq g f false (by simp [he])
        have HS2 : Hid (nfD f xs j = z) := Lib.hid (by rw [HS.out, if_neg he, HZ.out])
        clear he
        go_upto_region 5 with fail
        go_quiet (fail)
        all_goals
          go_wp2
          go_roundw
          case rel => exact ⟨j, by omega, rfl, by rw [HS2.out], HF.out.trans (Fresh.drewN _ _)⟩
          case measure => simp [intOf]
    · obtain rfl : m = 0 := by omega
      rw [show (((0 : Nat) : Int) - 1) = -1 from rfl, nfD_zero]
      have HNF := Lib.hid (namF_le f xs)
      obtain ⟨z, hz⟩ : ∃ z, namF f xs = z := ⟨_, rfl⟩
      have HZ := Lib.hid hz
      rw [hz]
      clear hz c0 c1
      go_wp2
      go_loopw [8] (fun i wr2 => ∃ k : Nat, k ≤ n ∧ i = .int .i64 (k : Int) ∧ (∀ g ∈ xs.take k, g ≠ f) ∧ Fresh W wr2) (fun i _ => n - (intOf i).toNat)
      case atStart => exact ⟨0, by omega, rfl, by simp, HF.out⟩
      case round =>
        obtain ⟨k, hk, rfl, hno, hf⟩ := hrel
        have HF2 := Lib.hid hf
        have HNO := Lib.hid hno
        clear hf hno
        obtain ⟨c0, c1⟩ := (HB0.out.fresh HF2.out).c2
        by_cases hlt : k < n
        · have hlt' : (k : Int) < (n : Int) := by omega
          obtain ⟨g, hg⟩ : ∃ g, xs[k]? = some g := ⟨_, List.getElem?_eq_getElem (by rw [HN.out]; omega)⟩
          obtain ⟨b, o, hA, hb, y0, y1⟩ := (HM.out.fresh (HF0.out.trans HF2.out)).at2 k g hg
          subst hA
          have HG := Lib.hid hg
          have htk : xs.take (k + 1) = xs.take k ++ [g] := by
            obtain ⟨hq, rfl⟩ := List.getElem?_eq_some_iff.1 hg
            rw [List.take_succ_eq_append_getElem hq]
          have HTK := Lib.hid htk
          clear hg htk
          have hwj : IntKind.i64.wrap ((k : Int) + 1) = (k : Int) + 1 := by rw [IntKind.wrap_i64]; omega
          by_cases he : g = f
          · have hE : ∀ W, (Op.equalIn 10000 42 (.agg #[.string g.1, .string g.2]) (.agg #[.string f.1, .string f.2])).run Try.prog W = .ok true W := fun W => run_eq_pair _ _ _ _ W true (by rw [he]; simp)
            have HGF : Hid (xs[k]? = some f) := Lib.hid (by rw [HG.out, he])
            clear he
            go_upto_region 10 with fail
            go_quiet (fail)
            all_goals
              go_wp2
              go_ret2
              exact ⟨(HF0.out.trans HF2.out).trans (Fresh.drewN _ _), .inl ⟨k, by rw [HN.out]; exact hlt, HNO.out, HGF.out, rfl⟩⟩
          · have hE : ∀ W, (Op.equalIn 10000 42 (.agg #[.string g.1, .string g.2]) (.agg #[.string f.1, .string f.2])).run Try.prog W = .ok false W := fun W => run_eq_pair _ _ _ _ W false (by rw [decide_eq_false_iff_not]; rintro ⟨h1, h2⟩; exact he (Prod.ext h1 h2))
            have HNE : Hid (g ≠ f) := Lib.hid he
            clear he
            go_upto_region 10 with fail
            go_quiet (fail)
            all_goals
              go_wp2
              go_roundw
              case rel =>
                refine ⟨k + 1, by omega, by go_num, ?_, HF2.out.trans (Fresh.drewN _ _)⟩
                rw [HTK.out]
                intro y hy
                rcases List.mem_append.1 hy with h1 | h1
                · exact HNO.out y h1
                · rw [List.mem_singleton.1 h1]; exact HNE.out
              case measure => simp [intOf]; omega
        · obtain rfl : k = n := by omega
          clear c0 c1
          go_wp2
          go_ret2
          refine ⟨HF0.out.trans HF2.out, .inr ⟨?_, by rw [HZ.out]; rfl⟩⟩
          have := HNO.out
          rw [← HN.out, List.take_length] at this
          exact this
end Go.Proofs.Ythjajipagfojoaa
