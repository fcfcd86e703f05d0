/-
  Package dyn: Clone of a row, Copy of a table.
-/
import Derived.Test.YtdoddpigiencjaaDecH
import Derived.StillTailTactics
namespace Go.Proofs.Ytdoddpigiencjaa
set_option linter.unusedVariables false
set_option linter.unusedSimpArgs false
open Go.RowKit
theorem fld_slice_nil (w : World) (a : Option Addr) (n c : Nat) : (binOp .eql 69 (.slice a n c) (.slice none 0 0)).run Try.prog w = .ok (.bool a.isNone) w := Lib.run_eql_slice_nil w _ _ a n c 0 0 Try.underlying69
def ClnP (base : Nat) (fs : List FldT) (w : World) (e : Ending) (w' : World) : Prop := ∃ v', e = .returned v' ∧ Own w' w.heap.size 26 2 v' fs.length (rowD fs) ∧ Fresh w w' ∧ ∀ k, v'.ownBlock = some k → w.heap.size ≤ k
theorem dy_clone (base : Nat) (v : Value) (fs : List FldT) (w : World) (h : Own w base 26 2 v fs.length (rowD fs)) (hb : base ≤ w.heap.size) (hm : fs.length ≤ 1000000) :
    Calls Try.prog 56 #[v] w (ClnP base fs w) := by
  have qn := fld_slice_nil
  rcases h.form with ⟨rfl, h0, _⟩ | ⟨g, c, rfl, hgb, hgl, hnc, hcm, hcell⟩
  · have HX : Hid (fs = []) := Lib.hid (List.length_eq_zero_iff.1 h0)
    clear h h0
    go_enter Try.func56, Try.ntmps56
    go_wp2
    go_ret
    rw [HX.out]
    exact ⟨_, rfl, Own.nil _ _ _ _, Fresh.refl _, fun k hk => by cases hk⟩
  · obtain ⟨i, hi, hiz, his, hib⟩ := info_parts fld_info
    have hO : Own (w.alloc (.cells #[] 26)) w.heap.size 26 2 (.slice (some ⟨w.heap.size, 0, none⟩) 0 0) 0 [] := Own.lit (Nat.le_refl _) (by unfold maxLen; omega) rfl
    obtain ⟨v', w', hr, ho, hgr, _, hat⟩ := run_append_own_at (P := Try.prog) (w.alloc (.cells #[] 26)) w.heap.size 69 69 26 i _ 2 32 Try.underlying69 hi hiz his hib rfl (by omega) _ 0 _ hO ⟨g, 0, none⟩ fs.length c (rowD fs) (rowD_length fs)
      (fun j u hj => by
        rw [add_eq _ _ rfl]
        simp only [Nat.zero_add]
        rw [((Fresh.alloc w _).cell (p := ⟨g, j, none⟩) hgl), (hcell j (List.getElem?_eq_some_iff.1 hj).1).1]
        exact hj) (fld_one fs) (by unfold maxLen; omega) (by omega) (by simp)
    obtain ⟨n, hn⟩ : ∃ n, fs.length = n := ⟨_, rfl⟩
    have HFIN : Hid (ClnP base fs w (.returned v') w') := Lib.hid (by
      have ho' : Own w' w.heap.size 26 2 v' (0 + fs.length) ([] ++ rowD fs) := ho
      rw [Nat.zero_add, List.nil_append] at ho'
      refine ⟨v', rfl, ho', ?_, fun k hk => (ho'.lt k hk).1⟩
      refine Only.fresh (S := fun k => k = w.heap.size) ((Only.of_fresh (Fresh.alloc w (.cells #[] 26))).trans ⟨hgr.os, hgr.tape, hgr.output, hgr.size, fun k hk hne => hgr.block k hk (fun e => hne (by have e2 : some k = some w.heap.size := e; injection e2))⟩) (fun k hk e => by omega))
    rw [hn] at hr hnc ⊢
    have hnm : n ≤ 1000000 := by omega
    clear h hcell ho hgr hat hO hn hm
    go_enter Try.func56, Try.ntmps56
    go_wp2_with (at_builtin; with_reducible refine wp_app rfl (.tmp 5) (.tmp 6) _ rfl hr rfl (by simp [Act.eval, Act.put]) (by simp [Act.eval, Act.put]) ?_)
    go_ret
    exact HFIN.out
def CpyP (base p : Nat) (fs : List FldT) (lim : Int) (w : World) (e : Ending) (w' : World) : Prop := ∃ p' v', e = .returned (.pointer (some ⟨p', 0, none⟩)) ∧ TabAt w' w.heap.size p' v' fs lim ∧ Fresh w w' ∧ w.heap.size ≤ p' ∧ ∀ k, v'.ownBlock = some k → w.heap.size ≤ k
theorem dy_copy (base p : Nat) (v : Value) (fs : List FldT) (lim : Int) (w : World) (h : TabAt w base p v fs lim) (hb : base ≤ w.heap.size) (hm : fs.length ≤ 1000000) :
    Calls Try.prog 33 #[.pointer (some ⟨p, 0, none⟩)] w (CpyP base p fs lim w) := by
  obtain ⟨A, c, rfl, _⟩ := h.own.slice
  have hlt := h.blk.lt
  have HSK : Hid (∀ w', Fresh w w' → w'.cell? ⟨p, 0, none⟩ = some (.slice A fs.length c) ∧ w'.cell? ⟨p, 1, none⟩ = some (.int .i64 (tz fs)) ∧ w'.cell? ⟨p, 2, none⟩ = some (.int .i64 lim) ∧ Fresh w w') := Lib.hid (fun w' hw => ⟨(h.fresh hw).blk.cell 0, (h.fresh hw).blk.cell 1, (h.fresh hw).blk.cell 2, hw⟩)
  have HCL := Lib.hid (fun W (hw : Fresh w W) => dy_clone base _ fs W (h.own.fresh hw) (Nat.le_trans hb hw.size) hm)
  obtain ⟨n, hn⟩ : ∃ n, fs.length = n := ⟨_, rfl⟩
  rw [hn] at HCL HSK
  have HN := Lib.hid hn
  clear h hn hm
  go_enter Try.func33, Try.ntmps33
  go_wp2_with fail
  go_region_held3 (fun w' => w'.cell? ⟨p, 0, none⟩ = some (.slice A n c) ∧ w'.cell? ⟨p, 1, none⟩ = some (.int .i64 (tz fs)) ∧ w'.cell? ⟨p, 2, none⟩ = some (.int .i64 lim) ∧ Fresh w w')
    ((refine HSK.out _ ?_; repeat (first | with_reducible assumption | with_reducible exact Fresh.drew _ | with_reducible apply Fresh.allocS)))
    (first | (go_at_call 56; (with_reducible refine (HCL.out _ (by first | with_reducible assumption | with_reducible exact Fresh.drew _)).mono ?_); rintro e w2 ⟨v2, rfl, ho2, hf2, hv2⟩; obtain ⟨A2, c2, e2, _⟩ := ho2.slice; rw [HN.out] at e2; subst e2; have hg2 : Fresh w w2 := Fresh.trans (by first | with_reducible assumption | with_reducible exact Fresh.drew _) hf2; have HO2 := Lib.hid (And.intro ho2 (And.intro hf2 hv2)); clear ho2 hf2 hv2))
  all_goals
    go_wp2
    go_ret
    obtain ⟨g1, g2, g3⟩ := HO2.out
    exact ⟨_, .slice A2 n c2, rfl, ⟨Blk.new _ _ _, g1.fresh (Fresh.alloc _ _)⟩, hg2.trans (Fresh.alloc _ _), hg2.size, g3⟩
end Go.Proofs.Ytdoddpigiencjaa

