/-
  Package reg: a copy: the row of what each tenant has live.
-/
import Derived.Test.YtjediikcfhdgiaaDoorRegK
import Derived.Maps.AppendAt
namespace Go.Proofs.YtjediikcfhdgiaaDoor
set_option maxRecDepth 100000
set_option linter.unusedVariables false
set_option linter.unusedSimpArgs false
open Go.RowKit Go.Maps
def iV (f : Nat → Int) (n : Nat) : List Value := (List.range n).map (fun j => Value.int .i64 (f j))
theorem iV_len (f : Nat → Int) (n : Nat) : (iV f n).length = n := by simp [iV]
theorem iV_get (f : Nat → Int) {n j : Nat} (h : j < n) : (iV f n)[j]? = some (.int .i64 (f j)) := by simp [iV, h]
theorem appI {P : Program} {T E : TypeId} {z : Value} (hT : P.underlying T = some (.slice E)) (hinfo : (P.info? E).map (fun i => (i.zero, i.size, i.bytes)) = some (some z, 1, 8)) (hz : z.cells.size = 1)
    {w : World} {base m n : Nat} {v : Value} {xs : List Value} {f : Nat → Int} (ty : TypeId) (h : Own w base E 1 v m xs) (hbase : base ≤ w.heap.size) (g k : Nat) (hc : ∀ j, j < n → w.cell? ⟨g, j, none⟩ = some (.int .i64 (f j))) (hn : m + n ≤ 1000000) :
    ∃ A' c' w', (Builtin.append_ #[T, T] ty #[v, .slice (some ⟨g, 0, none⟩) n k]).run P w = .ok (.slice A' (m + n) c') w' ∧ Own w' base E 1 (.slice A' (m + n) c') (m + n) (xs ++ iV f n) ∧ Only (fun k => v.ownBlock = some k) w w' := by
  obtain ⟨i, hi, hiz, his, hib⟩ := info_parts hinfo
  obtain ⟨v', w', hr, ho, hg, _, hat⟩ := run_append_own_at (P := P) w base T ty E i z 1 8 hT hi hiz his hib hz (by omega) v m _ h ⟨g, 0, none⟩ n k (iV f n) (by simp [iV_len]) (fun j u hj => by
    rw [add_eq _ _ rfl]
    simp only [Nat.zero_add]
    have hjn : j < n := by
      rcases Nat.lt_or_ge j n with h | h
      · exact h
      · rw [List.getElem?_eq_none (by rw [iV_len]; exact h)] at hj; cases hj
    rw [hc j hjn, ← iV_get f hjn]; exact hj) (fun u hu => by
    unfold iV at hu
    rw [List.mem_map] at hu
    obtain ⟨x, _, rfl⟩ := hu
    rfl) (by unfold maxLen; omega) (by omega) hbase
  obtain ⟨A', c', rfl, _⟩ := Own.slice (show Own w' base E 1 v' _ _ from ho)
  exact ⟨A', c', w', hr, ho, ⟨hg.os, hg.tape, hg.output, hg.size, fun k hk hne => hg.block k hk (fun e => hne e.symm)⟩⟩
theorem own_live {w : World} {base n : Nat} {v : Value} {f : Nat → Int} (h : Own w base 3 1 v n (iV f n)) (hn : 0 < n) : ∃ g k, v = .slice (some ⟨g, 0, none⟩) n k ∧ base ≤ g ∧ n ≤ k ∧ LiveAt w g n f := by
  rcases h.2 with ⟨rfl, rfl⟩ | ⟨g, cap, cur, rfl, hb, hh, hnc, hcm, hcs, ht⟩
  · omega
  · refine ⟨g, cap, rfl, hb, hnc, cur, by simp at hcs; omega, hh, fun j hj => ?_⟩
    have := iV_get f hj
    rw [← ht, List.getElem?_take_of_lt (by omega)] at this
    simpa using this
def ClnI (n : Nat) (L : Nat → Int) (w : World) (e : Ending) (w' : World) : Prop := ∃ g k, e = .returned (.slice (some ⟨g, 0, none⟩) n k) ∧ w.heap.size ≤ g ∧ n ≤ k ∧ LiveAt w' g n L ∧ Fresh w w'
theorem rl_clone (lb lc n : Nat) (L : Nat → Int) (w : World) (h : LiveAt w lb n L) (n1 : 1 ≤ n) (n2 : n ≤ 64) :
    Calls Tryd.prog 37 #[.slice (some ⟨lb, 0, none⟩) n lc] w (ClnI n L w) := by
  have hO : Own (w.alloc (.cells #[] 3)) w.heap.size 3 1 (.slice (some ⟨w.heap.size, 0, none⟩) 0 0) 0 [] := Own.lit (Nat.le_refl _) (by unfold maxLen; omega) rfl
  obtain ⟨A', c', w', hap, ho, hon⟩ := appI (P := Tryd.prog) Tryd.underlying65 rint_info rfl 65 hO (by simp) lb lc (n := n) (f := L) (fun j hj => ((h.only (S := fun _ => False) (Only.of_fresh (Fresh.alloc w (.cells #[] 3))) id).at hj).1) (by omega)
  rw [Nat.zero_add, List.nil_append] at ho
  rw [Nat.zero_add] at hap
  have HO := Lib.hid ho
  have HON := Lib.hid hon
  clear hO ho hon h
  have qn : ∀ (w : World) (a : Option Addr) (n c : Nat), (binOp .eql 65 (.slice a n c) (.slice none 0 0)).run Tryd.prog w = .ok (.bool a.isNone) w := fun w a n c => Lib.run_eql_slice_nil w _ _ a n c 0 0 Tryd.underlying65
  go_enter Tryd.func37, Tryd.ntmps37
  go_wp2_with (at_builtin; with_reducible refine wp_app rfl (.tmp 5) (.tmp 6) _ rfl hap rfl (by simp [Act.eval, Act.put]) (by simp [Act.eval, Act.put]) ?_)
  go_ret
  obtain ⟨g', k', e, hg, hk, hp⟩ := own_live HO.out n1
  cases e
  exact ⟨g', c', rfl, hg, hk, hp, Only.fresh ((Only.of_fresh (Fresh.alloc w (.cells #[] 3))).trans HON.out) (fun i hi e => by simp [Value.ownBlock] at e; omega)⟩
end Go.Proofs.YtjediikcfhdgiaaDoor

