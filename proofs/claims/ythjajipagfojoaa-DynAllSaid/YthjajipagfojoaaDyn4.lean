/-
  Package dyn: New, Len, Size, Limit, Get, Resize; one field more in a row.
-/
import Derived.Test.YthjajipagfojoaaDyn3
import Derived.Maps.AppendAt
import Derived.Handy
namespace Go.Proofs.Ythjajipagfojoaa
set_option linter.unusedVariables false
set_option linter.unusedSimpArgs false
open Go.RowKit

theorem TabAt.only {S : Nat → Prop} {w w' : World} {base p : Nat} {v : Value} {fs : List FldT} {lim : Int} (h : TabAt w base p v fs lim) (ho : Only S w w') (hp : ¬ S p) (hv : ∀ k, v.ownBlock = some k → ¬ S k) : TabAt w' base p v fs lim :=
  ⟨h.blk.only ho hp, h.own.only ho hv⟩
theorem TabAt.fresh {w w' : World} {base p : Nat} {v : Value} {fs : List FldT} {lim : Int} (h : TabAt w base p v fs lim) (hf : Fresh w w') : TabAt w' base p v fs lim := ⟨h.blk.fresh hf, h.own.fresh hf⟩
theorem TabAt.ne {w : World} {base p : Nat} {v : Value} {fs : List FldT} {lim : Int} (h : TabAt w base p v fs lim) : ∀ k, v.ownBlock = some k → k ≠ p ∧ k < w.heap.size := fun k hk => by
  obtain ⟨cur, hc⟩ := ownBlkD h.own hk
  exact ⟨hc.ne h.blk (by decide), hc.lt⟩
theorem dy_right (lim : Int) (r : Bool) (hr : decide (0 ≤ lim ∧ lim ≤ 65536) = r) (w : World) : Calls Try.prog 24 #[.int .i64 lim] w fun e w' => e = .returned (.bool r) ∧ w' = w := by
  by_cases h0 : 0 ≤ lim
  · by_cases h1 : lim ≤ 65536
    · rw [decide_eq_true ⟨h0, h1⟩] at hr
      subst hr
      go_enter Try.func24, Try.ntmps24
      go_wp2
      go_ret
      exact ⟨rfl, rfl⟩
    · rw [decide_eq_false (fun h => h1 h.2)] at hr
      subst hr
      go_enter Try.func24, Try.ntmps24
      go_wp2
      go_ret
      exact ⟨rfl, rfl⟩
  · rw [decide_eq_false (fun h => h0 h.1)] at hr
    subst hr
    go_enter Try.func24, Try.ntmps24
    go_wp2
    go_ret
    exact ⟨rfl, rfl⟩
theorem dy_new_no (lim : Int) (h : lim < 0 ∨ 65536 < lim) (w : World) : Calls Try.prog 10 #[.int .i64 lim] w fun e w' => e = .returned (.tuple #[.pointer none, .int .i64 11]) ∧ w' = w := by
  have hr := dy_right lim false (decide_eq_false (by omega)) w
  go_enter Try.func10, Try.ntmps10
  go_wp2_with fail
  with_reducible refine hr.mono ?_
  rintro e w1 ⟨rfl, rfl⟩
  go_wp2
  go_ret2
  exact ⟨rfl, rfl⟩
theorem dy_new (lim : Int) (h0 : 0 ≤ lim) (h1 : lim ≤ 65536) (w : World) : Calls Try.prog 10 #[.int .i64 lim] w fun e w' => ∃ p, e = .returned (.tuple #[.pointer (some ⟨p, 0, none⟩), .int .i64 0]) ∧ w.heap.size ≤ p ∧ (∀ base, TabAt w' base p (.slice none 0 0) [] lim) ∧ Fresh w w' := by
  have hr := dy_right lim true (decide_eq_true ⟨h0, h1⟩) w
  go_enter Try.func10, Try.ntmps10
  go_wp2_with fail
  with_reducible refine hr.mono ?_
  rintro e w1 ⟨rfl, rfl⟩
  go_wp2
  go_ret2
  exact ⟨_, rfl, Nat.le_refl _, fun base => ⟨Blk.new _ _ _, Own.nil _ _ _ _⟩, Fresh.alloc _ _⟩
section
variable {base p : Nat} {v : Value} {fs : List FldT} {lim : Int} {w : World}
theorem dy_len (h : TabAt w base p v fs lim) : Calls Try.prog 18 #[.pointer (some ⟨p, 0, none⟩)] w fun e w' => e = .returned (.int .i64 (fs.length : Int)) ∧ w' = w := by
  obtain ⟨A, c, rfl, _⟩ := h.own.slice
  obtain ⟨c0, c1, c2⟩ := h.blk.c3
  clear h
  go_enter Try.func18, Try.ntmps18
  go_wp2
  go_ret
  exact ⟨rfl, rfl⟩
theorem dy_sizeT (h : TabAt w base p v fs lim) : Calls Try.prog 19 #[.pointer (some ⟨p, 0, none⟩)] w fun e w' => e = .returned (.int .i64 (tz fs : Int)) ∧ w' = w := by
  obtain ⟨c0, c1, c2⟩ := h.blk.c3
  clear h
  go_enter Try.func19, Try.ntmps19
  go_wp2
  go_ret
  exact ⟨rfl, rfl⟩
theorem dy_limit (h : TabAt w base p v fs lim) : Calls Try.prog 20 #[.pointer (some ⟨p, 0, none⟩)] w fun e w' => e = .returned (.int .i64 lim) ∧ w' = w := by
  obtain ⟨c0, c1, c2⟩ := h.blk.c3
  clear h
  go_enter Try.func20, Try.ntmps20
  go_wp2
  go_ret
  exact ⟨rfl, rfl⟩
theorem dy_resize_no (n : Int) (h : n < 0 ∨ 65536 < n) : Calls Try.prog 26 #[.pointer (some ⟨p, 0, none⟩), .int .i64 n] w fun e w' => e = .returned (.tuple #[.int .i64 0, .int .i64 11]) ∧ w' = w := by
  have hr := dy_right n false (decide_eq_false (by omega)) w
  go_enter Try.func26, Try.ntmps26
  go_wp2_with fail
  with_reducible refine hr.mono ?_
  rintro e w1 ⟨rfl, rfl⟩
  go_wp2
  go_ret2
  exact ⟨rfl, rfl⟩
theorem dy_resize (n : Int) (h : TabAt w base p v fs lim) (hz : tz fs ≤ 4503599627370496) (h0 : 0 ≤ n) (h1 : n ≤ 65536) : Calls Try.prog 26 #[.pointer (some ⟨p, 0, none⟩), .int .i64 n] w fun e w' => e = .returned (.tuple #[.int .i64 (goneN fs n : Int), .int .i64 0]) ∧ ∃ v', TabAt w' base p v' (fs.drop (goneN fs n)) n ∧ v'.ownBlock = v.ownBlock ∧ Only (fun k => k = p ∨ v.ownBlock = some k) w w' := by
  have hr := dy_right n true (decide_eq_true ⟨h0, h1⟩) w
  have H := Lib.hid h
  have HZ := Lib.hid hz
  obtain ⟨c0, c1, c2⟩ := h.blk.c3
  have q2 := h.blk.frozen 2
  clear h hz
  go_enter Try.func26, Try.ntmps26
  go_wp2_with fail
  with_reducible refine hr.mono ?_
  rintro e w1 ⟨rfl, rfl⟩
  go_upto_region 4 with fail
  have ht : TabAt (w1.setCell ⟨p, 2, none⟩ (.int .i64 n)) base p v fs n := ⟨H.out.blk.set 2 _, H.out.own.only (Only.setCell _ _ _) (fun k hk e => (H.out.ne k hk).1 e)⟩
  have HS := Lib.hid (dy_shrink base p v fs n n _ ht HZ.out)
  clear c0 c1 c2 q2 ht hr
  go_wp2_with fail
  with_reducible refine HS.out.mono ?_
  rintro e w2 ⟨rfl, v2, ht2, hv2, ho2⟩
  have HF := Lib.hid (And.intro ht2 (And.intro hv2 ho2))
  clear ht2 hv2 ho2
  go_wp2
  go_ret2
  exact ⟨rfl, v2, HF.out.1, HF.out.2.1, ((Only.setCell w1 ⟨p, 2, none⟩ (.int .i64 n)).mono (fun i e => .inl e)).trans HF.out.2.2⟩
theorem dy_get_no (i : Int) (h : TabAt w base p v fs lim) (hi : i < 1 ∨ (fs.length : Int) < i) : Calls Try.prog 23 #[.pointer (some ⟨p, 0, none⟩), .int .i64 i] w fun e w' => e = .returned (.tuple #[.agg #[.string ByteArray.empty, .string ByteArray.empty], .int .i64 23]) ∧ Fresh w w' := by
  obtain ⟨A, c, rfl, _⟩ := h.own.slice
  obtain ⟨c0, c1, c2⟩ := h.blk.c3
  have hlt := h.blk.lt
  clear h
  by_cases h1 : i < 1
  · go_enter Try.func23, Try.ntmps23
    go_wp2
    go_returns
    exact ⟨rfl, by repeat (first | with_reducible exact Fresh.refl _ | with_reducible apply Fresh.drewS | with_reducible apply Fresh.allocS)⟩
  · have h2 : (fs.length : Int) < i := by omega
    clear hi
    go_enter Try.func23, Try.ntmps23
    go_wp2
    go_returns
    exact ⟨rfl, by repeat (first | with_reducible exact Fresh.refl _ | with_reducible apply Fresh.drewS | with_reducible apply Fresh.allocS)⟩
end
theorem fld_push {w : World} {base : Nat} {v : Value} {fs : List FldT} (h : Own w base 31 2 v fs.length (rowD fs)) (hb : base ≤ w.heap.size) (f : FldT) (hn : (fs.length + 1) * 32 ≤ 140737488355328) (g : Nat) (hg : w.heap.size = g) :
    ∃ A' c' w', (Builtin.append_ #[58, 58] 58 #[v, .slice (some ⟨g, 0, none⟩) 1 1]).run Try.prog (w.alloc (.cells #[.string f.1, .string f.2] 31)) = .ok (.slice A' (fs.length + 1) c') w' ∧ Own w' base 31 2 (.slice A' (fs.length + 1) c') (fs ++ [f]).length (rowD (fs ++ [f])) ∧ Only (fun k => v.ownBlock = some k) w w' ∧
      (∀ k, (Value.slice A' (fs.length + 1) c').ownBlock = some k → v.ownBlock = some k ∨ w.heap.size < k) := by
  subst hg
  obtain ⟨i, hi, hiz, his, hib⟩ := info_parts fld_info
  obtain ⟨v', w', hr, ho, hgr, _, hat⟩ := run_append_own_at (P := Try.prog) (w.alloc (.cells #[.string f.1, .string f.2] 31)) base 58 58 31 i _ 2 32 Try.underlying58 hi hiz his hib rfl (by omega) v fs.length _ (h.fresh (Fresh.alloc _ _)) ⟨w.heap.size, 0, none⟩ 1 1 [.string f.1, .string f.2] rfl
    (fun j u hj => by
      rw [add_eq _ _ rfl]
      simp only [Nat.zero_add]
      rw [(Blk.new w 31 #[.string f.1, .string f.2]).cell]
      simpa using hj) (by
    intro u hu
    simp only [List.mem_cons, List.not_mem_nil, or_false] at hu
    rcases hu with rfl | rfl <;> rfl) (by unfold maxLen; omega) hn (by simp; omega)
  obtain ⟨A', c', rfl, _⟩ := Own.slice (show Own w' base _ 2 v' _ _ from ho)
  have hO : Only (fun k => v.ownBlock = some k) (w.alloc (.cells #[.string f.1, .string f.2] 31)) w' := ⟨hgr.os, hgr.tape, hgr.output, hgr.size, fun k hk hne => hgr.block k hk (fun e => hne e.symm)⟩
  have hO2 : Only (fun k => v.ownBlock = some k) w w' := (Only.of_fresh (Fresh.alloc _ _)).trans hO
  refine ⟨A', c', w', hr, ?_, hO2, fun k hk => ?_⟩
  · have : Own w' base 31 2 (.slice A' (fs.length + 1) c') (fs.length + 1) _ := ho
    simpa [rowD, fldD] using this
  · rcases hat with e | e
    · rw [e] at hk; exact .inl hk
    · rw [e] at hk; simp at hk; right; omega
end Go.Proofs.Ythjajipagfojoaa
