/-
  Rows of frames that a call makes, with what is in them.
-/
import Derived.Test.YtapnlkmofldmdaaFrameA
import Derived.Test.YtapnlkmofldmdaaGen
import Derived.Maps.AppendAt
namespace Go.Proofs.Ytapnlkmofldmdaa
set_option linter.unusedVariables false
open Go.RowKit Go.ChangeShapes Go.WideShapes Go.Deep
/-- A frame; its payload l lies in the slice at A of capacity c. -/
structure FrO where
  (ty fl st : Int) (A : Option Addr) (c : Nat) (l : List UInt8)
def FrO.cells (f : FrO) : List Value := [.int .i64 f.ty, .int .i64 f.fl, .int .i64 f.st, .slice f.A f.l.length f.c]
def FrO.Ok (w : World) (base : Nat) (f : FrO) : Prop := Own w base 5 1 (.slice f.A f.l.length f.c) f.l.length (f.l.map byteV)
structure FrsAt (w : World) (base : Nat) (v : Value) (fs : List FrO) : Prop where
  own : Own w base 46 4 v fs.length (fs.flatMap FrO.cells)
  pay : ∀ f ∈ fs, f.Ok w base
theorem frO_info : (Try.prog.info? 46).map (fun i => (i.zero, i.size, i.bytes)) = some (some (.agg #[.int .i64 0, .int .i64 0, .int .i64 0, .slice none 0 0]), 4, 48) := by kernel_rfl
theorem ownBlkF {w : World} {base sz n : Nat} {E : TypeId} {v : Value} {xs : List Value} (h : Own w base E sz v n xs) {g : Nat} (hg : v.ownBlock = some g) : ∃ cur, Blk w g E cur := by
  rcases h.2 with ⟨rfl, _⟩ | ⟨g', cap, cur, rfl, _, hh, _⟩
  · cases hg
  · simp [Value.ownBlock] at hg
    subst hg
    exact ⟨cur, hh⟩
theorem FrsAt.nil (w : World) (base : Nat) : FrsAt w base (.slice none 0 0) [] := ⟨Own.nil _ _ _ _, fun f hf => by cases hf⟩
theorem FrsAt.fresh {w w' : World} {base : Nat} {v : Value} {fs : List FrO} (h : FrsAt w base v fs) (hf : Fresh w w') : FrsAt w' base v fs := ⟨h.own.fresh hf, fun f hm => Own.fresh (h.pay f hm) hf⟩
theorem FrsAt.only {S : Nat → Prop} {w w' : World} {base : Nat} {v : Value} {fs : List FrO} (h : FrsAt w base v fs) (ho : Only S w w') (hv : ∀ k, v.ownBlock = some k → ¬ S k) (hp : ∀ g cs, Blk w g 5 cs → ¬ S g) : FrsAt w' base v fs :=
  ⟨h.own.only ho hv, fun f hm => Own.only (h.pay f hm) ho (fun k hk => by
    obtain ⟨cur, hc⟩ := ownBlkF (h.pay f hm) hk
    exact hp k cur hc)⟩
/-- Another frame, laid in a block of its own. -/
theorem FrsAt.push {w : World} {base : Nat} {v : Value} {fs : List FrO} (h : FrsAt w base v fs) (hb : base ≤ w.heap.size) (f : FrO) (hf : f.Ok w base) (hn : (fs.length + 1) * 48 ≤ 140737488355328) (cs : Array Value) (hcs : cs.toList = f.cells) (g : Nat) (hg : w.heap.size = g) :
    ∃ A' c' w', (Builtin.append_ #[42, 42] 42 #[v, .slice (some ⟨g, 0, none⟩) 1 1]).run Try.prog (w.alloc (.cells cs 46)) = .ok (.slice A' (fs.length + 1) c') w' ∧ FrsAt w' base (.slice A' (fs.length + 1) c') (fs ++ [f]) ∧ Only (fun k => v.ownBlock = some k) w w' ∧
      (∀ k, (Value.slice A' (fs.length + 1) c').ownBlock = some k → v.ownBlock = some k ∨ w.heap.size < k) := by
  subst hg
  have h4 : cs.size = 4 := by rw [← Array.length_toList, hcs]; rfl
  obtain ⟨i, hi, hiz, his, hib⟩ := info_parts frO_info
  obtain ⟨v', w', hr, ho, hg, _, hat⟩ := run_append_own_at (P := Try.prog) (w.alloc (.cells cs 46)) base 42 42 46 i _ 4 48 Try.underlying42 hi hiz his hib rfl (by omega) v fs.length _ (h.own.fresh (Fresh.alloc _ _)) ⟨w.heap.size, 0, none⟩ 1 1 cs.toList (by simp [h4])
    (fun j u hj => by
      rw [add_eq _ _ rfl]
      simp only [Nat.zero_add]
      rw [(Blk.new w 46 cs).cell]
      simpa using hj) (by
    rw [hcs]
    intro u hu
    simp only [FrO.cells, List.mem_cons, List.not_mem_nil, or_false] at hu
    rcases hu with rfl | rfl | rfl | rfl <;> rfl) (by unfold maxLen; omega) hn (by simp; omega)
  obtain ⟨A', c', rfl, _⟩ := Own.slice (show Own w' base _ 4 v' _ _ from ho)
  have hO : Only (fun k => v.ownBlock = some k) (w.alloc (.cells cs 46)) w' := ⟨hg.os, hg.tape, hg.output, hg.size, fun k hk hne => hg.block k hk (fun e => hne e.symm)⟩
  have hO2 : Only (fun k => v.ownBlock = some k) w w' := (Only.of_fresh (Fresh.alloc _ _)).trans hO
  refine ⟨A', c', w', hr, ⟨?_, fun x hx => ?_⟩, hO2, fun k hk => ?_⟩
  · rw [List.length_append, List.flatMap_append]
    have : Own w' base 46 4 (.slice A' (fs.length + 1) c') (fs.length + 1) _ := ho
    simpa [hcs] using this
  · have hx' : x.Ok w base := by
      rcases List.mem_append.1 hx with hx | hx
      · exact h.pay x hx
      · simp at hx; subst hx; exact hf
    refine Own.only hx' hO2 (fun k hk e => ?_)
    obtain ⟨c1, hc1⟩ := ownBlkF hx' hk
    obtain ⟨c2, hc2⟩ := ownBlkF h.own e
    exact hc1.ne hc2 (by decide) rfl
  · rcases hat with e | e
    · rw [e] at hk; exact .inl hk
    · rw [e] at hk; simp at hk; right; omega
end Go.Proofs.Ytapnlkmofldmdaa
