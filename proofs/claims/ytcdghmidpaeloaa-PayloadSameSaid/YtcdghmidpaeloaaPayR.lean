/-
  The law PayloadSame, whatever its input.
-/
import Derived.Test.YtcdghmidpaeloaaPayQ
namespace Go.Proofs.Ytcdghmidpaeloaa
set_option linter.unusedVariables false
open Go.RowKit

theorem PayloadSame_any (f g : FrV) (w : World) (hf : f.Ok w) (hg : g.Ok w) :
    Calls Try.prog 6 #[.agg #[.int .i64 f.ty, .int .i64 f.fl, .int .i64 f.st, .slice f.A f.l.length f.c], .agg #[.int .i64 g.ty, .int .i64 g.fl, .int .i64 g.st, .slice g.A g.l.length g.c]] w fun e w' => e = .returned (.bool true) ∧ Below w.heap.size w w' := by
  obtain ⟨ty, fl, st, A, c, l⟩ := f
  obtain ⟨_, _, _, hle, hmax, hbs⟩ := hf
  obtain ⟨ty2, fl2, st2, A2, c2, l2⟩ := g
  obtain ⟨_, _, _, hle2, hmax2, hbs2⟩ := hg
  simp only at *
  show Calls _ _ _ _ (LawP w)
  by_cases h : 200 < l.length ∨ 200 < l2.length
  · exact same_long ty fl st ty2 fl2 st2 A A2 c c2 _ _ w h
  · exact same_go ty fl st ty2 fl2 st2 A A2 c c2 _ _ w (by omega) (by omega)
      (Lib.hid fun W hW => pparse_w ty fl st A c l W (hbs.fresh hW) hle hmax (by omega))
      (Lib.hid fun W hW => pparse_w ty2 fl2 st2 A2 c2 l2 W (hbs2.fresh hW) hle2 hmax2 (by omega))
end Go.Proofs.Ytcdghmidpaeloaa
