/-
  The document's text of bytes, by what is told of them.
-/
import Derived.Test.YtdoddpigiencjaaHufH
import Derived.Test.YtdoddpigiencjaaHufA
namespace Go.Proofs.Ytdoddpigiencjaa
set_option linter.unusedVariables false
open Go.RowKit
theorem IsEnc.text {l O : List UInt8} (h : IsEnc l O) {p : Nat} (hp : p ≤ 7) (h8 : (szB l + p) % 8 = 0) : txB (encB l ++ ones p) = txB (bitsL O) := by
  obtain ⟨q, hq, e⟩ := h
  have k := congrArg List.length e
  rw [bitsL_length, List.length_append] at k
  simp only [ones, List.length_replicate] at k
  unfold szB at h8
  have : p = q := by omega
  subst this
  rw [e]
/-- Text and Bits of a text say the same. -/
theorem rf_text_enc {l O : List UInt8} (h : IsEnc l O) (hl : l.length ≤ 100000000) (W : World) : Calls Try.prog 67 #[.string (strB l)] W fun e w' => e = .returned (.string (txB (bitsL O))) ∧ Fresh W w' :=
  (rf_text W l hl).mono (fun e w' hh => by
    obtain ⟨⟨p, hp, h8, he⟩, hf⟩ := hh
    exact ⟨by rw [he, h.text hp h8], hf⟩)
theorem szB_ge (l : List UInt8) : l.length * 5 ≤ szB l := by
  induction l with
  | nil => simp
  | cons c r ih =>
    have hc := UInt8.toNat_lt c
    have := (ln_ok (s := c.toNat) (by omega)).1
    unfold szB at ih ⊢
    rw [encB_cons, List.length_append, codeB_length, List.length_cons]
    omega
end Go.Proofs.Ytdoddpigiencjaa

