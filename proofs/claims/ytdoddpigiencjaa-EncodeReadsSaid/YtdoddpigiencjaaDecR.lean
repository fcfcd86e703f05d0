/-
  Layer 7: what a block's reading keeps; the laws' own lines and table.
-/
import Derived.Test.YtdoddpigiencjaaDecK2
import Derived.Test.YtdoddpigiencjaaEqS
namespace Go.Proofs.Ytdoddpigiencjaa
set_option maxRecDepth 100000
set_option linter.unusedVariables false
set_option linter.unusedSimpArgs false
open Go.RowKit
/-- What stands of a table and of lines while a block is read. -/
structure Inv7 (most bound : Int) (R : Nat × List LnD × List FldT × Int) : Prop where
  l0 : 0 ≤ R.2.2.2
  l1 : R.2.2.2 ≤ most
  tz : (tz R.2.2.1 : Int) ≤ R.2.2.2
  no : R.1 ≠ 0 → R.2.1 = []
  sum : (Go.Proofs.Ytdoddpigiencjaa.tz (R.2.1.map (·.1)) : Int) ≤ bound
theorem blockR_inv (most bound : Int) (hb : 0 ≤ bound) : ∀ (m : Nat) (fs : List FldT) (lim : Int) (size : Nat) (out : List LnD) (l : List UInt8), 0 ≤ lim → lim ≤ most → (tz fs : Int) ≤ lim → size = tz (out.map (·.1)) → (size : Int) ≤ bound → Inv7 most bound (blockR most bound m fs lim size out l)
  | 0, fs, lim, size, out, l, h0, h1, h2, h3, h4 => by
    rw [show blockR most bound 0 fs lim size out l = (0, out, fs, lim) from by cases l <;> rfl]
    exact ⟨h0, h1, h2, fun h => absurd rfl h, by simp only; rw [← h3]; exact h4⟩
  | m + 1, fs, lim, size, out, [], h0, h1, h2, h3, h4 => by
    rw [blockR_nil]
    exact ⟨h0, h1, h2, fun h => absurd rfl h, by simp only; rw [← h3]; exact h4⟩
  | m + 1, fs, lim, size, out, c :: r, h0, h1, h2, h3, h4 => by
    have hno : ∀ (e : Nat) (gs : List FldT), (tz gs : Int) ≤ lim → Inv7 most bound (e, [], gs, lim) := fun e gs hg => ⟨h0, h1, hg, fun _ => rfl, by simpa [tz] using hb⟩
    rcases decL_casesB (bitsR c.toNat) (by have := bitsR_bd c.toNat; omega) (c :: r) with he | he | ⟨N, u, he, hu1, hu2, _⟩
    · rw [blockR_num (e := 22) he (by omega)]; exact hno _ _ h2
    · rw [blockR_num (e := 16) he (by omega)]; exact hno _ _ h2
    · by_cases hk : kindR c.toNat = 2
      · by_cases hn : 0 < out.length ∨ most < (N : Int)
        · rw [blockR_lim_no he hk hn]; exact hno _ _ h2
        · rw [blockR_lim he hk hn]
          exact blockR_inv most bound hb m _ _ _ _ _ (by omega) (by omega) (tz_gone_nat fs N) h3 h4
      · rw [blockR_line he _ rfl hk _ rfl]
        have hz := tz_fsL fs lim (kindR c.toNat) N ((c :: r).drop u) h0 h2
        split
        · exact hno _ _ hz
        split
        · exact hno _ _ hz
        · rename_i hbd
          refine blockR_inv most bound hb m _ _ _ _ _ h0 h1 hz ?_ (by omega)
          rw [List.map_append, tz_append, ← h3]
          simp [tz]
theorem run_lines_eq (S : ByteArray) : (S.toList == S.toList) = true := beq_self_eq_true _
end Go.Proofs.Ytdoddpigiencjaa

