/-
  The document's answers for octet, and the law's own fixed answers.
-/
import Derived.Test.YtcdghmidpaeloaaOctet
import Derived.Lib.SmallJoins
namespace Go.Proofs.Ytcdghmidpaeloaa
set_option linter.unusedVariables false
open Go.RowKit
set_option maxHeartbeats 400000 in
theorem ref_num_s (s : ByteArray) (w : World) (hs8 : s.size ≤ 8) :
    Calls Try.prog 45 #[.string s] w fun e w' => e = .returned (.int .u64 (numL s.data.toList)) ∧ w = w' := by
  have hsz : s.size = s.data.toList.length := by rw [Array.length_toList]; rfl
  have HSZ := Lib.hid hsz
  have HG : Hid (∀ k (h : k < s.size), numL (s.data.toList.take (k + 1)) = numL (s.data.toList.take k) * 256 + s[k].toNat) := fun k h => by
    rw [numL_take _ k (by omega)]; rfl
  clear hsz
  obtain ⟨l, hl⟩ : ∃ l, l = s.data.toList := ⟨_, rfl⟩
  rw [← hl] at HG HSZ ⊢
  clear hl
  go_enter Try.func45, Try.ntmps45
  go_wp2
  go_loop [3, 4] (fun x i => ∃ (k : Nat), k ≤ s.size ∧ i = .int .i64 k ∧ x = .int .u64 (numL (l.take k))) (fun _ i => s.size - (intOf i).toNat)
  case atStart => exact ⟨0, by omega, rfl, rfl⟩
  case round =>
    obtain ⟨k, hk, rfl, rfl⟩ := hrel
    have hkl : k ≤ l.length := by have := HSZ.out; omega
    by_cases hlt : k < s.size
    · have hlt' : k < l.length := by have := HSZ.out; omega
      have hn := HG.out k hlt
      have hz1 := numL_take_lt l k 7 (by omega)
      have hb := UInt8.toNat_lt s[k]
      have HN : Hid (((numL (l.take (k + 1)) : Nat) : Int) = (numL (l.take k) : Int) * 256 + (s[k].toNat : Int)) := by
        show _ = _
        rw [hn]; omega
      clear hn
      generalize numL (l.take k) = z at *
      have hz0 : (0 : Int) ≤ (z : Int) := by omega
      have hz2 : (z : Int) < 72057594037927936 := by rw [show (256 : Nat) ^ 7 = 72057594037927936 from rfl] at hz1; omega
      have hb2 : (s[k].toNat : Int) < 256 := by omega
      clear hz1 hb
      go_wp2
      go_round
      case rel => exact ⟨k + 1, by omega, by go_num, by rw [HN.out]⟩
      case measure => simp [intOf]; omega
    · have hkk : k = l.length := by have := HSZ.out; omega
      have HK := Lib.hid hkk
      clear hkk
      go_wp2
      go_ret
      exact ⟨by rw [HK.out]; simp, rfl⟩

theorem ref_num (l : List UInt8) (w : World) (hl : l.length ≤ 8) :
    Calls Try.prog 45 #[.string (strB l)] w fun e w' => e = .returned (.int .u64 (numL l)) ∧ w = w' :=
  ref_num_s (strB l) w (by rw [strB_size]; exact hl)

end Go.Proofs.Ytcdghmidpaeloaa

