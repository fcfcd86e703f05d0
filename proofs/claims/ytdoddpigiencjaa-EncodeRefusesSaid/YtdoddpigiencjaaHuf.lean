/-
  Package huff: Size.
-/
import Derived.Test.YtdoddpigiencjaaOwn
import Derived.Test.YtdoddpigiencjaaMore
import Derived.Test.YtdoddpigiencjaaMake
import Derived.Test.YtdoddpigiencjaaRet
import Derived.Test.YtdoddpigiencjaaGen
import Derived.Test.YtdoddpigiencjaaChain
import Derived.Test.YtdoddpigiencjaaHufB
import Derived.Handy
import Derived.Deep.Cut
import Derived.Deep.RegionHeld3
import Derived.Deep.RegionLaw
namespace Go.Proofs.Ytdoddpigiencjaa
set_option linter.unusedVariables false
set_option linter.unusedSimpArgs false
open Go.RowKit
theorem run_index_lnA {P : Program} (w : World) (t : TypeId) (k : IntKind) (i : Int) (h : P.underlying t = some .string) (h0 : 0 ≤ i) (h1 : i ≤ 256) :
    (Instr.index t (.string lnA) (.int k i)).run P w = .ok (.int .u8 (lnI i)) w := by
  have hi : 0 ≤ i ∧ i < (lnA.size : Int) := by rw [lnA_size]; omega
  have h2 : i.toNat < lnA.size := by rw [lnA_size]; omega
  rw [run_index_string w t lnA k i h, dif_pos hi]
  simp only [lnI, ByteArray.getElem?_lt' _ _ h2, Option.getD_some]
attribute [local go_sem high] fold_lnA run_index_lnA
set_option maxRecDepth 100000 in
set_option maxHeartbeats 800000 in
theorem hf_size (A : Option Addr) (c : Nat) (l : List UInt8) (w : World) (h : BS w A l) (hl : l.length ≤ 100000000) : Calls Try.prog 78 #[.slice A l.length c] w fun e w' => e = .returned (.int .i64 (((szB l + 7) / 8 : Nat) : Int)) ∧ w = w' := by
  have H := Lib.hid h
  obtain ⟨n, hn⟩ : ∃ n, l.length = n := ⟨_, rfl⟩
  have HN := Lib.hid hn
  have HZ := Lib.hid (fun k => szB_le (l.take k))
  rw [hn] at hl ⊢
  clear hn h
  go_enter Try.func78, Try.ntmps78
  go_wp2
  go_loop [3, 8] (fun s i => ∃ k : Nat, k ≤ n ∧ i = .int .i64 k ∧ s = .int .i64 (szB (l.take k) : Int)) (fun _ i => n - (intOf i).toNat)
  case atStart => exact ⟨0, by omega, rfl, by simp [szB, encB]⟩
  case round =>
    obtain ⟨k, hk, rfl, rfl⟩ := hrel
    have hz := HZ.out k
    rw [List.length_take, HN.out, Nat.min_eq_left hk] at hz
    by_cases hlt : k < n
    · have hlt' : (k : Int) < (n : Int) := by omega
      have hkl : k < l.length := by rw [HN.out]; exact hlt
      obtain ⟨b, o, rfl, hb, hc⟩ := H.out (by rw [HN.out]; omega)
      have hck := hc k hkl
      have hx := UInt8.toNat_lt l[k]
      have HS : Hid ((szB (l.take (k + 1)) : Int) = (szB (l.take k) : Int) + (ln l[k].toNat : Int)) := Lib.hid (by rw [List.take_succ_eq_append_getElem hkl, szB_snoc]; omega)
      have hx1 : (l[k].toNat : Int) ≤ 256 := by omega
      have hx0 : (0 : Int) ≤ (l[k].toNat : Int) := by omega
      have hL := lnI_eq (s := l[k].toNat) (by omega)
      have hln := (ln_ok (s := l[k].toNat) (by omega)).2.1
      unfold byteV at hck
      generalize l[k] = x at *
      generalize szB (l.take k) = z at *
      generalize ln x.toNat = y at *
      clear hc hkl
      go_wp2
      go_round
      case rel => exact ⟨k + 1, by omega, by go_num, by rw [HS.out]⟩
      case measure => simp [intOf]; omega
    · obtain rfl : k = n := by omega
      rw [List.take_of_length_le (by rw [HN.out]; exact Nat.le_refl _)] at hz ⊢
      generalize hze : szB l = z at *
      have HZE := Lib.hid hze
      clear hze
      go_wp2
      go_ret
      exact ⟨ret_int (by rw [HZE.out]), rfl⟩
end Go.Proofs.Ytdoddpigiencjaa

