/-
  Layer 4: a fixed answer.
-/
import Derived.Test.YtkdbndgkgpcmfaaLitD
import Derived.Test.YtkdbndgkgpcmfaaLitF
import Derived.Lib.SlBytesConst
namespace Go.Proofs.Ytkdbndgkgpcmfaa
set_option linter.unusedVariables false
set_option linter.unusedSimpArgs false
open Go.RowKit
theorem aw_lit : IsLit [97] true [129, 31] := ⟨[31], ⟨3, by omega, by kernel_rfl⟩, by kernel_rfl⟩
theorem aw_r1 : litR [1, 97, 98] 9 = ([97], 2, 0) := by kernel_rfl
theorem aw_r2 : litR [2, 97, 98] 1 = ([], 0, 22) := by kernel_rfl
set_option maxRecDepth 100000 in
set_option maxHeartbeats 3200000 in
theorem lit_awake (w : World) : Calls Try.prog 8 #[] w fun e w' => e = .returned (.bool true) ∧ Fresh w w' := by
  have HE : Hid (∀ W A, BS W A [97] → Calls Try.prog 9 #[.slice A 1 1, .bool true] W (LitP [97] true W)) := Lib.hid (fun W A h => lit_encode A 1 [97] true W (by decide) h)
  have HD1 : Hid (∀ W A, BS W A [1, 97, 98] → Calls Try.prog 13 #[.slice A 3 3, .int .i64 9] W (LitDP [1, 97, 98] 9 W)) := Lib.hid (fun W A h => lit_decode A 3 [1, 97, 98] 9 W (by decide) (by decide) (by decide) h)
  have HD2 : Hid (∀ W A, BS W A [2, 97, 98] → Calls Try.prog 13 #[.slice A 3 3, .int .i64 1] W (LitDP [2, 97, 98] 1 W)) := Lib.hid (fun W A h => lit_decode A 3 [2, 97, 98] 1 W (by decide) (by decide) (by decide) h)
  have kc : ∀ (w : World) (C : Array Value) (n c H : Nat), w.heap.size = H → (convert 22 22 (.slice (some ⟨H, 0, none⟩) n c)).run Try.prog (w.alloc (.cells C 5)) = .ok (.slice (some ⟨H, 0, none⟩) n c) (w.alloc (.cells C 5 (C.size, C.size + 1))) := fun w C n c H h => by
    subst h
    exact Lib.run_convert_bytes_const (P := Try.prog) w 22 5 C n c Try.underlying22 Try.underlying5
  go_enter Try.func8, Try.ntmps8
  go_wp2_with fail
  refine (HE.out _ _ (BS.const w 5 [97] (1, 2))).mono ?_
  rintro e w1 ⟨P, A1, c1, rfl, hP, hown, hf1⟩
  obtain rfl : [129, 31] = P := aw_lit.uniq hP
  have HB1 := Lib.hid hown.bytes.1
  have HF1 := Lib.hid ((Fresh.alloc w (.cells (bytesA [97]) 5 (1, 2))).trans hf1)
  clear kc hP hown hf1 HE
  rw [show ([129, 31] : List UInt8).length = 2 from rfl]
  go_wp2_with fail
  refine (HD1.out _ _ (BS.row (l := [1, 97, 98]) (t := 5) (Blk.new w1 5 (bytesA [1, 97, 98])))).mono ?_
  rintro e w2 ⟨A2, c2, rfl, hown, hf2⟩
  rw [aw_r1] at hown ⊢
  have HB2 := Lib.hid hown.bytes.1
  have HF2 := Lib.hid ((HF1.out.allocS (.cells (bytesA [1, 97, 98]) 5)).trans hf2)
  have HB12 := Lib.hid (HB1.out.fresh ((Fresh.alloc w1 (.cells (bytesA [1, 97, 98]) 5)).trans hf2))
  clear hown hf2 HB1 HF1 HD1
  rw [show (([97] : List UInt8), 2, 0).1.length = 1 from rfl, show (([97] : List UInt8), 2, 0).2.1 = 2 from rfl, show (([97] : List UInt8), 2, 0).2.2 = 0 from rfl, show ((2 : Nat) : Int) = 2 from rfl, show ((0 : Nat) : Int) = 0 from rfl]
  go_wp2_with fail
  refine (HD2.out _ _ (BS.row (l := [2, 97, 98]) (t := 5) (Blk.new w2 5 (bytesA [2, 97, 98])))).mono ?_
  rintro e w3 ⟨A3, c3, rfl, _, hf3⟩
  have HF3 := Lib.hid ((HF2.out.allocS (.cells (bytesA [2, 97, 98]) 5)).trans hf3)
  have hb1 := HB12.out.fresh ((Fresh.alloc w2 (.cells (bytesA [2, 97, 98]) 5)).trans hf3)
  have hb2 := HB2.out.fresh ((Fresh.alloc w2 (.cells (bytesA [2, 97, 98]) 5)).trans hf3)
  have hcv1 := run_str (P := Try.prog) hb1 22 9 5 Try.underlying22 Try.underlying5 Try.underlying9 c1
  have hcv2 := run_str (P := Try.prog) hb2 22 9 5 Try.underlying22 Try.underlying5 Try.underlying9 c2
  clear hb1 hb2 hf3 HB2 HB12 HF2 HD2
  rw [aw_r2]
  rw [show ([129, 31] : List UInt8).length = 2 from rfl, show strB [129, 31] = { data := #[129, 31] } from rfl] at hcv1
  rw [show (([97] : List UInt8), 2, 0).1.length = 1 from rfl, show strB (([97] : List UInt8), 2, 0).1 = { data := #[97] } from rfl] at hcv2
  rw [show (([] : List UInt8), 0, 22).1.length = 0 from rfl, show (([] : List UInt8), 0, 22).2.1 = 0 from rfl, show (([] : List UInt8), 0, 22).2.2 = 22 from rfl, show ((22 : Nat) : Int) = 22 from rfl, show ((0 : Nat) : Int) = 0 from rfl]
  go_wp2_with fail
  go_ret
  exact ⟨rfl, HF3.out⟩
end Go.Proofs.Ytkdbndgkgpcmfaa
