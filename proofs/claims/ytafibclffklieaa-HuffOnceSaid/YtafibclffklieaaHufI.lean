/-
  Package huff: a fixed answer.
-/
import Derived.Test.YtafibclffklieaaHufH
import Derived.Test.YtafibclffklieaaHufA
import Derived.Lib.SlBytesConst
namespace Go.Proofs.Ytafibclffklieaa
set_option linter.unusedVariables false
set_option linter.unusedSimpArgs false
open Go.RowKit
def wwwL : List UInt8 := [119, 119, 119, 46, 101, 120, 97, 109, 112, 108, 101, 46, 99, 111, 109]
def wwwO : List UInt8 := [241, 227, 194, 229, 242, 58, 107, 160, 171, 144, 244, 255]
def endL : List UInt8 := [255, 255, 255, 255]
theorem www_enc : IsEnc wwwL wwwO := ⟨7, by omega, by kernel_rfl⟩
theorem end_dec : decE (bitsL endL) = (21, []) := by kernel_rfl
theorem www_dec : decE (bitsL wwwO) = (0, wwwL) := www_enc.dec
set_option maxRecDepth 100000 in
set_option maxHeartbeats 3200000 in
theorem hf_awake (w : World) : Calls Try.prog 9 #[] w fun e w' => e = .returned (.bool true) ∧ Fresh w w' := by
  have HE : Hid (∀ W A, BS W A wwwL → Calls Try.prog 11 #[.slice A 15 15] W (EncF wwwL W)) := Lib.hid (fun W A h => huff_encode A 15 wwwL W h (by decide))
  have HD : Hid (∀ W A c, BS W A wwwO → Calls Try.prog 15 #[.slice A 12 c] W (DecF (bitsL wwwO) W)) := Lib.hid (fun W A c h => huff_decode A c wwwO W h (by decide))
  have HF : Hid (∀ W A, BS W A endL → Calls Try.prog 15 #[.slice A 4 4] W (DecF (bitsL endL) W)) := Lib.hid (fun W A h => huff_decode A 4 endL W h (by decide))
  have kc : ∀ (w : World) (C : Array Value) (n c H : Nat), w.heap.size = H → (convert 27 27 (.slice (some ⟨H, 0, none⟩) n c)).run Try.prog (w.alloc (.cells C 5)) = .ok (.slice (some ⟨H, 0, none⟩) n c) (w.alloc (.cells C 5 (C.size, C.size + 1))) := fun w C n c H h => by
    subst h
    exact Lib.run_convert_bytes_const (P := Try.prog) w 27 5 C n c Try.underlying27 Try.underlying5
  go_enter Try.func9, Try.ntmps9
  go_wp2_with fail
  refine (HE.out _ _ (BS.const w 5 wwwL (15, 16))).mono ?_
  rintro e w1 ⟨O, A1, c1, rfl, henc, hown, hf1⟩
  obtain rfl : wwwO = O := www_enc.uniq henc
  obtain ⟨hb1, _⟩ := Own.bytes hown
  have HF1 := Lib.hid ((Fresh.alloc w (.cells (bytesA wwwL) 5 (15, 16))).trans hf1)
  have HB1 := Lib.hid hb1
  clear kc henc hown hf1 hb1 HE
  rw [show wwwO.length = 12 from rfl]
  go_wp2_with fail
  with_reducible refine (HD.out _ _ _ HB1.out).mono ?_
  rintro e w2 ⟨A2, c2, rfl, hown, hf2⟩
  obtain ⟨hb2, _⟩ := Own.bytes hown
  have HF2 := Lib.hid (HF1.out.trans hf2)
  rw [www_dec] at hb2 ⊢
  have HB2 := Lib.hid hb2
  have HB3 := Lib.hid (HB1.out.fresh hf2)
  clear hown hf2 hb2 HB1 HF1 HD
  rw [show wwwL.length = 15 from rfl]
  go_wp2_with fail
  refine (HF.out _ _ (BS.row (l := endL) (t := 5) (Blk.new w2 5 (bytesA endL)))).mono ?_
  rintro e w3 ⟨A3, c3, rfl, _, hf3⟩
  have HF3 := Lib.hid ((HF2.out.allocS _).trans hf3)
  have hb1 := HB3.out.fresh ((Fresh.alloc w2 (.cells (bytesA endL) 5)).trans hf3)
  have hb2 := HB2.out.fresh ((Fresh.alloc w2 (.cells (bytesA endL) 5)).trans hf3)
  have hcv1 := run_str (P := Try.prog) hb1 27 9 5 Try.underlying27 Try.underlying5 Try.underlying9 c1
  have hcv2 := run_str (P := Try.prog) hb2 27 9 5 Try.underlying27 Try.underlying5 Try.underlying9 c2
  clear hb1 hb2 hf3 HB2 HB3 HF2 HF
  rw [end_dec]
  rw [show wwwO.length = 12 from rfl, show strB wwwO = { data := #[241, 227, 194, 229, 242, 58, 107, 160, 171, 144, 244, 255] } from rfl] at hcv1
  rw [show wwwL.length = 15 from rfl, show strB wwwL = { data := #[119, 119, 119, 46, 101, 120, 97, 109, 112, 108, 101, 46, 99, 111, 109] } from rfl] at hcv2
  go_wp2_with fail
  go_ret
  exact ⟨rfl, HF3.out⟩
end Go.Proofs.Ytafibclffklieaa
