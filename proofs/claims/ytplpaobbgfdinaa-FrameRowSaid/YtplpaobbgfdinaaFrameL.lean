/-
  The fixed answers of the laws of layer 9.
-/
import Derived.Test.YtplpaobbgfdinaaFrameP
import Derived.Test.YtplpaobbgfdinaaOctetL
namespace Go.Proofs.Ytplpaobbgfdinaa
set_option linter.unusedVariables false
open Go.RowKit

def ping : List UInt8 := [49, 50, 51, 52, 53, 54, 55, 56]
def pingB : List UInt8 := [0, 0, 8, 6, 0, 0, 0, 0, 0, 49, 50, 51, 52, 53, 54, 55, 56]
theorem ping_bytes : frB2 6 0 0 ping = pingB := by decide
theorem pingB_parse : parseK (pingB ++ [1]) 100 = 0 := by decide
theorem pingB_parse7 : parseK pingB 7 = 106 := by decide
set_option maxRecDepth 100000 in
set_option maxHeartbeats 3200000 in
theorem awake_true (w : World) :
    Calls Try.prog 9 #[] w fun e w' => e = .returned (.bool true) ∧ Fresh w w' := by
  have HP : Hid (∀ o, BS ((w.alloc (.cells #[.int .u8 49, .int .u8 50, .int .u8 51, .int .u8 52, .int .u8 53, .int .u8 54, .int .u8 55, .int .u8 56] 5 (8, 9))).alloc o) (some ⟨w.heap.size, 0, none⟩) ping) := fun o => (BS.const w 5 ping (8, 9)).fresh (Fresh.alloc _ _)
  have HF : Hid (∀ o, Fresh w ((w.alloc (.cells #[.int .u8 49, .int .u8 50, .int .u8 51, .int .u8 52, .int .u8 53, .int .u8 54, .int .u8 55, .int .u8 56] 5 (8, 9))).alloc o)) := fun o => (Fresh.alloc _ _).trans (Fresh.alloc _ _)
  have hw1 : (w.alloc (.cells #[.int .u8 49, .int .u8 50, .int .u8 51, .int .u8 52, .int .u8 53, .int .u8 54, .int .u8 55, .int .u8 56] 5 (8, 9))).heap.size = w.heap.size + 1 := by simp
  have HB1 : Hid (Blk _ (w.heap.size + 1) 24 #[.int .i64 6, .int .i64 0, .int .i64 0, .slice (some ⟨w.heap.size, 0, none⟩) 8 8]) := hw1 ▸ Blk.new (w.alloc (.cells #[.int .u8 49, .int .u8 50, .int .u8 51, .int .u8 52, .int .u8 53, .int .u8 54, .int .u8 55, .int .u8 56] 5 (8, 9))) 24 #[.int .i64 6, .int .i64 0, .int .i64 0, .slice (some ⟨w.heap.size, 0, none⟩) 8 8]
  clear hw1
  have hT : (strB pingB).toList = [0, 0, 8, 6, 0, 0, 0, 0, 0, 49, 50, 51, 52, 53, 54, 55, 56] := strB_toList pingB
  have kc := fun (w : World) (C : Array Value) (n c : Nat) => Lib.run_convert_bytes_const (P := Try.prog) w 22 5 C n c Try.underlying22 Try.underlying5
  go_enter Try.func9, Try.ntmps9
  go_wp2_with fail
  with_reducible refine (fbytes_at 6 0 0 6 0 0 _ 8 17 8 ping pingB _ (by decide) (by decide) (by decide) (by decide) ping_bytes (by decide) (by decide) (by decide) (HP.out _) (by decide)).mono ?_
  rintro e w2 ⟨A2, c2, rfl, h2a, h2b, ho2, hf2⟩
  have HB2 := Lib.hid (HB1.out.fresh hf2)
  have HP2 := Lib.hid ((HP.out _).fresh hf2)
  have HF2 := Lib.hid ((HF.out _).trans hf2)
  have HO2 := Lib.hid ho2
  have HF2s := Lib.hid hf2
  obtain ⟨A3, c3, w3, hap3, ho3, hbl3, hk3⟩ := Own.moreN (P := Try.prog) Try.underlying22 u8_info 22 (ho2.fresh (Fresh.alloc w2 (.cells #[.int .u8 1] 5))) (hf2.trans (Fresh.alloc w2 (.cells #[.int .u8 1] 5))) (Nat.le_refl _) (some ⟨w2.heap.size, 0, none⟩) 1 [1] 1 18 rfl (by omega) (BS.row (Blk.new w2 5 #[.int .u8 1])) (Nat.le_refl _) (by omega)
  have HO3 := Lib.hid ho3
  have HK3 := Lib.hid hk3
  have hF3 : Fresh _ w3 := hbl3
  have hs2 : w2.heap.size < w2.heap.size + 1 := by omega
  have HB3 := Lib.hid (HB1.out.fresh hF3)
  have HF3 := Lib.hid ((HF.out _).trans hF3)
  clear ho2 hf2 ho3 hk3 hbl3 hs2
  obtain ⟨A3', c3', e3, hc3, hm3, _⟩ := HO3.out.slice
  cases e3
  obtain ⟨A2', c2', e2, hc2, hm2, _⟩ := HO2.out.slice
  cases e2
  go_wp2_with (at_builtin; with_reducible refine wp_app rfl (.tmp 19) (.tmp 20) _ rfl hap3 rfl rfl rfl ?_)
  with_reducible refine (fparse_at A3 18 c3 (pingB ++ [1]) 100 w3 (by decide) hc3 hm3 HO3.out.bytes.1 6 0 8 0 6 0 0 17 ping pingB_parse (by decide) (by decide) (by decide) (by decide) (by decide) (by decide) (by decide) (by decide) (by decide)).mono ?_
  rintro e w4 ⟨A4, rfl, hbs4, _, hf4⟩
  have HBS4 := Lib.hid hbs4
  have HF4 := Lib.hid hf4
  clear hbs4 hf4
  have HK4 := Lib.hid (HK3.out.bytes.1.fresh (HF4.out.trans (Fresh.alloc w4 (.cells #[.int .i64 6, .int .i64 0, .int .i64 0, .slice A4 8 8] 24))))
  go_wp2_with fail
  with_reducible refine (fparse_no A2 17 c2 pingB 7 106 _ (by decide) hc2 hm2 HK4.out 106 pingB_parse7 (by decide) (by decide)).mono ?_
  rintro e w5 ⟨rfl, hf5⟩
  have HF45 := Lib.hid ((HF4.out.trans (Fresh.alloc w4 (.cells #[.int .i64 6, .int .i64 0, .int .i64 0, .slice A4 8 8] 24))).trans hf5)
  have hb5 := HB3.out.fresh HF45.out
  have hg5 := (Blk.new w4 24 #[.int .i64 6, .int .i64 0, .int .i64 0, .slice A4 8 8]).fresh hf5
  obtain ⟨b0, b1, b2, b3⟩ := hb5.c4
  obtain ⟨d0, d1, d2, d3⟩ := hg5.c4
  have hbl := hb5.lt
  have hgl := hg5.lt
  have HO := Lib.hid (Fresh.alloc w5 (.cells #[.int .i64 0, .int .i64 0, .int .i64 0, .slice none 0 0] 24))
  have hs5 := run_str (P := Try.prog) (HK3.out.bytes.1.fresh (HF45.out.trans HO.out)) 22 9 5 Try.underlying22 Try.underlying5 Try.underlying9 c2
  rw [show pingB.length = 17 by decide] at hs5
  have HFE := Lib.hid (HF3.out.trans (HF45.out.trans HO.out))
  have HBS5 := Lib.hid (HBS4.out.fresh ((Fresh.alloc w4 (.cells #[.int .i64 6, .int .i64 0, .int .i64 0, .slice A4 8 8] 24)).trans (hf5.trans HO.out)))
  have HP5 := Lib.hid ((HP.out _).fresh (hF3.trans (HF45.out.trans HO.out)))
  clear hb5 hg5 hf5 hF3
  go_wp2_with fail
  with_reducible refine (fequal_at 6 0 0 A4 8 ping 8 6 0 0 _ 8 ping 8 _ true (by decide) (by decide) HBS5.out HP5.out (by decide)).mono ?_
  rintro e w6 ⟨rfl, hf6⟩
  have hb6 := HB3.out.fresh (HF45.out.trans (HO.out.trans hf6))
  clear b0 b1 b2 b3 d0 d1 d2 d3 hbl hgl hs5
  obtain ⟨b0, b1, b2, b3⟩ := hb6.c4
  have HFE6 := Lib.hid (HFE.out.trans hf6)
  clear hb6 hf6
  go_wp2_with fail
  with_reducible refine (flen_at 6 0 0 _ 8 8 17 _ (by omega) (by omega)).mono ?_
  rintro e w7 ⟨rfl, hf7⟩
  have HFE7 := Lib.hid (HFE6.out.trans hf7)
  clear hf7
  go_wp2
  go_ret
  exact ⟨rfl, HFE7.out⟩
end Go.Proofs.Ytplpaobbgfdinaa
