/-
  The document's answer for layer 10: flag, word, weigh.
-/
import Derived.Test.YtcdghmidpaeloaaPayH
import Derived.Test.YtcdghmidpaeloaaOctetL
import Derived.StillTailTactics
import Derived.Deep.Cut
namespace Go.Proofs.Ytcdghmidpaeloaa
set_option maxRecDepth 100000
set_option linter.unusedVariables false
set_option linter.unusedSimpArgs false
open Go.RowKit
def b2i (b : Bool) : Int := if b then 1 else 0
theorem flag_all1 : ∀ n : Fin 256, ((n.val : Int).tdiv 1).tmod 2 = b2i (hasB (n.val : Int) 1) := by decide +kernel
theorem flag_all4 : ∀ n : Fin 256, ((n.val : Int).tdiv 4).tmod 2 = b2i (hasB (n.val : Int) 4) := by decide +kernel
theorem flag_all8 : ∀ n : Fin 256, ((n.val : Int).tdiv 8).tmod 2 = b2i (hasB (n.val : Int) 8) := by decide +kernel
theorem flag_all32 : ∀ n : Fin 256, ((n.val : Int).tdiv 32).tmod 2 = b2i (hasB (n.val : Int) 32) := by decide +kernel
theorem flag_at (fl : Int) (h0 : 0 ≤ fl) (h1 : fl ≤ 255) (k : Int) (hk : k = 1 ∨ k = 4 ∨ k = 8 ∨ k = 32) : (fl.tdiv k).tmod 2 = b2i (hasB fl k) := by
  obtain ⟨n, rfl⟩ := Int.eq_ofNat_of_zero_le h0
  have hn : n < 256 := by omega
  rcases hk with rfl | rfl | rfl | rfl
  · exact flag_all1 ⟨n, hn⟩
  · exact flag_all4 ⟨n, hn⟩
  · exact flag_all8 ⟨n, hn⟩
  · exact flag_all32 ⟨n, hn⟩
theorem b2i_bd (b : Bool) : 0 ≤ b2i b ∧ b2i b ≤ 1 := by cases b <;> decide
theorem rf_flag (fl : Int) (h0 : 0 ≤ fl) (h1 : fl ≤ 255) (k : Int) (hk : k = 1 ∨ k = 4 ∨ k = 8 ∨ k = 32) (r : Int) (hr : b2i (hasB fl k) = r) (w : World) :
    Calls Try.prog 17 #[.int .i64 fl, .int .i64 k] w fun e w' => e = .returned (.int .i64 r) ∧ w' = w := by
  subst hr
  have hf := flag_at fl h0 h1 k hk
  have hb := b2i_bd (hasB fl k)
  have HF := Lib.hid hf
  generalize b2i (hasB fl k) = v at *
  obtain ⟨d, hd⟩ : ∃ d, fl.tdiv k = d := ⟨_, rfl⟩
  have hd0 : 0 ≤ d ∧ d ≤ 255 := by
    rw [← hd, Int.tdiv_eq_ediv_of_nonneg h0]
    rcases hk with rfl | rfl | rfl | rfl <;> omega
  have hk0 : ¬ k = 0 := by omega
  have w1 : IntKind.i64.wrap d = d := IntWalk.i64_in _ (by omega)
  have w2 : IntKind.i64.wrap v = v := IntWalk.i64_in _ (by omega)
  rw [hd] at hf
  clear hk
  go_enter Try.func17, Try.ntmps17
  go_wp2
  go_ret
  exact ⟨rfl, rfl⟩
theorem rf_word (l : List UInt8) (hl : l.length ≤ 4) (r : Nat) (hr : numL l = r) (w : World) :
    Calls Try.prog 19 #[.string (strB l)] w fun e w' => e = .returned (.int .i64 (r : Int)) ∧ w' = w := by
  have HN := Lib.hid (fun W => ref_num l W (by omega))
  have hlt : numL l < 4294967296 := by
    have h1 := numL_lt l
    have h2 : 256 ^ l.length ≤ 256 ^ 4 := Nat.pow_le_pow_right (by omega) hl
    omega
  rw [hr] at hlt HN
  have w1 : IntKind.i64.wrap (r : Int) = (r : Int) := IntWalk.i64_in _ (by omega)
  clear hr
  generalize strB l = S at *
  go_enter Try.func19, Try.ntmps19
  go_wp2_with fail
  with_reducible refine (HN.out _).mono ?_
  rintro e w2 ⟨rfl, hw⟩
  obtain rfl : w2 = _ := hw.symm
  go_wp2
  go_ret
  exact ⟨rfl, rfl⟩
theorem Blk.c15 {w : World} {g : Nat} {t : TypeId} {a0 a1 a2 a3 a4 a5 a6 a7 a8 a9 a10 a11 a12 a13 a14 : Value} (h : Blk w g t #[a0, a1, a2, a3, a4, a5, a6, a7, a8, a9, a10, a11, a12, a13, a14]) : w.cell? ⟨g, 0, none⟩ = some a0 ∧ w.cell? ⟨g, 1, none⟩ = some a1 ∧ w.cell? ⟨g, 2, none⟩ = some a2 ∧ w.cell? ⟨g, 3, none⟩ = some a3 ∧ w.cell? ⟨g, 4, none⟩ = some a4 ∧ w.cell? ⟨g, 5, none⟩ = some a5 ∧ w.cell? ⟨g, 6, none⟩ = some a6 ∧ w.cell? ⟨g, 7, none⟩ = some a7 ∧ w.cell? ⟨g, 8, none⟩ = some a8 ∧ w.cell? ⟨g, 9, none⟩ = some a9 ∧ w.cell? ⟨g, 10, none⟩ = some a10 ∧ w.cell? ⟨g, 11, none⟩ = some a11 ∧ w.cell? ⟨g, 12, none⟩ = some a12 ∧ w.cell? ⟨g, 13, none⟩ = some a13 ∧ w.cell? ⟨g, 14, none⟩ = some a14 := ⟨h.cell 0, h.cell 1, h.cell 2, h.cell 3, h.cell 4, h.cell 5, h.cell 6, h.cell 7, h.cell 8, h.cell 9, h.cell 10, h.cell 11, h.cell 12, h.cell 13, h.cell 14⟩
theorem Blk.z15 {w : World} {g : Nat} {t : TypeId} {a0 a1 a2 a3 a4 a5 a6 a7 a8 a9 a10 a11 a12 a13 a14 : Value} (h : Blk w g t #[a0, a1, a2, a3, a4, a5, a6, a7, a8, a9, a10, a11, a12, a13, a14]) : w.frozen? ⟨g, 0, none⟩ = false ∧ w.frozen? ⟨g, 1, none⟩ = false ∧ w.frozen? ⟨g, 2, none⟩ = false ∧ w.frozen? ⟨g, 3, none⟩ = false ∧ w.frozen? ⟨g, 4, none⟩ = false ∧ w.frozen? ⟨g, 5, none⟩ = false ∧ w.frozen? ⟨g, 6, none⟩ = false ∧ w.frozen? ⟨g, 7, none⟩ = false ∧ w.frozen? ⟨g, 8, none⟩ = false ∧ w.frozen? ⟨g, 9, none⟩ = false ∧ w.frozen? ⟨g, 10, none⟩ = false ∧ w.frozen? ⟨g, 11, none⟩ = false ∧ w.frozen? ⟨g, 12, none⟩ = false ∧ w.frozen? ⟨g, 13, none⟩ = false ∧ w.frozen? ⟨g, 14, none⟩ = false := ⟨h.frozen 0, h.frozen 1, h.frozen 2, h.frozen 3, h.frozen 4, h.frozen 5, h.frozen 6, h.frozen 7, h.frozen 8, h.frozen 9, h.frozen 10, h.frozen 11, h.frozen 12, h.frozen 13, h.frozen 14⟩
/-- An item of the document's: all that it says but the pairs. -/
def dI (ty st fl : Int) (t : ByteArray) (en eh ak co la inc de we wd ex : Int) (PA : Option Addr) (pn pc : Nat) : Array Value := #[.int .i64 ty, .int .i64 st, .string t, .int .i64 en, .int .i64 eh, .int .i64 ak, .int .i64 fl, .int .i64 co, .int .i64 la, .int .i64 inc, .int .i64 de, .int .i64 we, .int .i64 wd, .int .i64 ex, .slice PA pn pc]
set_option maxHeartbeats 1600000 in
theorem rf_weigh (ty st fl : Int) (t : ByteArray) (en eh ak co la inc de we wd ex : Int) (PA : Option Addr) (pn pc : Nat) (l : List UInt8) (hl : 5 ≤ l.length) (hm : l.length ≤ 1000) (n : Nat) (hn : numL (l.take 4) = n) (y : UInt8) (hy : l[4]? = some y) (w : World) :
    Calls Try.prog 18 #[.agg (dI ty st fl t en eh ak co la inc de we wd ex PA pn pc), .string (strB l)] w fun e w' => e = .returned (.agg (dI ty st fl t en eh ak co la inc ((n % 2147483648 : Nat) : Int) ((y.toNat : Int) + 1) 1 (b2i (decide (2147483648 ≤ n))) PA pn pc)) ∧ Fresh w w' := by
  have HW := Lib.hid (fun W => rf_word (l.take 4) (by simp; omega) n hn W)
  have hlt : n < 4294967296 := by
    have := numL_take_lt l 4 4 (Nat.le_refl _)
    rw [hn, show (256 : Nat) ^ 4 = 4294967296 from rfl] at this
    exact this
  have hz : (strB l).size = l.length := strB_size l
  have hE : (strB l).extract 0 4 = strB (l.take 4) := by
    apply ByteArray.ext
    simp [strB, ByteArray.data_extract]
  have hy3 : ∀ h : 4 < (strB l).size, (strB l)[4] = y := fun h => by
    have h3 : 4 < l.length := by omega
    rw [List.getElem?_eq_getElem h3] at hy
    exact Option.some.inj hy
  have hy8 := UInt8.toNat_lt y
  have hl5 : (4 : Int) < (l.length : Int) := by omega
  have hl4 : (4 : Int) ≤ (l.length : Int) := by omega
  have e1 : (n : Int).tmod 2147483648 = ((n % 2147483648 : Nat) : Int) := by rw [Int.tmod_eq_emod_of_nonneg (by omega)]; omega
  have e2 : (n : Int).tdiv 2147483648 = b2i (decide (2147483648 ≤ n)) := by
    rw [Int.tdiv_eq_ediv_of_nonneg (by omega)]
    unfold b2i
    by_cases h : 2147483648 ≤ n
    · rw [if_pos (by simpa using h)]; omega
    · rw [if_neg (by simpa using h)]; omega
  have hb := b2i_bd (decide (2147483648 ≤ n))
  obtain ⟨r, hr⟩ : ∃ r, n % 2147483648 = r := ⟨_, rfl⟩
  have hr2 : r < 2147483648 := by omega
  rw [hr] at e1 ⊢
  generalize b2i (decide (2147483648 ≤ n)) = q at *
  have w1 : IntKind.i64.wrap (r : Int) = (r : Int) := IntWalk.i64_in _ (by omega)
  have w2 : IntKind.i64.wrap q = q := IntWalk.i64_in _ (by omega)
  have w3 : IntKind.i64.wrap ((y.toNat : Int) + 1) = (y.toNat : Int) + 1 := IntWalk.i64_in _ (by omega)
  have w4 : IntKind.i64.wrap (y.toNat : Int) = (y.toNat : Int) := IntWalk.i64_in _ (by omega)
  clear hn hy hr hl hm
  generalize strB (l.take 4) = T at *
  generalize strB l = S at *
  generalize l.length = m at *
  unfold dI
  go_enter Try.func18, Try.ntmps18
  go_wp2_with fail
  with_reducible refine (HW.out _).mono ?_
  rintro e w2 ⟨rfl, hw⟩
  obtain rfl : w2 = _ := hw
  go_upto_region 6 with fail
  refine wp_gen (fun W => Blk W w.heap.size 35 (dI ty st fl t en eh ak co la inc r ((y.toNat : Int) + 1) 1 q PA pn pc) ∧ Blk W (w.heap.size + 1) 35 (dI 0 0 0 ByteArray.empty 0 0 0 0 0 0 0 0 0 0 none 0 0) ∧ Fresh w W) ⟨?_, ?_, ?_⟩ ?_
  · exact (Blk.new _ _ _).alloc _
  · exact Blk.mkAt (by simp)
  · repeat (first | with_reducible exact Fresh.refl _ | with_reducible refine Fresh.allocS ?_ _ | with_reducible refine Fresh.drewS ?_ | (with_reducible refine Fresh.step2 ?_ ?_; focus (simp; try omega)))
  rintro W ⟨hb1, hb2, hf⟩
  obtain ⟨b, hb⟩ : ∃ b, w.heap.size = b := ⟨_, rfl⟩
  have HB := Lib.hid hb
  have HF := Lib.hid hf
  rw [hb] at hb1 hb2 ⊢
  unfold dI at hb1 hb2
  obtain ⟨x0, x1, x2, x3, x4, x5, x6, x7, x8, x9, x10, x11, x12, x13, x14⟩ := hb1.c15
  obtain ⟨y0, y1, y2, y3, y4, y5, y6, y7, y8, y9, y10, y11, y12, y13, y14⟩ := hb2.c15
  obtain ⟨z0, z1, z2, z3, z4, z5, z6, z7, z8, z9, z10, z11, z12, z13, z14⟩ := hb2.z15
  have HB2 := Lib.hid hb2
  clear hb1 hb2 hf hb hE hy3
  go_wp2
  refine bodyPost_ret (v := .agg #[.int .i64 ty, .int .i64 st, .string t, .int .i64 en, .int .i64 eh, .int .i64 ak, .int .i64 fl, .int .i64 co, .int .i64 la, .int .i64 inc, .int .i64 (r : Int), .int .i64 ((y.toNat : Int) + 1), .int .i64 1, .int .i64 q, .slice PA pn pc]) (by simp [results, Try.results18, go_sem, y0, y1, y2, y3, y4, y5, y6, y7, y8, y9, y10, y11, y12, y13, y14]) rfl ?_
  refine ⟨rfl, ?_⟩
  have hbb := HB.out
  have hF := HF.out
  repeat (first | with_reducible exact hF | with_reducible apply Fresh.drewS | (with_reducible refine Fresh.step2 ?_ ?_; focus (simp only []; omega)))
end Go.Proofs.Ytcdghmidpaeloaa

