/-
  The law HuffBehind.
-/
import Derived.Test.YtafibclffklieaaHufI
import Derived.Test.YtafibclffklieaaMore
namespace Go.Proofs.Ytafibclffklieaa
set_option linter.unusedVariables false
set_option linter.unusedSimpArgs false
open Go.RowKit
set_option maxRecDepth 100000 in
set_option maxHeartbeats 3200000 in
theorem HuffBehind_any (A : Option Addr) (la : List UInt8) (ca : Nat) (B : Option Addr) (lb : List UInt8) (cb : Nat) (w : World) (hac : la.length ≤ ca) (hcm : ca ≤ maxLen) (hA : BS w A la) (hbc : lb.length ≤ cb) (hcm2 : cb ≤ maxLen) (hB : BS w B lb) :
    Calls Try.prog 6 #[.slice A la.length ca, .slice B lb.length cb] w fun e w' => e = .returned (.bool true) ∧ Below w.heap.size w w' := by
  unfold maxLen at hcm hcm2
  have HW := Lib.hid hf_awake
  by_cases h1 : 300 < la.length
  · have h1' : (300 : Int) < (la.length : Int) := by omega
    have h1d : decide ((300 : Int) < (la.length : Int)) = true := by simpa using h1'
    clear hA hB
    go_enter Try.func6, Try.ntmps6
    go_wp2_with fail
    with_reducible refine (HW.out _).mono ?_
    rintro e w2 ⟨rfl, hf⟩
    have HF := Lib.hid hf
    clear hf
    go_wp2
    go_ret
    exact ⟨rfl, HF.out⟩
  have h1' : ¬ (300 : Int) < (la.length : Int) := by omega
  have h1d : decide ((300 : Int) < (la.length : Int)) = false := by simpa using h1'
  by_cases h2 : 300 < lb.length
  · have h2' : (300 : Int) < (lb.length : Int) := by omega
    have h2d : decide ((300 : Int) < (lb.length : Int)) = true := by simpa using h2'
    clear hA hB
    go_enter Try.func6, Try.ntmps6
    go_wp2_with fail
    with_reducible refine (HW.out _).mono ?_
    rintro e w2 ⟨rfl, hf⟩
    have HF := Lib.hid hf
    clear hf
    go_wp2
    go_ret
    exact ⟨rfl, HF.out⟩
  have h2' : ¬ (300 : Int) < (lb.length : Int) := by omega
  have h2d : decide ((300 : Int) < (lb.length : Int)) = false := by simpa using h2'
  have HZA := Lib.hid (hf_size A ca la w hA (by omega))
  have HZB := Lib.hid (hf_size B cb lb w hB (by omega))
  have o0 : Own (w.alloc (.cells #[] 5)) w.heap.size 5 1 (.slice (some ⟨w.heap.size, 0, none⟩) 0 0) 0 [] := Own.lit (cs := #[]) (Nat.le_refl _) (by unfold maxLen; omega) rfl
  have hsz : (w.alloc (.cells #[] 5)).heap.size = w.heap.size + 1 := by unfold World.alloc; exact Array.size_push _
  obtain ⟨v1, w1, hap1, o1, hb1, _, _⟩ := Own.more (P := Try.prog) Try.underlying27 u8_infoH 27 o0 (Fresh.alloc w (.cells #[] 5)) (Nat.le_refl _) A ca la (hA.fresh (Fresh.alloc _ _)) hac (by unfold maxLen; omega) (by omega)
  obtain ⟨v2, w2, hap2, o2, hb2, _, _⟩ := Own.more (P := Try.prog) Try.underlying27 u8_infoH 27 o1 hb1 (Nat.le_refl _) B cb lb (hB.fresh hb1) hbc (by unfold maxLen; omega) (by omega)
  have e12 : 0 + la.length + lb.length = (la ++ lb).length := by simp
  rw [List.nil_append, ← List.map_append, e12] at o2
  obtain ⟨A2, c2, rfl, _, _, _⟩ := o2.slice
  have HZC := Lib.hid (hf_size A2 c2 (la ++ lb) w2 o2.bytes.1 (by simp; omega))
  have HF2 : Hid (Fresh w w2) := Lib.hid hb2
  rw [szB_append] at HZC
  generalize (la ++ lb).length = nc at *
  obtain ⟨N, hN⟩ : ∃ N, (szB la + 7) / 8 = N := ⟨_, rfl⟩
  obtain ⟨M, hM⟩ : ∃ M, (szB lb + 7) / 8 = M := ⟨_, rfl⟩
  obtain ⟨K, hK⟩ : ∃ K, (szB la + szB lb + 7) / 8 = K := ⟨_, rfl⟩
  have z1 := szB_le la
  have z2 := szB_le lb
  rw [hN] at HZA
  rw [hM] at HZB
  rw [hK] at HZC
  have k1 : (K : Int) ≤ (N : Int) + (M : Int) := by omega
  have k2 : (N : Int) + (M : Int) - 1 ≤ (K : Int) := by omega
  have k1d : decide ((K : Int) ≤ (N : Int) + (M : Int)) = true := by simpa using k1
  have k2d : decide ((N : Int) + (M : Int) - 1 ≤ (K : Int)) = true := by simpa using k2
  have k3 : N ≤ 2000 ∧ M ≤ 2000 := by omega
  obtain ⟨k31, k32⟩ := k3
  clear hA hB hN hM hK z1 z2 o0 o1 o2 hb1 hb2 hsz e12
  generalize la.length = n at *
  generalize lb.length = m at *
  go_enter Try.func6, Try.ntmps6
  go_wp2_with first | (at_builtin; first | refine wp_app rfl _ _ _ rfl hap1 rfl rfl rfl ?_ | refine wp_app rfl _ _ _ rfl hap2 rfl rfl rfl ?_) | (go_at_call 14; (first | with_reducible refine HZA.out.mono ?_ | with_reducible refine HZB.out.mono ?_ | with_reducible refine HZC.out.mono ?_); rintro e w3 ⟨rfl, rfl⟩) | (go_at_call 9; (with_reducible refine (HW.out _).mono ?_); rintro e w6 ⟨rfl, hf6⟩)
  go_ret
  exact ⟨rfl, HF2.out.trans hf6⟩
end Go.Proofs.Ytafibclffklieaa
