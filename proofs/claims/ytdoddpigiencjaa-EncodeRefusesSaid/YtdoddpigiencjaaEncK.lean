/-
  The law EncodeRefuses.
-/
import Derived.Test.YtdoddpigiencjaaEncH
import Derived.Deep.Cut
import Derived.Deep.CutRange
namespace Go.Proofs.Ytdoddpigiencjaa
set_option maxRecDepth 100000
set_option linter.unusedVariables false
set_option linter.unusedSimpArgs false
open Go.RowKit
theorem zeros_str (n : Nat) : List.replicate n (0 : UInt8) = List.replicate n 0 := rfl
/-- A made row of zeros is read as a text of zeros, as long as it stands. -/
theorem made_str {w W : World} {n : Nat} (hf : Fresh (w.alloc (.cells (madeCells #[.int .u8 0] n) 5)) W) : (convert 29 9 (.slice (some ⟨w.heap.size, 0, none⟩) n n)).run Try.prog W = .ok (.string (strB (List.replicate n 0))) W := by
  have hb : BS (w.alloc (.cells (madeCells #[.int .u8 0] n) 5)) (some ⟨w.heap.size, 0, none⟩) (List.replicate n 0) := by
    rw [madeCells_zero]
    exact BS.row (l := List.replicate n 0) (t := 5) (Blk.new w 5 (bytesA (List.replicate n 0)))
  have := run_str (P := Try.prog) (hb.fresh hf) 29 9 5 Try.underlying29 Try.underlying5 Try.underlying9 n
  simpa using this
theorem wy_gen {F : Array Bool → Act → World → Prop} {e : Array Bool} {a : Act} {w : World} (S : World → Prop) (hS : S w) (h : ∀ w', S w' → F e a w') : F e a w := h w hS
theorem newN (W : World) (N : Nat) : Blk (W.alloc (.cells (madeCells #[.int .u8 0] N) 5)) W.heap.size 5 (bytesA (List.replicate N 0)) := by
  rw [madeCells_zero]
  exact Blk.new W _ _
set_option maxHeartbeats 6400000 in
theorem EncodeRefuses_any (n m : Int) (b : Bool) (w : World) (hn : -9223372036854775808 ≤ n ∧ n ≤ 9223372036854775807) (hm : -9223372036854775808 ≤ m ∧ m ≤ 9223372036854775807) :
    Calls Try.prog 6 #[.int .i64 n, .int .i64 m, .bool b] w fun e w' => e = .returned (.bool true) ∧ Below w.heap.size w w' := by
  have HW := Lib.hid en_awake
  by_cases h0 : n < 0
  · have h0d : decide (n < 0) = true := by simpa using h0
    go_enter Try.func6, Try.ntmps6
    go_wp2_with (go_at_call 9; with_reducible refine (HW.out _).mono ?_; rintro e w2 ⟨rfl, hf⟩)
    go_ret
    exact ⟨rfl, hf⟩
  have h0d : decide (n < 0) = false := by simpa using h0
  by_cases h5 : 5000 < n
  · have h5d : decide (5000 < n) = true := by simpa using h5
    go_enter Try.func6, Try.ntmps6
    go_wp2_with (go_at_call 9; with_reducible refine (HW.out _).mono ?_; rintro e w2 ⟨rfl, hf⟩)
    go_ret
    exact ⟨rfl, hf⟩
  have h5d : decide (5000 < n) = false := by simpa using h5
  by_cases k0 : m < 0
  · have k0d : decide (m < 0) = true := by simpa using k0
    go_enter Try.func6, Try.ntmps6
    go_wp2_with (go_at_call 9; with_reducible refine (HW.out _).mono ?_; rintro e w2 ⟨rfl, hf⟩)
    go_ret
    exact ⟨rfl, hf⟩
  have k0d : decide (m < 0) = false := by simpa using k0
  by_cases k5 : 5000 < m
  · have k5d : decide (5000 < m) = true := by simpa using k5
    go_enter Try.func6, Try.ntmps6
    go_wp2_with (go_at_call 9; with_reducible refine (HW.out _).mono ?_; rintro e w2 ⟨rfl, hf⟩)
    go_ret
    exact ⟨rfl, hf⟩
  have k5d : decide (5000 < m) = false := by simpa using k5
  obtain ⟨N, rfl⟩ : ∃ N : Nat, n = N := ⟨n.toNat, by omega⟩
  obtain ⟨M, rfl⟩ : ∃ M : Nat, m = M := ⟨m.toNat, by omega⟩
  have hN : N ≤ 5000 := by omega
  have hM : M ≤ 5000 := by omega
  have hmkN := run_makeZ (P := Try.prog) Try.underlying29 u8_infoH rfl N (N : Int) rfl (by omega) (by omega)
  have hmkM := run_makeZ (P := Try.prog) Try.underlying29 u8_infoH rfl M (M : Int) rfl (by omega) (by omega)
  go_enter Try.func6, Try.ntmps6
  go_upto_region 3 with fail
  go_cut [7] from 27 to 35 (fun x7 wx => ∃ b7, x7 = .pointer (some ⟨b7, 0, none⟩) ∧ Blk wx b7 28 #[.string (strB (List.replicate N 0)), .string (strB (List.replicate M 0)), .bool b] ∧ Fresh w wx)
  case first =>
    refine wp_region_held_drew (S := (fun w' => Fresh w w')) (by kernel_rfl) (Fresh.drew _) (fun hHeld => ?_)
    refine wpAnyH_take (i := 0) (v := ?_) rfl (by kernel_rfl) (by kernel_rfl) (by kernel_rfl) (fun _ _ _ h => h) (Or.inl ⟨by rfl, ?_⟩) (by assumption) ?_; rotate_left; focus (intro w hSw; (try dsimp only at hSw); go_simp; (try with_reducible rfl); done)
    (try simp only [Act.put, List.getElem_toArray, List.getElem_cons_zero, List.getElem_cons_succ, List.setIfInBounds_toArray, List.set_cons_zero, List.set_cons_succ])
    refine wpAnyH_take (i := 3) (v := ?_) rfl (by kernel_rfl) (by kernel_rfl) (by kernel_rfl) (fun _ _ _ h => h) (Or.inl ⟨by rfl, ?_⟩) (by assumption) ?_; rotate_left; focus (intro w hSw; (try dsimp only at hSw); go_simp; (try with_reducible rfl); done)
    (try simp only [Act.put, List.getElem_toArray, List.getElem_cons_zero, List.getElem_cons_succ, List.setIfInBounds_toArray, List.set_cons_zero, List.set_cons_succ])
    refine wpAnyH_take (i := 7) (v := ?_) rfl (by kernel_rfl) (by kernel_rfl) (by kernel_rfl) (fun _ _ _ h => h) (Or.inl ⟨by rfl, ?_⟩) (by assumption) ?_; rotate_left; focus (intro w hSw; (try dsimp only at hSw); go_simp; (try with_reducible rfl); done)
    (try simp only [Act.put, List.getElem_toArray, List.getElem_cons_zero, List.getElem_cons_succ, List.setIfInBounds_toArray, List.set_cons_zero, List.set_cons_succ])
    refine wy_gen (fun W => Fresh w W) hHeld ?_
    clear hHeld
    rintro W0 hHeld
    refine wpAnyH_ready (rs := [1, 4, 9]) (by kernel_rfl) (by simp) ?_
    refine AllReadyH.cons rfl (fun K hK => ?_) (AllReadyH.cons rfl (fun K hK => ?_) (AllReadyH.cons rfl (fun K hK => ?_) AllReadyH.nil))
    · skip
      go_simp
      refine hK.out _ _ (hHeld.allocS _) (fun hHeld => ?_)
      clear hK K
      (try simp only [Act.put, List.getElem_toArray, List.getElem_cons_zero, List.getElem_cons_succ, List.setIfInBounds_toArray, List.set_cons_zero, List.set_cons_succ])
      refine wy_gen (fun W => Fresh w W ∧ Blk W W0.heap.size 5 (bytesA (List.replicate N 0))) ⟨hHeld, newN W0 N⟩ ?_
      clear hHeld
      rintro V1 ⟨hHeld, hN⟩
      refine wpAnyH_ready (rs := [2, 4, 9]) (by kernel_rfl) (by simp) ?_
      refine AllReadyH.cons rfl (fun K hK => ?_) (AllReadyH.cons rfl (fun K hK => ?_) (AllReadyH.cons rfl (fun K hK => ?_) AllReadyH.nil))
      · skip
        have hcvN := run_str (P := Try.prog) (BS.row (l := List.replicate N 0) hN) 29 9 5 Try.underlying29 Try.underlying5 Try.underlying9 N
        rw [List.length_replicate] at hcvN
        go_simp
        refine hK.out _ _ hHeld (fun hHeld => ?_)
        clear hK K
        (try simp only [Act.put, List.getElem_toArray, List.getElem_cons_zero, List.getElem_cons_succ, List.setIfInBounds_toArray, List.set_cons_zero, List.set_cons_succ])
        refine wpAnyH_ready (rs := [4, 9]) (by kernel_rfl) (by simp) ?_
        refine AllReadyH.cons rfl (fun K hK => ?_) (AllReadyH.cons rfl (fun K hK => ?_) AllReadyH.nil)
        · skip
          go_simp
          refine hK.out _ _ (hHeld.allocS _) (fun hHeld => ?_)
          clear hK K
          (try simp only [Act.put, List.getElem_toArray, List.getElem_cons_zero, List.getElem_cons_succ, List.setIfInBounds_toArray, List.set_cons_zero, List.set_cons_succ])
          refine wy_gen (fun W => Fresh w W ∧ Blk W W0.heap.size 5 (bytesA (List.replicate N 0)) ∧ Blk W V1.heap.size 5 (bytesA (List.replicate M 0))) ⟨hHeld, hN.alloc _, newN V1 M⟩ ?_
          clear hHeld hN
          rintro V2 ⟨hHeld, hN, hM⟩
          refine wpAnyH_ready (rs := [5, 9]) (by kernel_rfl) (by simp) ?_
          refine AllReadyH.cons rfl (fun K hK => ?_) (AllReadyH.cons rfl (fun K hK => ?_) AllReadyH.nil)
          · skip
            have hcvM := run_str (P := Try.prog) (BS.row (l := List.replicate M 0) hM) 29 9 5 Try.underlying29 Try.underlying5 Try.underlying9 M
            rw [List.length_replicate] at hcvM
            go_simp
            refine hK.out _ _ hHeld (fun hHeld => ?_)
            clear hK K
            (try simp only [Act.put, List.getElem_toArray, List.getElem_cons_zero, List.getElem_cons_succ, List.setIfInBounds_toArray, List.set_cons_zero, List.set_cons_succ])
            refine wpAnyH_take (i := 6) (v := ?_) rfl (by kernel_rfl) (by kernel_rfl) (by kernel_rfl) (fun _ _ _ h => h) (Or.inl ⟨by rfl, ?_⟩) (by assumption) ?_; rotate_left; focus (intro w hSw; (try dsimp only at hSw); go_simp; (try with_reducible rfl); done)
            (try simp only [Act.put, List.getElem_toArray, List.getElem_cons_zero, List.getElem_cons_succ, List.setIfInBounds_toArray, List.set_cons_zero, List.set_cons_succ])
            refine wpAnyH_take (i := 8) (v := ?_) rfl (by kernel_rfl) (by kernel_rfl) (by kernel_rfl) (fun _ _ _ h => h) (Or.inl ⟨by rfl, ?_⟩) (by assumption) ?_; rotate_left; focus (intro w hSw; (try dsimp only at hSw); go_simp; (try with_reducible rfl); done)
            (try simp only [Act.put, List.getElem_toArray, List.getElem_cons_zero, List.getElem_cons_succ, List.setIfInBounds_toArray, List.set_cons_zero, List.set_cons_succ])
            refine wpAnyH_ready (rs := [9]) (by kernel_rfl) (by simp) ?_
            refine AllReadyH.cons rfl (fun K hK => ?_) AllReadyH.nil
            · skip
              have hGe : w.heap.size ≤ V2.heap.size := hHeld.size
              go_simp
              refine hK.out _ _ (hHeld.allocS _) (fun hHeld => ?_)
              clear hK K
              (try simp only [Act.put, List.getElem_toArray, List.getElem_cons_zero, List.getElem_cons_succ, List.setIfInBounds_toArray, List.set_cons_zero, List.set_cons_succ])
              refine wy_gen (fun W => Fresh w W ∧ Blk W W0.heap.size 5 (bytesA (List.replicate N 0)) ∧ Blk W V1.heap.size 5 (bytesA (List.replicate M 0)) ∧ Blk W V2.heap.size 28 #[.string ⟨#[]⟩, .string ⟨#[]⟩, .bool false]) ⟨hHeld, hN.alloc _, hM.alloc _, Blk.new V2 _ _⟩ ?_
              clear hHeld hN hM
              rintro V3 ⟨hHeld, hN, hM, hL⟩
              obtain ⟨l0, l1, l2⟩ := hL.c3
              have y0 := hL.frozen 0
              have y1 := hL.frozen 1
              have y2 := hL.frozen 2
              refine wpAnyH_ready (rs := [10]) (by kernel_rfl) (by simp) ?_
              refine AllReadyH.cons rfl (fun K hK => ?_) AllReadyH.nil
              go_simp
              refine hK.out _ _ (by repeat (first | with_reducible exact hHeld | (with_reducible refine Fresh.step2 ?_ ?_; focus (exact hGe)))) (fun hHeld => ?_)
              clear hK K
              (try simp only [Act.put, List.getElem_toArray, List.getElem_cons_zero, List.getElem_cons_succ, List.setIfInBounds_toArray, List.set_cons_zero, List.set_cons_succ])
              refine wy_gen (fun W => Fresh w W ∧ Blk W V2.heap.size 28 #[.string (strB (List.replicate N 0)), .string (strB (List.replicate M 0)), .bool b]) ⟨hHeld, ((hL.set 0 (.string (strB (List.replicate N 0)))).set 1 (.string (strB (List.replicate M 0)))).set 2 (.bool b)⟩ ?_
              rintro WZ ⟨hHeldZ, hZ⟩
              refine wpAnyH_done (by kernel_rfl) ?_ _
              go_wp2_with fail
              go_meet
              case rel => exact ⟨_, rfl, hZ, hHeldZ⟩
          · skip
            have hGe : w.heap.size ≤ V2.heap.size := hHeld.size
            go_simp
            refine hK.out _ _ (hHeld.allocS _) (fun hHeld => ?_)
            clear hK K
            (try simp only [Act.put, List.getElem_toArray, List.getElem_cons_zero, List.getElem_cons_succ, List.setIfInBounds_toArray, List.set_cons_zero, List.set_cons_succ])
            refine wy_gen (fun W => Fresh w W ∧ Blk W W0.heap.size 5 (bytesA (List.replicate N 0)) ∧ Blk W V1.heap.size 5 (bytesA (List.replicate M 0)) ∧ Blk W V2.heap.size 28 #[.string ⟨#[]⟩, .string ⟨#[]⟩, .bool false]) ⟨hHeld, hN.alloc _, hM.alloc _, Blk.new V2 _ _⟩ ?_
            clear hHeld hN hM
            rintro V4 ⟨hHeld, hN, hM, hL⟩
            refine wpAnyH_ready (rs := [5]) (by kernel_rfl) (by simp) ?_
            refine AllReadyH.cons rfl (fun K hK => ?_) AllReadyH.nil
            · skip
              have hcvM := run_str (P := Try.prog) (BS.row (l := List.replicate M 0) hM) 29 9 5 Try.underlying29 Try.underlying5 Try.underlying9 M
              rw [List.length_replicate] at hcvM
              go_simp
              refine hK.out _ _ hHeld (fun hHeld => ?_)
              clear hK K
              (try simp only [Act.put, List.getElem_toArray, List.getElem_cons_zero, List.getElem_cons_succ, List.setIfInBounds_toArray, List.set_cons_zero, List.set_cons_succ])
              refine wpAnyH_take (i := 6) (v := ?_) rfl (by kernel_rfl) (by kernel_rfl) (by kernel_rfl) (fun _ _ _ h => h) (Or.inl ⟨by rfl, ?_⟩) (by assumption) ?_; rotate_left; focus (intro w hSw; (try dsimp only at hSw); go_simp; (try with_reducible rfl); done)
              (try simp only [Act.put, List.getElem_toArray, List.getElem_cons_zero, List.getElem_cons_succ, List.setIfInBounds_toArray, List.set_cons_zero, List.set_cons_succ])
              refine wpAnyH_take (i := 8) (v := ?_) rfl (by kernel_rfl) (by kernel_rfl) (by kernel_rfl) (fun _ _ _ h => h) (Or.inl ⟨by rfl, ?_⟩) (by assumption) ?_; rotate_left; focus (intro w hSw; (try dsimp only at hSw); go_simp; (try with_reducible rfl); done)
              (try simp only [Act.put, List.getElem_toArray, List.getElem_cons_zero, List.getElem_cons_succ, List.setIfInBounds_toArray, List.set_cons_zero, List.set_cons_succ])
              obtain ⟨l0, l1, l2⟩ := hL.c3
              have y0 := hL.frozen 0
              have y1 := hL.frozen 1
              have y2 := hL.frozen 2
              refine wpAnyH_ready (rs := [10]) (by kernel_rfl) (by simp) ?_
              refine AllReadyH.cons rfl (fun K hK => ?_) AllReadyH.nil
              go_simp
              refine hK.out _ _ (by repeat (first | with_reducible exact hHeld | (with_reducible refine Fresh.step2 ?_ ?_; focus (exact hGe)))) (fun hHeld => ?_)
              clear hK K
              (try simp only [Act.put, List.getElem_toArray, List.getElem_cons_zero, List.getElem_cons_succ, List.setIfInBounds_toArray, List.set_cons_zero, List.set_cons_succ])
              refine wy_gen (fun W => Fresh w W ∧ Blk W V2.heap.size 28 #[.string (strB (List.replicate N 0)), .string (strB (List.replicate M 0)), .bool b]) ⟨hHeld, ((hL.set 0 (.string (strB (List.replicate N 0)))).set 1 (.string (strB (List.replicate M 0)))).set 2 (.bool b)⟩ ?_
              rintro WZ ⟨hHeldZ, hZ⟩
              refine wpAnyH_done (by kernel_rfl) ?_ _
              go_wp2_with fail
              go_meet
              case rel => exact ⟨_, rfl, hZ, hHeldZ⟩
        · skip
          have hGe : w.heap.size ≤ V1.heap.size := hHeld.size
          go_simp
          refine hK.out _ _ (hHeld.allocS _) (fun hHeld => ?_)
          clear hK K
          (try simp only [Act.put, List.getElem_toArray, List.getElem_cons_zero, List.getElem_cons_succ, List.setIfInBounds_toArray, List.set_cons_zero, List.set_cons_succ])
          refine wy_gen (fun W => Fresh w W ∧ Blk W W0.heap.size 5 (bytesA (List.replicate N 0)) ∧ Blk W V1.heap.size 28 #[.string ⟨#[]⟩, .string ⟨#[]⟩, .bool false]) ⟨hHeld, hN.alloc _, Blk.new V1 _ _⟩ ?_
          clear hHeld hN
          rintro V5 ⟨hHeld, hN, hL⟩
          refine wpAnyH_ready (rs := [4]) (by kernel_rfl) (by simp) ?_
          refine AllReadyH.cons rfl (fun K hK => ?_) AllReadyH.nil
          · skip
            go_simp
            refine hK.out _ _ (hHeld.allocS _) (fun hHeld => ?_)
            clear hK K
            (try simp only [Act.put, List.getElem_toArray, List.getElem_cons_zero, List.getElem_cons_succ, List.setIfInBounds_toArray, List.set_cons_zero, List.set_cons_succ])
            refine wy_gen (fun W => Fresh w W ∧ Blk W W0.heap.size 5 (bytesA (List.replicate N 0)) ∧ Blk W V1.heap.size 28 #[.string ⟨#[]⟩, .string ⟨#[]⟩, .bool false] ∧ Blk W V5.heap.size 5 (bytesA (List.replicate M 0))) ⟨hHeld, hN.alloc _, hL.alloc _, newN V5 M⟩ ?_
            clear hHeld hN hL
            rintro V6 ⟨hHeld, hN, hL, hM⟩
            refine wpAnyH_ready (rs := [5]) (by kernel_rfl) (by simp) ?_
            refine AllReadyH.cons rfl (fun K hK => ?_) AllReadyH.nil
            · skip
              have hcvM := run_str (P := Try.prog) (BS.row (l := List.replicate M 0) hM) 29 9 5 Try.underlying29 Try.underlying5 Try.underlying9 M
              rw [List.length_replicate] at hcvM
              go_simp
              refine hK.out _ _ hHeld (fun hHeld => ?_)
              clear hK K
              (try simp only [Act.put, List.getElem_toArray, List.getElem_cons_zero, List.getElem_cons_succ, List.setIfInBounds_toArray, List.set_cons_zero, List.set_cons_succ])
              refine wpAnyH_take (i := 6) (v := ?_) rfl (by kernel_rfl) (by kernel_rfl) (by kernel_rfl) (fun _ _ _ h => h) (Or.inl ⟨by rfl, ?_⟩) (by assumption) ?_; rotate_left; focus (intro w hSw; (try dsimp only at hSw); go_simp; (try with_reducible rfl); done)
              (try simp only [Act.put, List.getElem_toArray, List.getElem_cons_zero, List.getElem_cons_succ, List.setIfInBounds_toArray, List.set_cons_zero, List.set_cons_succ])
              refine wpAnyH_take (i := 8) (v := ?_) rfl (by kernel_rfl) (by kernel_rfl) (by kernel_rfl) (fun _ _ _ h => h) (Or.inl ⟨by rfl, ?_⟩) (by assumption) ?_; rotate_left; focus (intro w hSw; (try dsimp only at hSw); go_simp; (try with_reducible rfl); done)
              (try simp only [Act.put, List.getElem_toArray, List.getElem_cons_zero, List.getElem_cons_succ, List.setIfInBounds_toArray, List.set_cons_zero, List.set_cons_succ])
              obtain ⟨l0, l1, l2⟩ := hL.c3
              have y0 := hL.frozen 0
              have y1 := hL.frozen 1
              have y2 := hL.frozen 2
              refine wpAnyH_ready (rs := [10]) (by kernel_rfl) (by simp) ?_
              refine AllReadyH.cons rfl (fun K hK => ?_) AllReadyH.nil
              go_simp
              refine hK.out _ _ (by repeat (first | with_reducible exact hHeld | (with_reducible refine Fresh.step2 ?_ ?_; focus (exact hGe)))) (fun hHeld => ?_)
              clear hK K
              (try simp only [Act.put, List.getElem_toArray, List.getElem_cons_zero, List.getElem_cons_succ, List.setIfInBounds_toArray, List.set_cons_zero, List.set_cons_succ])
              refine wy_gen (fun W => Fresh w W ∧ Blk W V1.heap.size 28 #[.string (strB (List.replicate N 0)), .string (strB (List.replicate M 0)), .bool b]) ⟨hHeld, ((hL.set 0 (.string (strB (List.replicate N 0)))).set 1 (.string (strB (List.replicate M 0)))).set 2 (.bool b)⟩ ?_
              rintro WZ ⟨hHeldZ, hZ⟩
              refine wpAnyH_done (by kernel_rfl) ?_ _
              go_wp2_with fail
              go_meet
              case rel => exact ⟨_, rfl, hZ, hHeldZ⟩
      · skip
        go_simp
        refine hK.out _ _ (hHeld.allocS _) (fun hHeld => ?_)
        clear hK K
        (try simp only [Act.put, List.getElem_toArray, List.getElem_cons_zero, List.getElem_cons_succ, List.setIfInBounds_toArray, List.set_cons_zero, List.set_cons_succ])
        refine wy_gen (fun W => Fresh w W ∧ Blk W W0.heap.size 5 (bytesA (List.replicate N 0)) ∧ Blk W V1.heap.size 5 (bytesA (List.replicate M 0))) ⟨hHeld, hN.alloc _, newN V1 M⟩ ?_
        clear hHeld hN
        rintro V7 ⟨hHeld, hN, hM⟩
        refine wpAnyH_ready (rs := [2, 5, 9]) (by kernel_rfl) (by simp) ?_
        refine AllReadyH.cons rfl (fun K hK => ?_) (AllReadyH.cons rfl (fun K hK => ?_) (AllReadyH.cons rfl (fun K hK => ?_) AllReadyH.nil))
        · skip
          have hcvN := run_str (P := Try.prog) (BS.row (l := List.replicate N 0) hN) 29 9 5 Try.underlying29 Try.underlying5 Try.underlying9 N
          rw [List.length_replicate] at hcvN
          go_simp
          refine hK.out _ _ hHeld (fun hHeld => ?_)
          clear hK K
          (try simp only [Act.put, List.getElem_toArray, List.getElem_cons_zero, List.getElem_cons_succ, List.setIfInBounds_toArray, List.set_cons_zero, List.set_cons_succ])
          refine wpAnyH_ready (rs := [5, 9]) (by kernel_rfl) (by simp) ?_
          refine AllReadyH.cons rfl (fun K hK => ?_) (AllReadyH.cons rfl (fun K hK => ?_) AllReadyH.nil)
          · skip
            have hcvM := run_str (P := Try.prog) (BS.row (l := List.replicate M 0) hM) 29 9 5 Try.underlying29 Try.underlying5 Try.underlying9 M
            rw [List.length_replicate] at hcvM
            go_simp
            refine hK.out _ _ hHeld (fun hHeld => ?_)
            clear hK K
            (try simp only [Act.put, List.getElem_toArray, List.getElem_cons_zero, List.getElem_cons_succ, List.setIfInBounds_toArray, List.set_cons_zero, List.set_cons_succ])
            refine wpAnyH_take (i := 6) (v := ?_) rfl (by kernel_rfl) (by kernel_rfl) (by kernel_rfl) (fun _ _ _ h => h) (Or.inl ⟨by rfl, ?_⟩) (by assumption) ?_; rotate_left; focus (intro w hSw; (try dsimp only at hSw); go_simp; (try with_reducible rfl); done)
            (try simp only [Act.put, List.getElem_toArray, List.getElem_cons_zero, List.getElem_cons_succ, List.setIfInBounds_toArray, List.set_cons_zero, List.set_cons_succ])
            refine wpAnyH_take (i := 8) (v := ?_) rfl (by kernel_rfl) (by kernel_rfl) (by kernel_rfl) (fun _ _ _ h => h) (Or.inl ⟨by rfl, ?_⟩) (by assumption) ?_; rotate_left; focus (intro w hSw; (try dsimp only at hSw); go_simp; (try with_reducible rfl); done)
            (try simp only [Act.put, List.getElem_toArray, List.getElem_cons_zero, List.getElem_cons_succ, List.setIfInBounds_toArray, List.set_cons_zero, List.set_cons_succ])
            refine wpAnyH_ready (rs := [9]) (by kernel_rfl) (by simp) ?_
            refine AllReadyH.cons rfl (fun K hK => ?_) AllReadyH.nil
            · skip
              have hGe : w.heap.size ≤ V7.heap.size := hHeld.size
              go_simp
              refine hK.out _ _ (hHeld.allocS _) (fun hHeld => ?_)
              clear hK K
              (try simp only [Act.put, List.getElem_toArray, List.getElem_cons_zero, List.getElem_cons_succ, List.setIfInBounds_toArray, List.set_cons_zero, List.set_cons_succ])
              refine wy_gen (fun W => Fresh w W ∧ Blk W W0.heap.size 5 (bytesA (List.replicate N 0)) ∧ Blk W V1.heap.size 5 (bytesA (List.replicate M 0)) ∧ Blk W V7.heap.size 28 #[.string ⟨#[]⟩, .string ⟨#[]⟩, .bool false]) ⟨hHeld, hN.alloc _, hM.alloc _, Blk.new V7 _ _⟩ ?_
              clear hHeld hN hM
              rintro V8 ⟨hHeld, hN, hM, hL⟩
              obtain ⟨l0, l1, l2⟩ := hL.c3
              have y0 := hL.frozen 0
              have y1 := hL.frozen 1
              have y2 := hL.frozen 2
              refine wpAnyH_ready (rs := [10]) (by kernel_rfl) (by simp) ?_
              refine AllReadyH.cons rfl (fun K hK => ?_) AllReadyH.nil
              go_simp
              refine hK.out _ _ (by repeat (first | with_reducible exact hHeld | (with_reducible refine Fresh.step2 ?_ ?_; focus (exact hGe)))) (fun hHeld => ?_)
              clear hK K
              (try simp only [Act.put, List.getElem_toArray, List.getElem_cons_zero, List.getElem_cons_succ, List.setIfInBounds_toArray, List.set_cons_zero, List.set_cons_succ])
              refine wy_gen (fun W => Fresh w W ∧ Blk W V7.heap.size 28 #[.string (strB (List.replicate N 0)), .string (strB (List.replicate M 0)), .bool b]) ⟨hHeld, ((hL.set 0 (.string (strB (List.replicate N 0)))).set 1 (.string (strB (List.replicate M 0)))).set 2 (.bool b)⟩ ?_
              rintro WZ ⟨hHeldZ, hZ⟩
              refine wpAnyH_done (by kernel_rfl) ?_ _
              go_wp2_with fail
              go_meet
              case rel => exact ⟨_, rfl, hZ, hHeldZ⟩
          · skip
            have hGe : w.heap.size ≤ V7.heap.size := hHeld.size
            go_simp
            refine hK.out _ _ (hHeld.allocS _) (fun hHeld => ?_)
            clear hK K
            (try simp only [Act.put, List.getElem_toArray, List.getElem_cons_zero, List.getElem_cons_succ, List.setIfInBounds_toArray, List.set_cons_zero, List.set_cons_succ])
            refine wy_gen (fun W => Fresh w W ∧ Blk W W0.heap.size 5 (bytesA (List.replicate N 0)) ∧ Blk W V1.heap.size 5 (bytesA (List.replicate M 0)) ∧ Blk W V7.heap.size 28 #[.string ⟨#[]⟩, .string ⟨#[]⟩, .bool false]) ⟨hHeld, hN.alloc _, hM.alloc _, Blk.new V7 _ _⟩ ?_
            clear hHeld hN hM
            rintro V9 ⟨hHeld, hN, hM, hL⟩
            refine wpAnyH_ready (rs := [5]) (by kernel_rfl) (by simp) ?_
            refine AllReadyH.cons rfl (fun K hK => ?_) AllReadyH.nil
            · skip
              have hcvM := run_str (P := Try.prog) (BS.row (l := List.replicate M 0) hM) 29 9 5 Try.underlying29 Try.underlying5 Try.underlying9 M
              rw [List.length_replicate] at hcvM
              go_simp
              refine hK.out _ _ hHeld (fun hHeld => ?_)
              clear hK K
              (try simp only [Act.put, List.getElem_toArray, List.getElem_cons_zero, List.getElem_cons_succ, List.setIfInBounds_toArray, List.set_cons_zero, List.set_cons_succ])
              refine wpAnyH_take (i := 6) (v := ?_) rfl (by kernel_rfl) (by kernel_rfl) (by kernel_rfl) (fun _ _ _ h => h) (Or.inl ⟨by rfl, ?_⟩) (by assumption) ?_; rotate_left; focus (intro w hSw; (try dsimp only at hSw); go_simp; (try with_reducible rfl); done)
              (try simp only [Act.put, List.getElem_toArray, List.getElem_cons_zero, List.getElem_cons_succ, List.setIfInBounds_toArray, List.set_cons_zero, List.set_cons_succ])
              refine wpAnyH_take (i := 8) (v := ?_) rfl (by kernel_rfl) (by kernel_rfl) (by kernel_rfl) (fun _ _ _ h => h) (Or.inl ⟨by rfl, ?_⟩) (by assumption) ?_; rotate_left; focus (intro w hSw; (try dsimp only at hSw); go_simp; (try with_reducible rfl); done)
              (try simp only [Act.put, List.getElem_toArray, List.getElem_cons_zero, List.getElem_cons_succ, List.setIfInBounds_toArray, List.set_cons_zero, List.set_cons_succ])
              obtain ⟨l0, l1, l2⟩ := hL.c3
              have y0 := hL.frozen 0
              have y1 := hL.frozen 1
              have y2 := hL.frozen 2
              refine wpAnyH_ready (rs := [10]) (by kernel_rfl) (by simp) ?_
              refine AllReadyH.cons rfl (fun K hK => ?_) AllReadyH.nil
              go_simp
              refine hK.out _ _ (by repeat (first | with_reducible exact hHeld | (with_reducible refine Fresh.step2 ?_ ?_; focus (exact hGe)))) (fun hHeld => ?_)
              clear hK K
              (try simp only [Act.put, List.getElem_toArray, List.getElem_cons_zero, List.getElem_cons_succ, List.setIfInBounds_toArray, List.set_cons_zero, List.set_cons_succ])
              refine wy_gen (fun W => Fresh w W ∧ Blk W V7.heap.size 28 #[.string (strB (List.replicate N 0)), .string (strB (List.replicate M 0)), .bool b]) ⟨hHeld, ((hL.set 0 (.string (strB (List.replicate N 0)))).set 1 (.string (strB (List.replicate M 0)))).set 2 (.bool b)⟩ ?_
              rintro WZ ⟨hHeldZ, hZ⟩
              refine wpAnyH_done (by kernel_rfl) ?_ _
              go_wp2_with fail
              go_meet
              case rel => exact ⟨_, rfl, hZ, hHeldZ⟩
        · skip
          have hcvM := run_str (P := Try.prog) (BS.row (l := List.replicate M 0) hM) 29 9 5 Try.underlying29 Try.underlying5 Try.underlying9 M
          rw [List.length_replicate] at hcvM
          go_simp
          refine hK.out _ _ hHeld (fun hHeld => ?_)
          clear hK K
          (try simp only [Act.put, List.getElem_toArray, List.getElem_cons_zero, List.getElem_cons_succ, List.setIfInBounds_toArray, List.set_cons_zero, List.set_cons_succ])
          refine wpAnyH_ready (rs := [2, 9]) (by kernel_rfl) (by simp) ?_
          refine AllReadyH.cons rfl (fun K hK => ?_) (AllReadyH.cons rfl (fun K hK => ?_) AllReadyH.nil)
          · skip
            have hcvN := run_str (P := Try.prog) (BS.row (l := List.replicate N 0) hN) 29 9 5 Try.underlying29 Try.underlying5 Try.underlying9 N
            rw [List.length_replicate] at hcvN
            go_simp
            refine hK.out _ _ hHeld (fun hHeld => ?_)
            clear hK K
            (try simp only [Act.put, List.getElem_toArray, List.getElem_cons_zero, List.getElem_cons_succ, List.setIfInBounds_toArray, List.set_cons_zero, List.set_cons_succ])
            refine wpAnyH_take (i := 6) (v := ?_) rfl (by kernel_rfl) (by kernel_rfl) (by kernel_rfl) (fun _ _ _ h => h) (Or.inl ⟨by rfl, ?_⟩) (by assumption) ?_; rotate_left; focus (intro w hSw; (try dsimp only at hSw); go_simp; (try with_reducible rfl); done)
            (try simp only [Act.put, List.getElem_toArray, List.getElem_cons_zero, List.getElem_cons_succ, List.setIfInBounds_toArray, List.set_cons_zero, List.set_cons_succ])
            refine wpAnyH_take (i := 8) (v := ?_) rfl (by kernel_rfl) (by kernel_rfl) (by kernel_rfl) (fun _ _ _ h => h) (Or.inl ⟨by rfl, ?_⟩) (by assumption) ?_; rotate_left; focus (intro w hSw; (try dsimp only at hSw); go_simp; (try with_reducible rfl); done)
            (try simp only [Act.put, List.getElem_toArray, List.getElem_cons_zero, List.getElem_cons_succ, List.setIfInBounds_toArray, List.set_cons_zero, List.set_cons_succ])
            refine wpAnyH_ready (rs := [9]) (by kernel_rfl) (by simp) ?_
            refine AllReadyH.cons rfl (fun K hK => ?_) AllReadyH.nil
            · skip
              have hGe : w.heap.size ≤ V7.heap.size := hHeld.size
              go_simp
              refine hK.out _ _ (hHeld.allocS _) (fun hHeld => ?_)
              clear hK K
              (try simp only [Act.put, List.getElem_toArray, List.getElem_cons_zero, List.getElem_cons_succ, List.setIfInBounds_toArray, List.set_cons_zero, List.set_cons_succ])
              refine wy_gen (fun W => Fresh w W ∧ Blk W W0.heap.size 5 (bytesA (List.replicate N 0)) ∧ Blk W V1.heap.size 5 (bytesA (List.replicate M 0)) ∧ Blk W V7.heap.size 28 #[.string ⟨#[]⟩, .string ⟨#[]⟩, .bool false]) ⟨hHeld, hN.alloc _, hM.alloc _, Blk.new V7 _ _⟩ ?_
              clear hHeld hN hM
              rintro V10 ⟨hHeld, hN, hM, hL⟩
              obtain ⟨l0, l1, l2⟩ := hL.c3
              have y0 := hL.frozen 0
              have y1 := hL.frozen 1
              have y2 := hL.frozen 2
              refine wpAnyH_ready (rs := [10]) (by kernel_rfl) (by simp) ?_
              refine AllReadyH.cons rfl (fun K hK => ?_) AllReadyH.nil
              go_simp
              refine hK.out _ _ (by repeat (first | with_reducible exact hHeld | (with_reducible refine Fresh.step2 ?_ ?_; focus (exact hGe)))) (fun hHeld => ?_)
              clear hK K
              (try simp only [Act.put, List.getElem_toArray, List.getElem_cons_zero, List.getElem_cons_succ, List.setIfInBounds_toArray, List.set_cons_zero, List.set_cons_succ])
              refine wy_gen (fun W => Fresh w W ∧ Blk W V7.heap.size 28 #[.string (strB (List.replicate N 0)), .string (strB (List.replicate M 0)), .bool b]) ⟨hHeld, ((hL.set 0 (.string (strB (List.replicate N 0)))).set 1 (.string (strB (List.replicate M 0)))).set 2 (.bool b)⟩ ?_
              rintro WZ ⟨hHeldZ, hZ⟩
              refine wpAnyH_done (by kernel_rfl) ?_ _
              go_wp2_with fail
              go_meet
              case rel => exact ⟨_, rfl, hZ, hHeldZ⟩
          · skip
            have hGe : w.heap.size ≤ V7.heap.size := hHeld.size
            go_simp
            refine hK.out _ _ (hHeld.allocS _) (fun hHeld => ?_)
            clear hK K
            (try simp only [Act.put, List.getElem_toArray, List.getElem_cons_zero, List.getElem_cons_succ, List.setIfInBounds_toArray, List.set_cons_zero, List.set_cons_succ])
            refine wy_gen (fun W => Fresh w W ∧ Blk W W0.heap.size 5 (bytesA (List.replicate N 0)) ∧ Blk W V1.heap.size 5 (bytesA (List.replicate M 0)) ∧ Blk W V7.heap.size 28 #[.string ⟨#[]⟩, .string ⟨#[]⟩, .bool false]) ⟨hHeld, hN.alloc _, hM.alloc _, Blk.new V7 _ _⟩ ?_
            clear hHeld hN hM
            rintro V11 ⟨hHeld, hN, hM, hL⟩
            refine wpAnyH_ready (rs := [2]) (by kernel_rfl) (by simp) ?_
            refine AllReadyH.cons rfl (fun K hK => ?_) AllReadyH.nil
            · skip
              have hcvN := run_str (P := Try.prog) (BS.row (l := List.replicate N 0) hN) 29 9 5 Try.underlying29 Try.underlying5 Try.underlying9 N
              rw [List.length_replicate] at hcvN
              go_simp
              refine hK.out _ _ hHeld (fun hHeld => ?_)
              clear hK K
              (try simp only [Act.put, List.getElem_toArray, List.getElem_cons_zero, List.getElem_cons_succ, List.setIfInBounds_toArray, List.set_cons_zero, List.set_cons_succ])
              refine wpAnyH_take (i := 6) (v := ?_) rfl (by kernel_rfl) (by kernel_rfl) (by kernel_rfl) (fun _ _ _ h => h) (Or.inl ⟨by rfl, ?_⟩) (by assumption) ?_; rotate_left; focus (intro w hSw; (try dsimp only at hSw); go_simp; (try with_reducible rfl); done)
              (try simp only [Act.put, List.getElem_toArray, List.getElem_cons_zero, List.getElem_cons_succ, List.setIfInBounds_toArray, List.set_cons_zero, List.set_cons_succ])
              refine wpAnyH_take (i := 8) (v := ?_) rfl (by kernel_rfl) (by kernel_rfl) (by kernel_rfl) (fun _ _ _ h => h) (Or.inl ⟨by rfl, ?_⟩) (by assumption) ?_; rotate_left; focus (intro w hSw; (try dsimp only at hSw); go_simp; (try with_reducible rfl); done)
              (try simp only [Act.put, List.getElem_toArray, List.getElem_cons_zero, List.getElem_cons_succ, List.setIfInBounds_toArray, List.set_cons_zero, List.set_cons_succ])
              obtain ⟨l0, l1, l2⟩ := hL.c3
              have y0 := hL.frozen 0
              have y1 := hL.frozen 1
              have y2 := hL.frozen 2
              refine wpAnyH_ready (rs := [10]) (by kernel_rfl) (by simp) ?_
              refine AllReadyH.cons rfl (fun K hK => ?_) AllReadyH.nil
              go_simp
              refine hK.out _ _ (by repeat (first | with_reducible exact hHeld | (with_reducible refine Fresh.step2 ?_ ?_; focus (exact hGe)))) (fun hHeld => ?_)
              clear hK K
              (try simp only [Act.put, List.getElem_toArray, List.getElem_cons_zero, List.getElem_cons_succ, List.setIfInBounds_toArray, List.set_cons_zero, List.set_cons_succ])
              refine wy_gen (fun W => Fresh w W ∧ Blk W V7.heap.size 28 #[.string (strB (List.replicate N 0)), .string (strB (List.replicate M 0)), .bool b]) ⟨hHeld, ((hL.set 0 (.string (strB (List.replicate N 0)))).set 1 (.string (strB (List.replicate M 0)))).set 2 (.bool b)⟩ ?_
              rintro WZ ⟨hHeldZ, hZ⟩
              refine wpAnyH_done (by kernel_rfl) ?_ _
              go_wp2_with fail
              go_meet
              case rel => exact ⟨_, rfl, hZ, hHeldZ⟩
        · skip
          have hGe : w.heap.size ≤ V7.heap.size := hHeld.size
          go_simp
          refine hK.out _ _ (hHeld.allocS _) (fun hHeld => ?_)
          clear hK K
          (try simp only [Act.put, List.getElem_toArray, List.getElem_cons_zero, List.getElem_cons_succ, List.setIfInBounds_toArray, List.set_cons_zero, List.set_cons_succ])
          refine wy_gen (fun W => Fresh w W ∧ Blk W W0.heap.size 5 (bytesA (List.replicate N 0)) ∧ Blk W V1.heap.size 5 (bytesA (List.replicate M 0)) ∧ Blk W V7.heap.size 28 #[.string ⟨#[]⟩, .string ⟨#[]⟩, .bool false]) ⟨hHeld, hN.alloc _, hM.alloc _, Blk.new V7 _ _⟩ ?_
          clear hHeld hN hM
          rintro V12 ⟨hHeld, hN, hM, hL⟩
          refine wpAnyH_ready (rs := [2, 5]) (by kernel_rfl) (by simp) ?_
          refine AllReadyH.cons rfl (fun K hK => ?_) (AllReadyH.cons rfl (fun K hK => ?_) AllReadyH.nil)
          · skip
            have hcvN := run_str (P := Try.prog) (BS.row (l := List.replicate N 0) hN) 29 9 5 Try.underlying29 Try.underlying5 Try.underlying9 N
            rw [List.length_replicate] at hcvN
            go_simp
            refine hK.out _ _ hHeld (fun hHeld => ?_)
            clear hK K
            (try simp only [Act.put, List.getElem_toArray, List.getElem_cons_zero, List.getElem_cons_succ, List.setIfInBounds_toArray, List.set_cons_zero, List.set_cons_succ])
            refine wpAnyH_ready (rs := [5]) (by kernel_rfl) (by simp) ?_
            refine AllReadyH.cons rfl (fun K hK => ?_) AllReadyH.nil
            · skip
              have hcvM := run_str (P := Try.prog) (BS.row (l := List.replicate M 0) hM) 29 9 5 Try.underlying29 Try.underlying5 Try.underlying9 M
              rw [List.length_replicate] at hcvM
              go_simp
              refine hK.out _ _ hHeld (fun hHeld => ?_)
              clear hK K
              (try simp only [Act.put, List.getElem_toArray, List.getElem_cons_zero, List.getElem_cons_succ, List.setIfInBounds_toArray, List.set_cons_zero, List.set_cons_succ])
              refine wpAnyH_take (i := 6) (v := ?_) rfl (by kernel_rfl) (by kernel_rfl) (by kernel_rfl) (fun _ _ _ h => h) (Or.inl ⟨by rfl, ?_⟩) (by assumption) ?_; rotate_left; focus (intro w hSw; (try dsimp only at hSw); go_simp; (try with_reducible rfl); done)
              (try simp only [Act.put, List.getElem_toArray, List.getElem_cons_zero, List.getElem_cons_succ, List.setIfInBounds_toArray, List.set_cons_zero, List.set_cons_succ])
              refine wpAnyH_take (i := 8) (v := ?_) rfl (by kernel_rfl) (by kernel_rfl) (by kernel_rfl) (fun _ _ _ h => h) (Or.inl ⟨by rfl, ?_⟩) (by assumption) ?_; rotate_left; focus (intro w hSw; (try dsimp only at hSw); go_simp; (try with_reducible rfl); done)
              (try simp only [Act.put, List.getElem_toArray, List.getElem_cons_zero, List.getElem_cons_succ, List.setIfInBounds_toArray, List.set_cons_zero, List.set_cons_succ])
              obtain ⟨l0, l1, l2⟩ := hL.c3
              have y0 := hL.frozen 0
              have y1 := hL.frozen 1
              have y2 := hL.frozen 2
              refine wpAnyH_ready (rs := [10]) (by kernel_rfl) (by simp) ?_
              refine AllReadyH.cons rfl (fun K hK => ?_) AllReadyH.nil
              go_simp
              refine hK.out _ _ (by repeat (first | with_reducible exact hHeld | (with_reducible refine Fresh.step2 ?_ ?_; focus (exact hGe)))) (fun hHeld => ?_)
              clear hK K
              (try simp only [Act.put, List.getElem_toArray, List.getElem_cons_zero, List.getElem_cons_succ, List.setIfInBounds_toArray, List.set_cons_zero, List.set_cons_succ])
              refine wy_gen (fun W => Fresh w W ∧ Blk W V7.heap.size 28 #[.string (strB (List.replicate N 0)), .string (strB (List.replicate M 0)), .bool b]) ⟨hHeld, ((hL.set 0 (.string (strB (List.replicate N 0)))).set 1 (.string (strB (List.replicate M 0)))).set 2 (.bool b)⟩ ?_
              rintro WZ ⟨hHeldZ, hZ⟩
              refine wpAnyH_done (by kernel_rfl) ?_ _
              go_wp2_with fail
              go_meet
              case rel => exact ⟨_, rfl, hZ, hHeldZ⟩
          · skip
            have hcvM := run_str (P := Try.prog) (BS.row (l := List.replicate M 0) hM) 29 9 5 Try.underlying29 Try.underlying5 Try.underlying9 M
            rw [List.length_replicate] at hcvM
            go_simp
            refine hK.out _ _ hHeld (fun hHeld => ?_)
            clear hK K
            (try simp only [Act.put, List.getElem_toArray, List.getElem_cons_zero, List.getElem_cons_succ, List.setIfInBounds_toArray, List.set_cons_zero, List.set_cons_succ])
            refine wpAnyH_ready (rs := [2]) (by kernel_rfl) (by simp) ?_
            refine AllReadyH.cons rfl (fun K hK => ?_) AllReadyH.nil
            · skip
              have hcvN := run_str (P := Try.prog) (BS.row (l := List.replicate N 0) hN) 29 9 5 Try.underlying29 Try.underlying5 Try.underlying9 N
              rw [List.length_replicate] at hcvN
              go_simp
              refine hK.out _ _ hHeld (fun hHeld => ?_)
              clear hK K
              (try simp only [Act.put, List.getElem_toArray, List.getElem_cons_zero, List.getElem_cons_succ, List.setIfInBounds_toArray, List.set_cons_zero, List.set_cons_succ])
              refine wpAnyH_take (i := 6) (v := ?_) rfl (by kernel_rfl) (by kernel_rfl) (by kernel_rfl) (fun _ _ _ h => h) (Or.inl ⟨by rfl, ?_⟩) (by assumption) ?_; rotate_left; focus (intro w hSw; (try dsimp only at hSw); go_simp; (try with_reducible rfl); done)
              (try simp only [Act.put, List.getElem_toArray, List.getElem_cons_zero, List.getElem_cons_succ, List.setIfInBounds_toArray, List.set_cons_zero, List.set_cons_succ])
              refine wpAnyH_take (i := 8) (v := ?_) rfl (by kernel_rfl) (by kernel_rfl) (by kernel_rfl) (fun _ _ _ h => h) (Or.inl ⟨by rfl, ?_⟩) (by assumption) ?_; rotate_left; focus (intro w hSw; (try dsimp only at hSw); go_simp; (try with_reducible rfl); done)
              (try simp only [Act.put, List.getElem_toArray, List.getElem_cons_zero, List.getElem_cons_succ, List.setIfInBounds_toArray, List.set_cons_zero, List.set_cons_succ])
              obtain ⟨l0, l1, l2⟩ := hL.c3
              have y0 := hL.frozen 0
              have y1 := hL.frozen 1
              have y2 := hL.frozen 2
              refine wpAnyH_ready (rs := [10]) (by kernel_rfl) (by simp) ?_
              refine AllReadyH.cons rfl (fun K hK => ?_) AllReadyH.nil
              go_simp
              refine hK.out _ _ (by repeat (first | with_reducible exact hHeld | (with_reducible refine Fresh.step2 ?_ ?_; focus (exact hGe)))) (fun hHeld => ?_)
              clear hK K
              (try simp only [Act.put, List.getElem_toArray, List.getElem_cons_zero, List.getElem_cons_succ, List.setIfInBounds_toArray, List.set_cons_zero, List.set_cons_succ])
              refine wy_gen (fun W => Fresh w W ∧ Blk W V7.heap.size 28 #[.string (strB (List.replicate N 0)), .string (strB (List.replicate M 0)), .bool b]) ⟨hHeld, ((hL.set 0 (.string (strB (List.replicate N 0)))).set 1 (.string (strB (List.replicate M 0)))).set 2 (.bool b)⟩ ?_
              rintro WZ ⟨hHeldZ, hZ⟩
              refine wpAnyH_done (by kernel_rfl) ?_ _
              go_wp2_with fail
              go_meet
              case rel => exact ⟨_, rfl, hZ, hHeldZ⟩
      · skip
        have hGe : w.heap.size ≤ V1.heap.size := hHeld.size
        go_simp
        refine hK.out _ _ (hHeld.allocS _) (fun hHeld => ?_)
        clear hK K
        (try simp only [Act.put, List.getElem_toArray, List.getElem_cons_zero, List.getElem_cons_succ, List.setIfInBounds_toArray, List.set_cons_zero, List.set_cons_succ])
        refine wy_gen (fun W => Fresh w W ∧ Blk W W0.heap.size 5 (bytesA (List.replicate N 0)) ∧ Blk W V1.heap.size 28 #[.string ⟨#[]⟩, .string ⟨#[]⟩, .bool false]) ⟨hHeld, hN.alloc _, Blk.new V1 _ _⟩ ?_
        clear hHeld hN
        rintro V13 ⟨hHeld, hN, hL⟩
        refine wpAnyH_ready (rs := [2, 4]) (by kernel_rfl) (by simp) ?_
        refine AllReadyH.cons rfl (fun K hK => ?_) (AllReadyH.cons rfl (fun K hK => ?_) AllReadyH.nil)
        · skip
          have hcvN := run_str (P := Try.prog) (BS.row (l := List.replicate N 0) hN) 29 9 5 Try.underlying29 Try.underlying5 Try.underlying9 N
          rw [List.length_replicate] at hcvN
          go_simp
          refine hK.out _ _ hHeld (fun hHeld => ?_)
          clear hK K
          (try simp only [Act.put, List.getElem_toArray, List.getElem_cons_zero, List.getElem_cons_succ, List.setIfInBounds_toArray, List.set_cons_zero, List.set_cons_succ])
          refine wpAnyH_ready (rs := [4]) (by kernel_rfl) (by simp) ?_
          refine AllReadyH.cons rfl (fun K hK => ?_) AllReadyH.nil
          · skip
            go_simp
            refine hK.out _ _ (hHeld.allocS _) (fun hHeld => ?_)
            clear hK K
            (try simp only [Act.put, List.getElem_toArray, List.getElem_cons_zero, List.getElem_cons_succ, List.setIfInBounds_toArray, List.set_cons_zero, List.set_cons_succ])
            refine wy_gen (fun W => Fresh w W ∧ Blk W W0.heap.size 5 (bytesA (List.replicate N 0)) ∧ Blk W V1.heap.size 28 #[.string ⟨#[]⟩, .string ⟨#[]⟩, .bool false] ∧ Blk W V13.heap.size 5 (bytesA (List.replicate M 0))) ⟨hHeld, hN.alloc _, hL.alloc _, newN V13 M⟩ ?_
            clear hHeld hN hL
            rintro V14 ⟨hHeld, hN, hL, hM⟩
            refine wpAnyH_ready (rs := [5]) (by kernel_rfl) (by simp) ?_
            refine AllReadyH.cons rfl (fun K hK => ?_) AllReadyH.nil
            · skip
              have hcvM := run_str (P := Try.prog) (BS.row (l := List.replicate M 0) hM) 29 9 5 Try.underlying29 Try.underlying5 Try.underlying9 M
              rw [List.length_replicate] at hcvM
              go_simp
              refine hK.out _ _ hHeld (fun hHeld => ?_)
              clear hK K
              (try simp only [Act.put, List.getElem_toArray, List.getElem_cons_zero, List.getElem_cons_succ, List.setIfInBounds_toArray, List.set_cons_zero, List.set_cons_succ])
              refine wpAnyH_take (i := 6) (v := ?_) rfl (by kernel_rfl) (by kernel_rfl) (by kernel_rfl) (fun _ _ _ h => h) (Or.inl ⟨by rfl, ?_⟩) (by assumption) ?_; rotate_left; focus (intro w hSw; (try dsimp only at hSw); go_simp; (try with_reducible rfl); done)
              (try simp only [Act.put, List.getElem_toArray, List.getElem_cons_zero, List.getElem_cons_succ, List.setIfInBounds_toArray, List.set_cons_zero, List.set_cons_succ])
              refine wpAnyH_take (i := 8) (v := ?_) rfl (by kernel_rfl) (by kernel_rfl) (by kernel_rfl) (fun _ _ _ h => h) (Or.inl ⟨by rfl, ?_⟩) (by assumption) ?_; rotate_left; focus (intro w hSw; (try dsimp only at hSw); go_simp; (try with_reducible rfl); done)
              (try simp only [Act.put, List.getElem_toArray, List.getElem_cons_zero, List.getElem_cons_succ, List.setIfInBounds_toArray, List.set_cons_zero, List.set_cons_succ])
              obtain ⟨l0, l1, l2⟩ := hL.c3
              have y0 := hL.frozen 0
              have y1 := hL.frozen 1
              have y2 := hL.frozen 2
              refine wpAnyH_ready (rs := [10]) (by kernel_rfl) (by simp) ?_
              refine AllReadyH.cons rfl (fun K hK => ?_) AllReadyH.nil
              go_simp
              refine hK.out _ _ (by repeat (first | with_reducible exact hHeld | (with_reducible refine Fresh.step2 ?_ ?_; focus (exact hGe)))) (fun hHeld => ?_)
              clear hK K
              (try simp only [Act.put, List.getElem_toArray, List.getElem_cons_zero, List.getElem_cons_succ, List.setIfInBounds_toArray, List.set_cons_zero, List.set_cons_succ])
              refine wy_gen (fun W => Fresh w W ∧ Blk W V1.heap.size 28 #[.string (strB (List.replicate N 0)), .string (strB (List.replicate M 0)), .bool b]) ⟨hHeld, ((hL.set 0 (.string (strB (List.replicate N 0)))).set 1 (.string (strB (List.replicate M 0)))).set 2 (.bool b)⟩ ?_
              rintro WZ ⟨hHeldZ, hZ⟩
              refine wpAnyH_done (by kernel_rfl) ?_ _
              go_wp2_with fail
              go_meet
              case rel => exact ⟨_, rfl, hZ, hHeldZ⟩
        · skip
          go_simp
          refine hK.out _ _ (hHeld.allocS _) (fun hHeld => ?_)
          clear hK K
          (try simp only [Act.put, List.getElem_toArray, List.getElem_cons_zero, List.getElem_cons_succ, List.setIfInBounds_toArray, List.set_cons_zero, List.set_cons_succ])
          refine wy_gen (fun W => Fresh w W ∧ Blk W W0.heap.size 5 (bytesA (List.replicate N 0)) ∧ Blk W V1.heap.size 28 #[.string ⟨#[]⟩, .string ⟨#[]⟩, .bool false] ∧ Blk W V13.heap.size 5 (bytesA (List.replicate M 0))) ⟨hHeld, hN.alloc _, hL.alloc _, newN V13 M⟩ ?_
          clear hHeld hN hL
          rintro V15 ⟨hHeld, hN, hL, hM⟩
          refine wpAnyH_ready (rs := [2, 5]) (by kernel_rfl) (by simp) ?_
          refine AllReadyH.cons rfl (fun K hK => ?_) (AllReadyH.cons rfl (fun K hK => ?_) AllReadyH.nil)
          · skip
            have hcvN := run_str (P := Try.prog) (BS.row (l := List.replicate N 0) hN) 29 9 5 Try.underlying29 Try.underlying5 Try.underlying9 N
            rw [List.length_replicate] at hcvN
            go_simp
            refine hK.out _ _ hHeld (fun hHeld => ?_)
            clear hK K
            (try simp only [Act.put, List.getElem_toArray, List.getElem_cons_zero, List.getElem_cons_succ, List.setIfInBounds_toArray, List.set_cons_zero, List.set_cons_succ])
            refine wpAnyH_ready (rs := [5]) (by kernel_rfl) (by simp) ?_
            refine AllReadyH.cons rfl (fun K hK => ?_) AllReadyH.nil
            · skip
              have hcvM := run_str (P := Try.prog) (BS.row (l := List.replicate M 0) hM) 29 9 5 Try.underlying29 Try.underlying5 Try.underlying9 M
              rw [List.length_replicate] at hcvM
              go_simp
              refine hK.out _ _ hHeld (fun hHeld => ?_)
              clear hK K
              (try simp only [Act.put, List.getElem_toArray, List.getElem_cons_zero, List.getElem_cons_succ, List.setIfInBounds_toArray, List.set_cons_zero, List.set_cons_succ])
              refine wpAnyH_take (i := 6) (v := ?_) rfl (by kernel_rfl) (by kernel_rfl) (by kernel_rfl) (fun _ _ _ h => h) (Or.inl ⟨by rfl, ?_⟩) (by assumption) ?_; rotate_left; focus (intro w hSw; (try dsimp only at hSw); go_simp; (try with_reducible rfl); done)
              (try simp only [Act.put, List.getElem_toArray, List.getElem_cons_zero, List.getElem_cons_succ, List.setIfInBounds_toArray, List.set_cons_zero, List.set_cons_succ])
              refine wpAnyH_take (i := 8) (v := ?_) rfl (by kernel_rfl) (by kernel_rfl) (by kernel_rfl) (fun _ _ _ h => h) (Or.inl ⟨by rfl, ?_⟩) (by assumption) ?_; rotate_left; focus (intro w hSw; (try dsimp only at hSw); go_simp; (try with_reducible rfl); done)
              (try simp only [Act.put, List.getElem_toArray, List.getElem_cons_zero, List.getElem_cons_succ, List.setIfInBounds_toArray, List.set_cons_zero, List.set_cons_succ])
              obtain ⟨l0, l1, l2⟩ := hL.c3
              have y0 := hL.frozen 0
              have y1 := hL.frozen 1
              have y2 := hL.frozen 2
              refine wpAnyH_ready (rs := [10]) (by kernel_rfl) (by simp) ?_
              refine AllReadyH.cons rfl (fun K hK => ?_) AllReadyH.nil
              go_simp
              refine hK.out _ _ (by repeat (first | with_reducible exact hHeld | (with_reducible refine Fresh.step2 ?_ ?_; focus (exact hGe)))) (fun hHeld => ?_)
              clear hK K
              (try simp only [Act.put, List.getElem_toArray, List.getElem_cons_zero, List.getElem_cons_succ, List.setIfInBounds_toArray, List.set_cons_zero, List.set_cons_succ])
              refine wy_gen (fun W => Fresh w W ∧ Blk W V1.heap.size 28 #[.string (strB (List.replicate N 0)), .string (strB (List.replicate M 0)), .bool b]) ⟨hHeld, ((hL.set 0 (.string (strB (List.replicate N 0)))).set 1 (.string (strB (List.replicate M 0)))).set 2 (.bool b)⟩ ?_
              rintro WZ ⟨hHeldZ, hZ⟩
              refine wpAnyH_done (by kernel_rfl) ?_ _
              go_wp2_with fail
              go_meet
              case rel => exact ⟨_, rfl, hZ, hHeldZ⟩
          · skip
            have hcvM := run_str (P := Try.prog) (BS.row (l := List.replicate M 0) hM) 29 9 5 Try.underlying29 Try.underlying5 Try.underlying9 M
            rw [List.length_replicate] at hcvM
            go_simp
            refine hK.out _ _ hHeld (fun hHeld => ?_)
            clear hK K
            (try simp only [Act.put, List.getElem_toArray, List.getElem_cons_zero, List.getElem_cons_succ, List.setIfInBounds_toArray, List.set_cons_zero, List.set_cons_succ])
            refine wpAnyH_ready (rs := [2]) (by kernel_rfl) (by simp) ?_
            refine AllReadyH.cons rfl (fun K hK => ?_) AllReadyH.nil
            · skip
              have hcvN := run_str (P := Try.prog) (BS.row (l := List.replicate N 0) hN) 29 9 5 Try.underlying29 Try.underlying5 Try.underlying9 N
              rw [List.length_replicate] at hcvN
              go_simp
              refine hK.out _ _ hHeld (fun hHeld => ?_)
              clear hK K
              (try simp only [Act.put, List.getElem_toArray, List.getElem_cons_zero, List.getElem_cons_succ, List.setIfInBounds_toArray, List.set_cons_zero, List.set_cons_succ])
              refine wpAnyH_take (i := 6) (v := ?_) rfl (by kernel_rfl) (by kernel_rfl) (by kernel_rfl) (fun _ _ _ h => h) (Or.inl ⟨by rfl, ?_⟩) (by assumption) ?_; rotate_left; focus (intro w hSw; (try dsimp only at hSw); go_simp; (try with_reducible rfl); done)
              (try simp only [Act.put, List.getElem_toArray, List.getElem_cons_zero, List.getElem_cons_succ, List.setIfInBounds_toArray, List.set_cons_zero, List.set_cons_succ])
              refine wpAnyH_take (i := 8) (v := ?_) rfl (by kernel_rfl) (by kernel_rfl) (by kernel_rfl) (fun _ _ _ h => h) (Or.inl ⟨by rfl, ?_⟩) (by assumption) ?_; rotate_left; focus (intro w hSw; (try dsimp only at hSw); go_simp; (try with_reducible rfl); done)
              (try simp only [Act.put, List.getElem_toArray, List.getElem_cons_zero, List.getElem_cons_succ, List.setIfInBounds_toArray, List.set_cons_zero, List.set_cons_succ])
              obtain ⟨l0, l1, l2⟩ := hL.c3
              have y0 := hL.frozen 0
              have y1 := hL.frozen 1
              have y2 := hL.frozen 2
              refine wpAnyH_ready (rs := [10]) (by kernel_rfl) (by simp) ?_
              refine AllReadyH.cons rfl (fun K hK => ?_) AllReadyH.nil
              go_simp
              refine hK.out _ _ (by repeat (first | with_reducible exact hHeld | (with_reducible refine Fresh.step2 ?_ ?_; focus (exact hGe)))) (fun hHeld => ?_)
              clear hK K
              (try simp only [Act.put, List.getElem_toArray, List.getElem_cons_zero, List.getElem_cons_succ, List.setIfInBounds_toArray, List.set_cons_zero, List.set_cons_succ])
              refine wy_gen (fun W => Fresh w W ∧ Blk W V1.heap.size 28 #[.string (strB (List.replicate N 0)), .string (strB (List.replicate M 0)), .bool b]) ⟨hHeld, ((hL.set 0 (.string (strB (List.replicate N 0)))).set 1 (.string (strB (List.replicate M 0)))).set 2 (.bool b)⟩ ?_
              rintro WZ ⟨hHeldZ, hZ⟩
              refine wpAnyH_done (by kernel_rfl) ?_ _
              go_wp2_with fail
              go_meet
              case rel => exact ⟨_, rfl, hZ, hHeldZ⟩
    · skip
      go_simp
      refine hK.out _ _ (hHeld.allocS _) (fun hHeld => ?_)
      clear hK K
      (try simp only [Act.put, List.getElem_toArray, List.getElem_cons_zero, List.getElem_cons_succ, List.setIfInBounds_toArray, List.set_cons_zero, List.set_cons_succ])
      refine wy_gen (fun W => Fresh w W ∧ Blk W W0.heap.size 5 (bytesA (List.replicate M 0))) ⟨hHeld, newN W0 M⟩ ?_
      clear hHeld
      rintro V16 ⟨hHeld, hM⟩
      refine wpAnyH_ready (rs := [1, 5, 9]) (by kernel_rfl) (by simp) ?_
      refine AllReadyH.cons rfl (fun K hK => ?_) (AllReadyH.cons rfl (fun K hK => ?_) (AllReadyH.cons rfl (fun K hK => ?_) AllReadyH.nil))
      · skip
        go_simp
        refine hK.out _ _ (hHeld.allocS _) (fun hHeld => ?_)
        clear hK K
        (try simp only [Act.put, List.getElem_toArray, List.getElem_cons_zero, List.getElem_cons_succ, List.setIfInBounds_toArray, List.set_cons_zero, List.set_cons_succ])
        refine wy_gen (fun W => Fresh w W ∧ Blk W W0.heap.size 5 (bytesA (List.replicate M 0)) ∧ Blk W V16.heap.size 5 (bytesA (List.replicate N 0))) ⟨hHeld, hM.alloc _, newN V16 N⟩ ?_
        clear hHeld hM
        rintro V17 ⟨hHeld, hM, hN⟩
        refine wpAnyH_ready (rs := [2, 5, 9]) (by kernel_rfl) (by simp) ?_
        refine AllReadyH.cons rfl (fun K hK => ?_) (AllReadyH.cons rfl (fun K hK => ?_) (AllReadyH.cons rfl (fun K hK => ?_) AllReadyH.nil))
        · skip
          have hcvN := run_str (P := Try.prog) (BS.row (l := List.replicate N 0) hN) 29 9 5 Try.underlying29 Try.underlying5 Try.underlying9 N
          rw [List.length_replicate] at hcvN
          go_simp
          refine hK.out _ _ hHeld (fun hHeld => ?_)
          clear hK K
          (try simp only [Act.put, List.getElem_toArray, List.getElem_cons_zero, List.getElem_cons_succ, List.setIfInBounds_toArray, List.set_cons_zero, List.set_cons_succ])
          refine wpAnyH_ready (rs := [5, 9]) (by kernel_rfl) (by simp) ?_
          refine AllReadyH.cons rfl (fun K hK => ?_) (AllReadyH.cons rfl (fun K hK => ?_) AllReadyH.nil)
          · skip
            have hcvM := run_str (P := Try.prog) (BS.row (l := List.replicate M 0) hM) 29 9 5 Try.underlying29 Try.underlying5 Try.underlying9 M
            rw [List.length_replicate] at hcvM
            go_simp
            refine hK.out _ _ hHeld (fun hHeld => ?_)
            clear hK K
            (try simp only [Act.put, List.getElem_toArray, List.getElem_cons_zero, List.getElem_cons_succ, List.setIfInBounds_toArray, List.set_cons_zero, List.set_cons_succ])
            refine wpAnyH_take (i := 6) (v := ?_) rfl (by kernel_rfl) (by kernel_rfl) (by kernel_rfl) (fun _ _ _ h => h) (Or.inl ⟨by rfl, ?_⟩) (by assumption) ?_; rotate_left; focus (intro w hSw; (try dsimp only at hSw); go_simp; (try with_reducible rfl); done)
            (try simp only [Act.put, List.getElem_toArray, List.getElem_cons_zero, List.getElem_cons_succ, List.setIfInBounds_toArray, List.set_cons_zero, List.set_cons_succ])
            refine wpAnyH_take (i := 8) (v := ?_) rfl (by kernel_rfl) (by kernel_rfl) (by kernel_rfl) (fun _ _ _ h => h) (Or.inl ⟨by rfl, ?_⟩) (by assumption) ?_; rotate_left; focus (intro w hSw; (try dsimp only at hSw); go_simp; (try with_reducible rfl); done)
            (try simp only [Act.put, List.getElem_toArray, List.getElem_cons_zero, List.getElem_cons_succ, List.setIfInBounds_toArray, List.set_cons_zero, List.set_cons_succ])
            refine wpAnyH_ready (rs := [9]) (by kernel_rfl) (by simp) ?_
            refine AllReadyH.cons rfl (fun K hK => ?_) AllReadyH.nil
            · skip
              have hGe : w.heap.size ≤ V17.heap.size := hHeld.size
              go_simp
              refine hK.out _ _ (hHeld.allocS _) (fun hHeld => ?_)
              clear hK K
              (try simp only [Act.put, List.getElem_toArray, List.getElem_cons_zero, List.getElem_cons_succ, List.setIfInBounds_toArray, List.set_cons_zero, List.set_cons_succ])
              refine wy_gen (fun W => Fresh w W ∧ Blk W W0.heap.size 5 (bytesA (List.replicate M 0)) ∧ Blk W V16.heap.size 5 (bytesA (List.replicate N 0)) ∧ Blk W V17.heap.size 28 #[.string ⟨#[]⟩, .string ⟨#[]⟩, .bool false]) ⟨hHeld, hM.alloc _, hN.alloc _, Blk.new V17 _ _⟩ ?_
              clear hHeld hM hN
              rintro V18 ⟨hHeld, hM, hN, hL⟩
              obtain ⟨l0, l1, l2⟩ := hL.c3
              have y0 := hL.frozen 0
              have y1 := hL.frozen 1
              have y2 := hL.frozen 2
              refine wpAnyH_ready (rs := [10]) (by kernel_rfl) (by simp) ?_
              refine AllReadyH.cons rfl (fun K hK => ?_) AllReadyH.nil
              go_simp
              refine hK.out _ _ (by repeat (first | with_reducible exact hHeld | (with_reducible refine Fresh.step2 ?_ ?_; focus (exact hGe)))) (fun hHeld => ?_)
              clear hK K
              (try simp only [Act.put, List.getElem_toArray, List.getElem_cons_zero, List.getElem_cons_succ, List.setIfInBounds_toArray, List.set_cons_zero, List.set_cons_succ])
              refine wy_gen (fun W => Fresh w W ∧ Blk W V17.heap.size 28 #[.string (strB (List.replicate N 0)), .string (strB (List.replicate M 0)), .bool b]) ⟨hHeld, ((hL.set 0 (.string (strB (List.replicate N 0)))).set 1 (.string (strB (List.replicate M 0)))).set 2 (.bool b)⟩ ?_
              rintro WZ ⟨hHeldZ, hZ⟩
              refine wpAnyH_done (by kernel_rfl) ?_ _
              go_wp2_with fail
              go_meet
              case rel => exact ⟨_, rfl, hZ, hHeldZ⟩
          · skip
            have hGe : w.heap.size ≤ V17.heap.size := hHeld.size
            go_simp
            refine hK.out _ _ (hHeld.allocS _) (fun hHeld => ?_)
            clear hK K
            (try simp only [Act.put, List.getElem_toArray, List.getElem_cons_zero, List.getElem_cons_succ, List.setIfInBounds_toArray, List.set_cons_zero, List.set_cons_succ])
            refine wy_gen (fun W => Fresh w W ∧ Blk W W0.heap.size 5 (bytesA (List.replicate M 0)) ∧ Blk W V16.heap.size 5 (bytesA (List.replicate N 0)) ∧ Blk W V17.heap.size 28 #[.string ⟨#[]⟩, .string ⟨#[]⟩, .bool false]) ⟨hHeld, hM.alloc _, hN.alloc _, Blk.new V17 _ _⟩ ?_
            clear hHeld hM hN
            rintro V19 ⟨hHeld, hM, hN, hL⟩
            refine wpAnyH_ready (rs := [5]) (by kernel_rfl) (by simp) ?_
            refine AllReadyH.cons rfl (fun K hK => ?_) AllReadyH.nil
            · skip
              have hcvM := run_str (P := Try.prog) (BS.row (l := List.replicate M 0) hM) 29 9 5 Try.underlying29 Try.underlying5 Try.underlying9 M
              rw [List.length_replicate] at hcvM
              go_simp
              refine hK.out _ _ hHeld (fun hHeld => ?_)
              clear hK K
              (try simp only [Act.put, List.getElem_toArray, List.getElem_cons_zero, List.getElem_cons_succ, List.setIfInBounds_toArray, List.set_cons_zero, List.set_cons_succ])
              refine wpAnyH_take (i := 6) (v := ?_) rfl (by kernel_rfl) (by kernel_rfl) (by kernel_rfl) (fun _ _ _ h => h) (Or.inl ⟨by rfl, ?_⟩) (by assumption) ?_; rotate_left; focus (intro w hSw; (try dsimp only at hSw); go_simp; (try with_reducible rfl); done)
              (try simp only [Act.put, List.getElem_toArray, List.getElem_cons_zero, List.getElem_cons_succ, List.setIfInBounds_toArray, List.set_cons_zero, List.set_cons_succ])
              refine wpAnyH_take (i := 8) (v := ?_) rfl (by kernel_rfl) (by kernel_rfl) (by kernel_rfl) (fun _ _ _ h => h) (Or.inl ⟨by rfl, ?_⟩) (by assumption) ?_; rotate_left; focus (intro w hSw; (try dsimp only at hSw); go_simp; (try with_reducible rfl); done)
              (try simp only [Act.put, List.getElem_toArray, List.getElem_cons_zero, List.getElem_cons_succ, List.setIfInBounds_toArray, List.set_cons_zero, List.set_cons_succ])
              obtain ⟨l0, l1, l2⟩ := hL.c3
              have y0 := hL.frozen 0
              have y1 := hL.frozen 1
              have y2 := hL.frozen 2
              refine wpAnyH_ready (rs := [10]) (by kernel_rfl) (by simp) ?_
              refine AllReadyH.cons rfl (fun K hK => ?_) AllReadyH.nil
              go_simp
              refine hK.out _ _ (by repeat (first | with_reducible exact hHeld | (with_reducible refine Fresh.step2 ?_ ?_; focus (exact hGe)))) (fun hHeld => ?_)
              clear hK K
              (try simp only [Act.put, List.getElem_toArray, List.getElem_cons_zero, List.getElem_cons_succ, List.setIfInBounds_toArray, List.set_cons_zero, List.set_cons_succ])
              refine wy_gen (fun W => Fresh w W ∧ Blk W V17.heap.size 28 #[.string (strB (List.replicate N 0)), .string (strB (List.replicate M 0)), .bool b]) ⟨hHeld, ((hL.set 0 (.string (strB (List.replicate N 0)))).set 1 (.string (strB (List.replicate M 0)))).set 2 (.bool b)⟩ ?_
              rintro WZ ⟨hHeldZ, hZ⟩
              refine wpAnyH_done (by kernel_rfl) ?_ _
              go_wp2_with fail
              go_meet
              case rel => exact ⟨_, rfl, hZ, hHeldZ⟩
        · skip
          have hcvM := run_str (P := Try.prog) (BS.row (l := List.replicate M 0) hM) 29 9 5 Try.underlying29 Try.underlying5 Try.underlying9 M
          rw [List.length_replicate] at hcvM
          go_simp
          refine hK.out _ _ hHeld (fun hHeld => ?_)
          clear hK K
          (try simp only [Act.put, List.getElem_toArray, List.getElem_cons_zero, List.getElem_cons_succ, List.setIfInBounds_toArray, List.set_cons_zero, List.set_cons_succ])
          refine wpAnyH_ready (rs := [2, 9]) (by kernel_rfl) (by simp) ?_
          refine AllReadyH.cons rfl (fun K hK => ?_) (AllReadyH.cons rfl (fun K hK => ?_) AllReadyH.nil)
          · skip
            have hcvN := run_str (P := Try.prog) (BS.row (l := List.replicate N 0) hN) 29 9 5 Try.underlying29 Try.underlying5 Try.underlying9 N
            rw [List.length_replicate] at hcvN
            go_simp
            refine hK.out _ _ hHeld (fun hHeld => ?_)
            clear hK K
            (try simp only [Act.put, List.getElem_toArray, List.getElem_cons_zero, List.getElem_cons_succ, List.setIfInBounds_toArray, List.set_cons_zero, List.set_cons_succ])
            refine wpAnyH_take (i := 6) (v := ?_) rfl (by kernel_rfl) (by kernel_rfl) (by kernel_rfl) (fun _ _ _ h => h) (Or.inl ⟨by rfl, ?_⟩) (by assumption) ?_; rotate_left; focus (intro w hSw; (try dsimp only at hSw); go_simp; (try with_reducible rfl); done)
            (try simp only [Act.put, List.getElem_toArray, List.getElem_cons_zero, List.getElem_cons_succ, List.setIfInBounds_toArray, List.set_cons_zero, List.set_cons_succ])
            refine wpAnyH_take (i := 8) (v := ?_) rfl (by kernel_rfl) (by kernel_rfl) (by kernel_rfl) (fun _ _ _ h => h) (Or.inl ⟨by rfl, ?_⟩) (by assumption) ?_; rotate_left; focus (intro w hSw; (try dsimp only at hSw); go_simp; (try with_reducible rfl); done)
            (try simp only [Act.put, List.getElem_toArray, List.getElem_cons_zero, List.getElem_cons_succ, List.setIfInBounds_toArray, List.set_cons_zero, List.set_cons_succ])
            refine wpAnyH_ready (rs := [9]) (by kernel_rfl) (by simp) ?_
            refine AllReadyH.cons rfl (fun K hK => ?_) AllReadyH.nil
            · skip
              have hGe : w.heap.size ≤ V17.heap.size := hHeld.size
              go_simp
              refine hK.out _ _ (hHeld.allocS _) (fun hHeld => ?_)
              clear hK K
              (try simp only [Act.put, List.getElem_toArray, List.getElem_cons_zero, List.getElem_cons_succ, List.setIfInBounds_toArray, List.set_cons_zero, List.set_cons_succ])
              refine wy_gen (fun W => Fresh w W ∧ Blk W W0.heap.size 5 (bytesA (List.replicate M 0)) ∧ Blk W V16.heap.size 5 (bytesA (List.replicate N 0)) ∧ Blk W V17.heap.size 28 #[.string ⟨#[]⟩, .string ⟨#[]⟩, .bool false]) ⟨hHeld, hM.alloc _, hN.alloc _, Blk.new V17 _ _⟩ ?_
              clear hHeld hM hN
              rintro V20 ⟨hHeld, hM, hN, hL⟩
              obtain ⟨l0, l1, l2⟩ := hL.c3
              have y0 := hL.frozen 0
              have y1 := hL.frozen 1
              have y2 := hL.frozen 2
              refine wpAnyH_ready (rs := [10]) (by kernel_rfl) (by simp) ?_
              refine AllReadyH.cons rfl (fun K hK => ?_) AllReadyH.nil
              go_simp
              refine hK.out _ _ (by repeat (first | with_reducible exact hHeld | (with_reducible refine Fresh.step2 ?_ ?_; focus (exact hGe)))) (fun hHeld => ?_)
              clear hK K
              (try simp only [Act.put, List.getElem_toArray, List.getElem_cons_zero, List.getElem_cons_succ, List.setIfInBounds_toArray, List.set_cons_zero, List.set_cons_succ])
              refine wy_gen (fun W => Fresh w W ∧ Blk W V17.heap.size 28 #[.string (strB (List.replicate N 0)), .string (strB (List.replicate M 0)), .bool b]) ⟨hHeld, ((hL.set 0 (.string (strB (List.replicate N 0)))).set 1 (.string (strB (List.replicate M 0)))).set 2 (.bool b)⟩ ?_
              rintro WZ ⟨hHeldZ, hZ⟩
              refine wpAnyH_done (by kernel_rfl) ?_ _
              go_wp2_with fail
              go_meet
              case rel => exact ⟨_, rfl, hZ, hHeldZ⟩
          · skip
            have hGe : w.heap.size ≤ V17.heap.size := hHeld.size
            go_simp
            refine hK.out _ _ (hHeld.allocS _) (fun hHeld => ?_)
            clear hK K
            (try simp only [Act.put, List.getElem_toArray, List.getElem_cons_zero, List.getElem_cons_succ, List.setIfInBounds_toArray, List.set_cons_zero, List.set_cons_succ])
            refine wy_gen (fun W => Fresh w W ∧ Blk W W0.heap.size 5 (bytesA (List.replicate M 0)) ∧ Blk W V16.heap.size 5 (bytesA (List.replicate N 0)) ∧ Blk W V17.heap.size 28 #[.string ⟨#[]⟩, .string ⟨#[]⟩, .bool false]) ⟨hHeld, hM.alloc _, hN.alloc _, Blk.new V17 _ _⟩ ?_
            clear hHeld hM hN
            rintro V21 ⟨hHeld, hM, hN, hL⟩
            refine wpAnyH_ready (rs := [2]) (by kernel_rfl) (by simp) ?_
            refine AllReadyH.cons rfl (fun K hK => ?_) AllReadyH.nil
            · skip
              have hcvN := run_str (P := Try.prog) (BS.row (l := List.replicate N 0) hN) 29 9 5 Try.underlying29 Try.underlying5 Try.underlying9 N
              rw [List.length_replicate] at hcvN
              go_simp
              refine hK.out _ _ hHeld (fun hHeld => ?_)
              clear hK K
              (try simp only [Act.put, List.getElem_toArray, List.getElem_cons_zero, List.getElem_cons_succ, List.setIfInBounds_toArray, List.set_cons_zero, List.set_cons_succ])
              refine wpAnyH_take (i := 6) (v := ?_) rfl (by kernel_rfl) (by kernel_rfl) (by kernel_rfl) (fun _ _ _ h => h) (Or.inl ⟨by rfl, ?_⟩) (by assumption) ?_; rotate_left; focus (intro w hSw; (try dsimp only at hSw); go_simp; (try with_reducible rfl); done)
              (try simp only [Act.put, List.getElem_toArray, List.getElem_cons_zero, List.getElem_cons_succ, List.setIfInBounds_toArray, List.set_cons_zero, List.set_cons_succ])
              refine wpAnyH_take (i := 8) (v := ?_) rfl (by kernel_rfl) (by kernel_rfl) (by kernel_rfl) (fun _ _ _ h => h) (Or.inl ⟨by rfl, ?_⟩) (by assumption) ?_; rotate_left; focus (intro w hSw; (try dsimp only at hSw); go_simp; (try with_reducible rfl); done)
              (try simp only [Act.put, List.getElem_toArray, List.getElem_cons_zero, List.getElem_cons_succ, List.setIfInBounds_toArray, List.set_cons_zero, List.set_cons_succ])
              obtain ⟨l0, l1, l2⟩ := hL.c3
              have y0 := hL.frozen 0
              have y1 := hL.frozen 1
              have y2 := hL.frozen 2
              refine wpAnyH_ready (rs := [10]) (by kernel_rfl) (by simp) ?_
              refine AllReadyH.cons rfl (fun K hK => ?_) AllReadyH.nil
              go_simp
              refine hK.out _ _ (by repeat (first | with_reducible exact hHeld | (with_reducible refine Fresh.step2 ?_ ?_; focus (exact hGe)))) (fun hHeld => ?_)
              clear hK K
              (try simp only [Act.put, List.getElem_toArray, List.getElem_cons_zero, List.getElem_cons_succ, List.setIfInBounds_toArray, List.set_cons_zero, List.set_cons_succ])
              refine wy_gen (fun W => Fresh w W ∧ Blk W V17.heap.size 28 #[.string (strB (List.replicate N 0)), .string (strB (List.replicate M 0)), .bool b]) ⟨hHeld, ((hL.set 0 (.string (strB (List.replicate N 0)))).set 1 (.string (strB (List.replicate M 0)))).set 2 (.bool b)⟩ ?_
              rintro WZ ⟨hHeldZ, hZ⟩
              refine wpAnyH_done (by kernel_rfl) ?_ _
              go_wp2_with fail
              go_meet
              case rel => exact ⟨_, rfl, hZ, hHeldZ⟩
        · skip
          have hGe : w.heap.size ≤ V17.heap.size := hHeld.size
          go_simp
          refine hK.out _ _ (hHeld.allocS _) (fun hHeld => ?_)
          clear hK K
          (try simp only [Act.put, List.getElem_toArray, List.getElem_cons_zero, List.getElem_cons_succ, List.setIfInBounds_toArray, List.set_cons_zero, List.set_cons_succ])
          refine wy_gen (fun W => Fresh w W ∧ Blk W W0.heap.size 5 (bytesA (List.replicate M 0)) ∧ Blk W V16.heap.size 5 (bytesA (List.replicate N 0)) ∧ Blk W V17.heap.size 28 #[.string ⟨#[]⟩, .string ⟨#[]⟩, .bool false]) ⟨hHeld, hM.alloc _, hN.alloc _, Blk.new V17 _ _⟩ ?_
          clear hHeld hM hN
          rintro V22 ⟨hHeld, hM, hN, hL⟩
          refine wpAnyH_ready (rs := [2, 5]) (by kernel_rfl) (by simp) ?_
          refine AllReadyH.cons rfl (fun K hK => ?_) (AllReadyH.cons rfl (fun K hK => ?_) AllReadyH.nil)
          · skip
            have hcvN := run_str (P := Try.prog) (BS.row (l := List.replicate N 0) hN) 29 9 5 Try.underlying29 Try.underlying5 Try.underlying9 N
            rw [List.length_replicate] at hcvN
            go_simp
            refine hK.out _ _ hHeld (fun hHeld => ?_)
            clear hK K
            (try simp only [Act.put, List.getElem_toArray, List.getElem_cons_zero, List.getElem_cons_succ, List.setIfInBounds_toArray, List.set_cons_zero, List.set_cons_succ])
            refine wpAnyH_ready (rs := [5]) (by kernel_rfl) (by simp) ?_
            refine AllReadyH.cons rfl (fun K hK => ?_) AllReadyH.nil
            · skip
              have hcvM := run_str (P := Try.prog) (BS.row (l := List.replicate M 0) hM) 29 9 5 Try.underlying29 Try.underlying5 Try.underlying9 M
              rw [List.length_replicate] at hcvM
              go_simp
              refine hK.out _ _ hHeld (fun hHeld => ?_)
              clear hK K
              (try simp only [Act.put, List.getElem_toArray, List.getElem_cons_zero, List.getElem_cons_succ, List.setIfInBounds_toArray, List.set_cons_zero, List.set_cons_succ])
              refine wpAnyH_take (i := 6) (v := ?_) rfl (by kernel_rfl) (by kernel_rfl) (by kernel_rfl) (fun _ _ _ h => h) (Or.inl ⟨by rfl, ?_⟩) (by assumption) ?_; rotate_left; focus (intro w hSw; (try dsimp only at hSw); go_simp; (try with_reducible rfl); done)
              (try simp only [Act.put, List.getElem_toArray, List.getElem_cons_zero, List.getElem_cons_succ, List.setIfInBounds_toArray, List.set_cons_zero, List.set_cons_succ])
              refine wpAnyH_take (i := 8) (v := ?_) rfl (by kernel_rfl) (by kernel_rfl) (by kernel_rfl) (fun _ _ _ h => h) (Or.inl ⟨by rfl, ?_⟩) (by assumption) ?_; rotate_left; focus (intro w hSw; (try dsimp only at hSw); go_simp; (try with_reducible rfl); done)
              (try simp only [Act.put, List.getElem_toArray, List.getElem_cons_zero, List.getElem_cons_succ, List.setIfInBounds_toArray, List.set_cons_zero, List.set_cons_succ])
              obtain ⟨l0, l1, l2⟩ := hL.c3
              have y0 := hL.frozen 0
              have y1 := hL.frozen 1
              have y2 := hL.frozen 2
              refine wpAnyH_ready (rs := [10]) (by kernel_rfl) (by simp) ?_
              refine AllReadyH.cons rfl (fun K hK => ?_) AllReadyH.nil
              go_simp
              refine hK.out _ _ (by repeat (first | with_reducible exact hHeld | (with_reducible refine Fresh.step2 ?_ ?_; focus (exact hGe)))) (fun hHeld => ?_)
              clear hK K
              (try simp only [Act.put, List.getElem_toArray, List.getElem_cons_zero, List.getElem_cons_succ, List.setIfInBounds_toArray, List.set_cons_zero, List.set_cons_succ])
              refine wy_gen (fun W => Fresh w W ∧ Blk W V17.heap.size 28 #[.string (strB (List.replicate N 0)), .string (strB (List.replicate M 0)), .bool b]) ⟨hHeld, ((hL.set 0 (.string (strB (List.replicate N 0)))).set 1 (.string (strB (List.replicate M 0)))).set 2 (.bool b)⟩ ?_
              rintro WZ ⟨hHeldZ, hZ⟩
              refine wpAnyH_done (by kernel_rfl) ?_ _
              go_wp2_with fail
              go_meet
              case rel => exact ⟨_, rfl, hZ, hHeldZ⟩
          · skip
            have hcvM := run_str (P := Try.prog) (BS.row (l := List.replicate M 0) hM) 29 9 5 Try.underlying29 Try.underlying5 Try.underlying9 M
            rw [List.length_replicate] at hcvM
            go_simp
            refine hK.out _ _ hHeld (fun hHeld => ?_)
            clear hK K
            (try simp only [Act.put, List.getElem_toArray, List.getElem_cons_zero, List.getElem_cons_succ, List.setIfInBounds_toArray, List.set_cons_zero, List.set_cons_succ])
            refine wpAnyH_ready (rs := [2]) (by kernel_rfl) (by simp) ?_
            refine AllReadyH.cons rfl (fun K hK => ?_) AllReadyH.nil
            · skip
              have hcvN := run_str (P := Try.prog) (BS.row (l := List.replicate N 0) hN) 29 9 5 Try.underlying29 Try.underlying5 Try.underlying9 N
              rw [List.length_replicate] at hcvN
              go_simp
              refine hK.out _ _ hHeld (fun hHeld => ?_)
              clear hK K
              (try simp only [Act.put, List.getElem_toArray, List.getElem_cons_zero, List.getElem_cons_succ, List.setIfInBounds_toArray, List.set_cons_zero, List.set_cons_succ])
              refine wpAnyH_take (i := 6) (v := ?_) rfl (by kernel_rfl) (by kernel_rfl) (by kernel_rfl) (fun _ _ _ h => h) (Or.inl ⟨by rfl, ?_⟩) (by assumption) ?_; rotate_left; focus (intro w hSw; (try dsimp only at hSw); go_simp; (try with_reducible rfl); done)
              (try simp only [Act.put, List.getElem_toArray, List.getElem_cons_zero, List.getElem_cons_succ, List.setIfInBounds_toArray, List.set_cons_zero, List.set_cons_succ])
              refine wpAnyH_take (i := 8) (v := ?_) rfl (by kernel_rfl) (by kernel_rfl) (by kernel_rfl) (fun _ _ _ h => h) (Or.inl ⟨by rfl, ?_⟩) (by assumption) ?_; rotate_left; focus (intro w hSw; (try dsimp only at hSw); go_simp; (try with_reducible rfl); done)
              (try simp only [Act.put, List.getElem_toArray, List.getElem_cons_zero, List.getElem_cons_succ, List.setIfInBounds_toArray, List.set_cons_zero, List.set_cons_succ])
              obtain ⟨l0, l1, l2⟩ := hL.c3
              have y0 := hL.frozen 0
              have y1 := hL.frozen 1
              have y2 := hL.frozen 2
              refine wpAnyH_ready (rs := [10]) (by kernel_rfl) (by simp) ?_
              refine AllReadyH.cons rfl (fun K hK => ?_) AllReadyH.nil
              go_simp
              refine hK.out _ _ (by repeat (first | with_reducible exact hHeld | (with_reducible refine Fresh.step2 ?_ ?_; focus (exact hGe)))) (fun hHeld => ?_)
              clear hK K
              (try simp only [Act.put, List.getElem_toArray, List.getElem_cons_zero, List.getElem_cons_succ, List.setIfInBounds_toArray, List.set_cons_zero, List.set_cons_succ])
              refine wy_gen (fun W => Fresh w W ∧ Blk W V17.heap.size 28 #[.string (strB (List.replicate N 0)), .string (strB (List.replicate M 0)), .bool b]) ⟨hHeld, ((hL.set 0 (.string (strB (List.replicate N 0)))).set 1 (.string (strB (List.replicate M 0)))).set 2 (.bool b)⟩ ?_
              rintro WZ ⟨hHeldZ, hZ⟩
              refine wpAnyH_done (by kernel_rfl) ?_ _
              go_wp2_with fail
              go_meet
              case rel => exact ⟨_, rfl, hZ, hHeldZ⟩
      · skip
        have hcvM := run_str (P := Try.prog) (BS.row (l := List.replicate M 0) hM) 29 9 5 Try.underlying29 Try.underlying5 Try.underlying9 M
        rw [List.length_replicate] at hcvM
        go_simp
        refine hK.out _ _ hHeld (fun hHeld => ?_)
        clear hK K
        (try simp only [Act.put, List.getElem_toArray, List.getElem_cons_zero, List.getElem_cons_succ, List.setIfInBounds_toArray, List.set_cons_zero, List.set_cons_succ])
        refine wpAnyH_ready (rs := [1, 9]) (by kernel_rfl) (by simp) ?_
        refine AllReadyH.cons rfl (fun K hK => ?_) (AllReadyH.cons rfl (fun K hK => ?_) AllReadyH.nil)
        · skip
          go_simp
          refine hK.out _ _ (hHeld.allocS _) (fun hHeld => ?_)
          clear hK K
          (try simp only [Act.put, List.getElem_toArray, List.getElem_cons_zero, List.getElem_cons_succ, List.setIfInBounds_toArray, List.set_cons_zero, List.set_cons_succ])
          refine wy_gen (fun W => Fresh w W ∧ Blk W W0.heap.size 5 (bytesA (List.replicate M 0)) ∧ Blk W V16.heap.size 5 (bytesA (List.replicate N 0))) ⟨hHeld, hM.alloc _, newN V16 N⟩ ?_
          clear hHeld hM
          rintro V23 ⟨hHeld, hM, hN⟩
          refine wpAnyH_ready (rs := [2, 9]) (by kernel_rfl) (by simp) ?_
          refine AllReadyH.cons rfl (fun K hK => ?_) (AllReadyH.cons rfl (fun K hK => ?_) AllReadyH.nil)
          · skip
            have hcvN := run_str (P := Try.prog) (BS.row (l := List.replicate N 0) hN) 29 9 5 Try.underlying29 Try.underlying5 Try.underlying9 N
            rw [List.length_replicate] at hcvN
            go_simp
            refine hK.out _ _ hHeld (fun hHeld => ?_)
            clear hK K
            (try simp only [Act.put, List.getElem_toArray, List.getElem_cons_zero, List.getElem_cons_succ, List.setIfInBounds_toArray, List.set_cons_zero, List.set_cons_succ])
            refine wpAnyH_take (i := 6) (v := ?_) rfl (by kernel_rfl) (by kernel_rfl) (by kernel_rfl) (fun _ _ _ h => h) (Or.inl ⟨by rfl, ?_⟩) (by assumption) ?_; rotate_left; focus (intro w hSw; (try dsimp only at hSw); go_simp; (try with_reducible rfl); done)
            (try simp only [Act.put, List.getElem_toArray, List.getElem_cons_zero, List.getElem_cons_succ, List.setIfInBounds_toArray, List.set_cons_zero, List.set_cons_succ])
            refine wpAnyH_take (i := 8) (v := ?_) rfl (by kernel_rfl) (by kernel_rfl) (by kernel_rfl) (fun _ _ _ h => h) (Or.inl ⟨by rfl, ?_⟩) (by assumption) ?_; rotate_left; focus (intro w hSw; (try dsimp only at hSw); go_simp; (try with_reducible rfl); done)
            (try simp only [Act.put, List.getElem_toArray, List.getElem_cons_zero, List.getElem_cons_succ, List.setIfInBounds_toArray, List.set_cons_zero, List.set_cons_succ])
            refine wpAnyH_ready (rs := [9]) (by kernel_rfl) (by simp) ?_
            refine AllReadyH.cons rfl (fun K hK => ?_) AllReadyH.nil
            · skip
              have hGe : w.heap.size ≤ V23.heap.size := hHeld.size
              go_simp
              refine hK.out _ _ (hHeld.allocS _) (fun hHeld => ?_)
              clear hK K
              (try simp only [Act.put, List.getElem_toArray, List.getElem_cons_zero, List.getElem_cons_succ, List.setIfInBounds_toArray, List.set_cons_zero, List.set_cons_succ])
              refine wy_gen (fun W => Fresh w W ∧ Blk W W0.heap.size 5 (bytesA (List.replicate M 0)) ∧ Blk W V16.heap.size 5 (bytesA (List.replicate N 0)) ∧ Blk W V23.heap.size 28 #[.string ⟨#[]⟩, .string ⟨#[]⟩, .bool false]) ⟨hHeld, hM.alloc _, hN.alloc _, Blk.new V23 _ _⟩ ?_
              clear hHeld hM hN
              rintro V24 ⟨hHeld, hM, hN, hL⟩
              obtain ⟨l0, l1, l2⟩ := hL.c3
              have y0 := hL.frozen 0
              have y1 := hL.frozen 1
              have y2 := hL.frozen 2
              refine wpAnyH_ready (rs := [10]) (by kernel_rfl) (by simp) ?_
              refine AllReadyH.cons rfl (fun K hK => ?_) AllReadyH.nil
              go_simp
              refine hK.out _ _ (by repeat (first | with_reducible exact hHeld | (with_reducible refine Fresh.step2 ?_ ?_; focus (exact hGe)))) (fun hHeld => ?_)
              clear hK K
              (try simp only [Act.put, List.getElem_toArray, List.getElem_cons_zero, List.getElem_cons_succ, List.setIfInBounds_toArray, List.set_cons_zero, List.set_cons_succ])
              refine wy_gen (fun W => Fresh w W ∧ Blk W V23.heap.size 28 #[.string (strB (List.replicate N 0)), .string (strB (List.replicate M 0)), .bool b]) ⟨hHeld, ((hL.set 0 (.string (strB (List.replicate N 0)))).set 1 (.string (strB (List.replicate M 0)))).set 2 (.bool b)⟩ ?_
              rintro WZ ⟨hHeldZ, hZ⟩
              refine wpAnyH_done (by kernel_rfl) ?_ _
              go_wp2_with fail
              go_meet
              case rel => exact ⟨_, rfl, hZ, hHeldZ⟩
          · skip
            have hGe : w.heap.size ≤ V23.heap.size := hHeld.size
            go_simp
            refine hK.out _ _ (hHeld.allocS _) (fun hHeld => ?_)
            clear hK K
            (try simp only [Act.put, List.getElem_toArray, List.getElem_cons_zero, List.getElem_cons_succ, List.setIfInBounds_toArray, List.set_cons_zero, List.set_cons_succ])
            refine wy_gen (fun W => Fresh w W ∧ Blk W W0.heap.size 5 (bytesA (List.replicate M 0)) ∧ Blk W V16.heap.size 5 (bytesA (List.replicate N 0)) ∧ Blk W V23.heap.size 28 #[.string ⟨#[]⟩, .string ⟨#[]⟩, .bool false]) ⟨hHeld, hM.alloc _, hN.alloc _, Blk.new V23 _ _⟩ ?_
            clear hHeld hM hN
            rintro V25 ⟨hHeld, hM, hN, hL⟩
            refine wpAnyH_ready (rs := [2]) (by kernel_rfl) (by simp) ?_
            refine AllReadyH.cons rfl (fun K hK => ?_) AllReadyH.nil
            · skip
              have hcvN := run_str (P := Try.prog) (BS.row (l := List.replicate N 0) hN) 29 9 5 Try.underlying29 Try.underlying5 Try.underlying9 N
              rw [List.length_replicate] at hcvN
              go_simp
              refine hK.out _ _ hHeld (fun hHeld => ?_)
              clear hK K
              (try simp only [Act.put, List.getElem_toArray, List.getElem_cons_zero, List.getElem_cons_succ, List.setIfInBounds_toArray, List.set_cons_zero, List.set_cons_succ])
              refine wpAnyH_take (i := 6) (v := ?_) rfl (by kernel_rfl) (by kernel_rfl) (by kernel_rfl) (fun _ _ _ h => h) (Or.inl ⟨by rfl, ?_⟩) (by assumption) ?_; rotate_left; focus (intro w hSw; (try dsimp only at hSw); go_simp; (try with_reducible rfl); done)
              (try simp only [Act.put, List.getElem_toArray, List.getElem_cons_zero, List.getElem_cons_succ, List.setIfInBounds_toArray, List.set_cons_zero, List.set_cons_succ])
              refine wpAnyH_take (i := 8) (v := ?_) rfl (by kernel_rfl) (by kernel_rfl) (by kernel_rfl) (fun _ _ _ h => h) (Or.inl ⟨by rfl, ?_⟩) (by assumption) ?_; rotate_left; focus (intro w hSw; (try dsimp only at hSw); go_simp; (try with_reducible rfl); done)
              (try simp only [Act.put, List.getElem_toArray, List.getElem_cons_zero, List.getElem_cons_succ, List.setIfInBounds_toArray, List.set_cons_zero, List.set_cons_succ])
              obtain ⟨l0, l1, l2⟩ := hL.c3
              have y0 := hL.frozen 0
              have y1 := hL.frozen 1
              have y2 := hL.frozen 2
              refine wpAnyH_ready (rs := [10]) (by kernel_rfl) (by simp) ?_
              refine AllReadyH.cons rfl (fun K hK => ?_) AllReadyH.nil
              go_simp
              refine hK.out _ _ (by repeat (first | with_reducible exact hHeld | (with_reducible refine Fresh.step2 ?_ ?_; focus (exact hGe)))) (fun hHeld => ?_)
              clear hK K
              (try simp only [Act.put, List.getElem_toArray, List.getElem_cons_zero, List.getElem_cons_succ, List.setIfInBounds_toArray, List.set_cons_zero, List.set_cons_succ])
              refine wy_gen (fun W => Fresh w W ∧ Blk W V23.heap.size 28 #[.string (strB (List.replicate N 0)), .string (strB (List.replicate M 0)), .bool b]) ⟨hHeld, ((hL.set 0 (.string (strB (List.replicate N 0)))).set 1 (.string (strB (List.replicate M 0)))).set 2 (.bool b)⟩ ?_
              rintro WZ ⟨hHeldZ, hZ⟩
              refine wpAnyH_done (by kernel_rfl) ?_ _
              go_wp2_with fail
              go_meet
              case rel => exact ⟨_, rfl, hZ, hHeldZ⟩
        · skip
          have hGe : w.heap.size ≤ V16.heap.size := hHeld.size
          go_simp
          refine hK.out _ _ (hHeld.allocS _) (fun hHeld => ?_)
          clear hK K
          (try simp only [Act.put, List.getElem_toArray, List.getElem_cons_zero, List.getElem_cons_succ, List.setIfInBounds_toArray, List.set_cons_zero, List.set_cons_succ])
          refine wy_gen (fun W => Fresh w W ∧ Blk W W0.heap.size 5 (bytesA (List.replicate M 0)) ∧ Blk W V16.heap.size 28 #[.string ⟨#[]⟩, .string ⟨#[]⟩, .bool false]) ⟨hHeld, hM.alloc _, Blk.new V16 _ _⟩ ?_
          clear hHeld hM
          rintro V26 ⟨hHeld, hM, hL⟩
          refine wpAnyH_ready (rs := [1]) (by kernel_rfl) (by simp) ?_
          refine AllReadyH.cons rfl (fun K hK => ?_) AllReadyH.nil
          · skip
            go_simp
            refine hK.out _ _ (hHeld.allocS _) (fun hHeld => ?_)
            clear hK K
            (try simp only [Act.put, List.getElem_toArray, List.getElem_cons_zero, List.getElem_cons_succ, List.setIfInBounds_toArray, List.set_cons_zero, List.set_cons_succ])
            refine wy_gen (fun W => Fresh w W ∧ Blk W W0.heap.size 5 (bytesA (List.replicate M 0)) ∧ Blk W V16.heap.size 28 #[.string ⟨#[]⟩, .string ⟨#[]⟩, .bool false] ∧ Blk W V26.heap.size 5 (bytesA (List.replicate N 0))) ⟨hHeld, hM.alloc _, hL.alloc _, newN V26 N⟩ ?_
            clear hHeld hM hL
            rintro V27 ⟨hHeld, hM, hL, hN⟩
            refine wpAnyH_ready (rs := [2]) (by kernel_rfl) (by simp) ?_
            refine AllReadyH.cons rfl (fun K hK => ?_) AllReadyH.nil
            · skip
              have hcvN := run_str (P := Try.prog) (BS.row (l := List.replicate N 0) hN) 29 9 5 Try.underlying29 Try.underlying5 Try.underlying9 N
              rw [List.length_replicate] at hcvN
              go_simp
              refine hK.out _ _ hHeld (fun hHeld => ?_)
              clear hK K
              (try simp only [Act.put, List.getElem_toArray, List.getElem_cons_zero, List.getElem_cons_succ, List.setIfInBounds_toArray, List.set_cons_zero, List.set_cons_succ])
              refine wpAnyH_take (i := 6) (v := ?_) rfl (by kernel_rfl) (by kernel_rfl) (by kernel_rfl) (fun _ _ _ h => h) (Or.inl ⟨by rfl, ?_⟩) (by assumption) ?_; rotate_left; focus (intro w hSw; (try dsimp only at hSw); go_simp; (try with_reducible rfl); done)
              (try simp only [Act.put, List.getElem_toArray, List.getElem_cons_zero, List.getElem_cons_succ, List.setIfInBounds_toArray, List.set_cons_zero, List.set_cons_succ])
              refine wpAnyH_take (i := 8) (v := ?_) rfl (by kernel_rfl) (by kernel_rfl) (by kernel_rfl) (fun _ _ _ h => h) (Or.inl ⟨by rfl, ?_⟩) (by assumption) ?_; rotate_left; focus (intro w hSw; (try dsimp only at hSw); go_simp; (try with_reducible rfl); done)
              (try simp only [Act.put, List.getElem_toArray, List.getElem_cons_zero, List.getElem_cons_succ, List.setIfInBounds_toArray, List.set_cons_zero, List.set_cons_succ])
              obtain ⟨l0, l1, l2⟩ := hL.c3
              have y0 := hL.frozen 0
              have y1 := hL.frozen 1
              have y2 := hL.frozen 2
              refine wpAnyH_ready (rs := [10]) (by kernel_rfl) (by simp) ?_
              refine AllReadyH.cons rfl (fun K hK => ?_) AllReadyH.nil
              go_simp
              refine hK.out _ _ (by repeat (first | with_reducible exact hHeld | (with_reducible refine Fresh.step2 ?_ ?_; focus (exact hGe)))) (fun hHeld => ?_)
              clear hK K
              (try simp only [Act.put, List.getElem_toArray, List.getElem_cons_zero, List.getElem_cons_succ, List.setIfInBounds_toArray, List.set_cons_zero, List.set_cons_succ])
              refine wy_gen (fun W => Fresh w W ∧ Blk W V16.heap.size 28 #[.string (strB (List.replicate N 0)), .string (strB (List.replicate M 0)), .bool b]) ⟨hHeld, ((hL.set 0 (.string (strB (List.replicate N 0)))).set 1 (.string (strB (List.replicate M 0)))).set 2 (.bool b)⟩ ?_
              rintro WZ ⟨hHeldZ, hZ⟩
              refine wpAnyH_done (by kernel_rfl) ?_ _
              go_wp2_with fail
              go_meet
              case rel => exact ⟨_, rfl, hZ, hHeldZ⟩
      · skip
        have hGe : w.heap.size ≤ V16.heap.size := hHeld.size
        go_simp
        refine hK.out _ _ (hHeld.allocS _) (fun hHeld => ?_)
        clear hK K
        (try simp only [Act.put, List.getElem_toArray, List.getElem_cons_zero, List.getElem_cons_succ, List.setIfInBounds_toArray, List.set_cons_zero, List.set_cons_succ])
        refine wy_gen (fun W => Fresh w W ∧ Blk W W0.heap.size 5 (bytesA (List.replicate M 0)) ∧ Blk W V16.heap.size 28 #[.string ⟨#[]⟩, .string ⟨#[]⟩, .bool false]) ⟨hHeld, hM.alloc _, Blk.new V16 _ _⟩ ?_
        clear hHeld hM
        rintro V28 ⟨hHeld, hM, hL⟩
        refine wpAnyH_ready (rs := [1, 5]) (by kernel_rfl) (by simp) ?_
        refine AllReadyH.cons rfl (fun K hK => ?_) (AllReadyH.cons rfl (fun K hK => ?_) AllReadyH.nil)
        · skip
          go_simp
          refine hK.out _ _ (hHeld.allocS _) (fun hHeld => ?_)
          clear hK K
          (try simp only [Act.put, List.getElem_toArray, List.getElem_cons_zero, List.getElem_cons_succ, List.setIfInBounds_toArray, List.set_cons_zero, List.set_cons_succ])
          refine wy_gen (fun W => Fresh w W ∧ Blk W W0.heap.size 5 (bytesA (List.replicate M 0)) ∧ Blk W V16.heap.size 28 #[.string ⟨#[]⟩, .string ⟨#[]⟩, .bool false] ∧ Blk W V28.heap.size 5 (bytesA (List.replicate N 0))) ⟨hHeld, hM.alloc _, hL.alloc _, newN V28 N⟩ ?_
          clear hHeld hM hL
          rintro V29 ⟨hHeld, hM, hL, hN⟩
          refine wpAnyH_ready (rs := [2, 5]) (by kernel_rfl) (by simp) ?_
          refine AllReadyH.cons rfl (fun K hK => ?_) (AllReadyH.cons rfl (fun K hK => ?_) AllReadyH.nil)
          · skip
            have hcvN := run_str (P := Try.prog) (BS.row (l := List.replicate N 0) hN) 29 9 5 Try.underlying29 Try.underlying5 Try.underlying9 N
            rw [List.length_replicate] at hcvN
            go_simp
            refine hK.out _ _ hHeld (fun hHeld => ?_)
            clear hK K
            (try simp only [Act.put, List.getElem_toArray, List.getElem_cons_zero, List.getElem_cons_succ, List.setIfInBounds_toArray, List.set_cons_zero, List.set_cons_succ])
            refine wpAnyH_ready (rs := [5]) (by kernel_rfl) (by simp) ?_
            refine AllReadyH.cons rfl (fun K hK => ?_) AllReadyH.nil
            · skip
              have hcvM := run_str (P := Try.prog) (BS.row (l := List.replicate M 0) hM) 29 9 5 Try.underlying29 Try.underlying5 Try.underlying9 M
              rw [List.length_replicate] at hcvM
              go_simp
              refine hK.out _ _ hHeld (fun hHeld => ?_)
              clear hK K
              (try simp only [Act.put, List.getElem_toArray, List.getElem_cons_zero, List.getElem_cons_succ, List.setIfInBounds_toArray, List.set_cons_zero, List.set_cons_succ])
              refine wpAnyH_take (i := 6) (v := ?_) rfl (by kernel_rfl) (by kernel_rfl) (by kernel_rfl) (fun _ _ _ h => h) (Or.inl ⟨by rfl, ?_⟩) (by assumption) ?_; rotate_left; focus (intro w hSw; (try dsimp only at hSw); go_simp; (try with_reducible rfl); done)
              (try simp only [Act.put, List.getElem_toArray, List.getElem_cons_zero, List.getElem_cons_succ, List.setIfInBounds_toArray, List.set_cons_zero, List.set_cons_succ])
              refine wpAnyH_take (i := 8) (v := ?_) rfl (by kernel_rfl) (by kernel_rfl) (by kernel_rfl) (fun _ _ _ h => h) (Or.inl ⟨by rfl, ?_⟩) (by assumption) ?_; rotate_left; focus (intro w hSw; (try dsimp only at hSw); go_simp; (try with_reducible rfl); done)
              (try simp only [Act.put, List.getElem_toArray, List.getElem_cons_zero, List.getElem_cons_succ, List.setIfInBounds_toArray, List.set_cons_zero, List.set_cons_succ])
              obtain ⟨l0, l1, l2⟩ := hL.c3
              have y0 := hL.frozen 0
              have y1 := hL.frozen 1
              have y2 := hL.frozen 2
              refine wpAnyH_ready (rs := [10]) (by kernel_rfl) (by simp) ?_
              refine AllReadyH.cons rfl (fun K hK => ?_) AllReadyH.nil
              go_simp
              refine hK.out _ _ (by repeat (first | with_reducible exact hHeld | (with_reducible refine Fresh.step2 ?_ ?_; focus (exact hGe)))) (fun hHeld => ?_)
              clear hK K
              (try simp only [Act.put, List.getElem_toArray, List.getElem_cons_zero, List.getElem_cons_succ, List.setIfInBounds_toArray, List.set_cons_zero, List.set_cons_succ])
              refine wy_gen (fun W => Fresh w W ∧ Blk W V16.heap.size 28 #[.string (strB (List.replicate N 0)), .string (strB (List.replicate M 0)), .bool b]) ⟨hHeld, ((hL.set 0 (.string (strB (List.replicate N 0)))).set 1 (.string (strB (List.replicate M 0)))).set 2 (.bool b)⟩ ?_
              rintro WZ ⟨hHeldZ, hZ⟩
              refine wpAnyH_done (by kernel_rfl) ?_ _
              go_wp2_with fail
              go_meet
              case rel => exact ⟨_, rfl, hZ, hHeldZ⟩
          · skip
            have hcvM := run_str (P := Try.prog) (BS.row (l := List.replicate M 0) hM) 29 9 5 Try.underlying29 Try.underlying5 Try.underlying9 M
            rw [List.length_replicate] at hcvM
            go_simp
            refine hK.out _ _ hHeld (fun hHeld => ?_)
            clear hK K
            (try simp only [Act.put, List.getElem_toArray, List.getElem_cons_zero, List.getElem_cons_succ, List.setIfInBounds_toArray, List.set_cons_zero, List.set_cons_succ])
            refine wpAnyH_ready (rs := [2]) (by kernel_rfl) (by simp) ?_
            refine AllReadyH.cons rfl (fun K hK => ?_) AllReadyH.nil
            · skip
              have hcvN := run_str (P := Try.prog) (BS.row (l := List.replicate N 0) hN) 29 9 5 Try.underlying29 Try.underlying5 Try.underlying9 N
              rw [List.length_replicate] at hcvN
              go_simp
              refine hK.out _ _ hHeld (fun hHeld => ?_)
              clear hK K
              (try simp only [Act.put, List.getElem_toArray, List.getElem_cons_zero, List.getElem_cons_succ, List.setIfInBounds_toArray, List.set_cons_zero, List.set_cons_succ])
              refine wpAnyH_take (i := 6) (v := ?_) rfl (by kernel_rfl) (by kernel_rfl) (by kernel_rfl) (fun _ _ _ h => h) (Or.inl ⟨by rfl, ?_⟩) (by assumption) ?_; rotate_left; focus (intro w hSw; (try dsimp only at hSw); go_simp; (try with_reducible rfl); done)
              (try simp only [Act.put, List.getElem_toArray, List.getElem_cons_zero, List.getElem_cons_succ, List.setIfInBounds_toArray, List.set_cons_zero, List.set_cons_succ])
              refine wpAnyH_take (i := 8) (v := ?_) rfl (by kernel_rfl) (by kernel_rfl) (by kernel_rfl) (fun _ _ _ h => h) (Or.inl ⟨by rfl, ?_⟩) (by assumption) ?_; rotate_left; focus (intro w hSw; (try dsimp only at hSw); go_simp; (try with_reducible rfl); done)
              (try simp only [Act.put, List.getElem_toArray, List.getElem_cons_zero, List.getElem_cons_succ, List.setIfInBounds_toArray, List.set_cons_zero, List.set_cons_succ])
              obtain ⟨l0, l1, l2⟩ := hL.c3
              have y0 := hL.frozen 0
              have y1 := hL.frozen 1
              have y2 := hL.frozen 2
              refine wpAnyH_ready (rs := [10]) (by kernel_rfl) (by simp) ?_
              refine AllReadyH.cons rfl (fun K hK => ?_) AllReadyH.nil
              go_simp
              refine hK.out _ _ (by repeat (first | with_reducible exact hHeld | (with_reducible refine Fresh.step2 ?_ ?_; focus (exact hGe)))) (fun hHeld => ?_)
              clear hK K
              (try simp only [Act.put, List.getElem_toArray, List.getElem_cons_zero, List.getElem_cons_succ, List.setIfInBounds_toArray, List.set_cons_zero, List.set_cons_succ])
              refine wy_gen (fun W => Fresh w W ∧ Blk W V16.heap.size 28 #[.string (strB (List.replicate N 0)), .string (strB (List.replicate M 0)), .bool b]) ⟨hHeld, ((hL.set 0 (.string (strB (List.replicate N 0)))).set 1 (.string (strB (List.replicate M 0)))).set 2 (.bool b)⟩ ?_
              rintro WZ ⟨hHeldZ, hZ⟩
              refine wpAnyH_done (by kernel_rfl) ?_ _
              go_wp2_with fail
              go_meet
              case rel => exact ⟨_, rfl, hZ, hHeldZ⟩
        · skip
          have hcvM := run_str (P := Try.prog) (BS.row (l := List.replicate M 0) hM) 29 9 5 Try.underlying29 Try.underlying5 Try.underlying9 M
          rw [List.length_replicate] at hcvM
          go_simp
          refine hK.out _ _ hHeld (fun hHeld => ?_)
          clear hK K
          (try simp only [Act.put, List.getElem_toArray, List.getElem_cons_zero, List.getElem_cons_succ, List.setIfInBounds_toArray, List.set_cons_zero, List.set_cons_succ])
          refine wpAnyH_ready (rs := [1]) (by kernel_rfl) (by simp) ?_
          refine AllReadyH.cons rfl (fun K hK => ?_) AllReadyH.nil
          · skip
            go_simp
            refine hK.out _ _ (hHeld.allocS _) (fun hHeld => ?_)
            clear hK K
            (try simp only [Act.put, List.getElem_toArray, List.getElem_cons_zero, List.getElem_cons_succ, List.setIfInBounds_toArray, List.set_cons_zero, List.set_cons_succ])
            refine wy_gen (fun W => Fresh w W ∧ Blk W W0.heap.size 5 (bytesA (List.replicate M 0)) ∧ Blk W V16.heap.size 28 #[.string ⟨#[]⟩, .string ⟨#[]⟩, .bool false] ∧ Blk W V28.heap.size 5 (bytesA (List.replicate N 0))) ⟨hHeld, hM.alloc _, hL.alloc _, newN V28 N⟩ ?_
            clear hHeld hM hL
            rintro V30 ⟨hHeld, hM, hL, hN⟩
            refine wpAnyH_ready (rs := [2]) (by kernel_rfl) (by simp) ?_
            refine AllReadyH.cons rfl (fun K hK => ?_) AllReadyH.nil
            · skip
              have hcvN := run_str (P := Try.prog) (BS.row (l := List.replicate N 0) hN) 29 9 5 Try.underlying29 Try.underlying5 Try.underlying9 N
              rw [List.length_replicate] at hcvN
              go_simp
              refine hK.out _ _ hHeld (fun hHeld => ?_)
              clear hK K
              (try simp only [Act.put, List.getElem_toArray, List.getElem_cons_zero, List.getElem_cons_succ, List.setIfInBounds_toArray, List.set_cons_zero, List.set_cons_succ])
              refine wpAnyH_take (i := 6) (v := ?_) rfl (by kernel_rfl) (by kernel_rfl) (by kernel_rfl) (fun _ _ _ h => h) (Or.inl ⟨by rfl, ?_⟩) (by assumption) ?_; rotate_left; focus (intro w hSw; (try dsimp only at hSw); go_simp; (try with_reducible rfl); done)
              (try simp only [Act.put, List.getElem_toArray, List.getElem_cons_zero, List.getElem_cons_succ, List.setIfInBounds_toArray, List.set_cons_zero, List.set_cons_succ])
              refine wpAnyH_take (i := 8) (v := ?_) rfl (by kernel_rfl) (by kernel_rfl) (by kernel_rfl) (fun _ _ _ h => h) (Or.inl ⟨by rfl, ?_⟩) (by assumption) ?_; rotate_left; focus (intro w hSw; (try dsimp only at hSw); go_simp; (try with_reducible rfl); done)
              (try simp only [Act.put, List.getElem_toArray, List.getElem_cons_zero, List.getElem_cons_succ, List.setIfInBounds_toArray, List.set_cons_zero, List.set_cons_succ])
              obtain ⟨l0, l1, l2⟩ := hL.c3
              have y0 := hL.frozen 0
              have y1 := hL.frozen 1
              have y2 := hL.frozen 2
              refine wpAnyH_ready (rs := [10]) (by kernel_rfl) (by simp) ?_
              refine AllReadyH.cons rfl (fun K hK => ?_) AllReadyH.nil
              go_simp
              refine hK.out _ _ (by repeat (first | with_reducible exact hHeld | (with_reducible refine Fresh.step2 ?_ ?_; focus (exact hGe)))) (fun hHeld => ?_)
              clear hK K
              (try simp only [Act.put, List.getElem_toArray, List.getElem_cons_zero, List.getElem_cons_succ, List.setIfInBounds_toArray, List.set_cons_zero, List.set_cons_succ])
              refine wy_gen (fun W => Fresh w W ∧ Blk W V16.heap.size 28 #[.string (strB (List.replicate N 0)), .string (strB (List.replicate M 0)), .bool b]) ⟨hHeld, ((hL.set 0 (.string (strB (List.replicate N 0)))).set 1 (.string (strB (List.replicate M 0)))).set 2 (.bool b)⟩ ?_
              rintro WZ ⟨hHeldZ, hZ⟩
              refine wpAnyH_done (by kernel_rfl) ?_ _
              go_wp2_with fail
              go_meet
              case rel => exact ⟨_, rfl, hZ, hHeldZ⟩
    · skip
      have hGe : w.heap.size ≤ W0.heap.size := hHeld.size
      go_simp
      refine hK.out _ _ (hHeld.allocS _) (fun hHeld => ?_)
      clear hK K
      (try simp only [Act.put, List.getElem_toArray, List.getElem_cons_zero, List.getElem_cons_succ, List.setIfInBounds_toArray, List.set_cons_zero, List.set_cons_succ])
      refine wy_gen (fun W => Fresh w W ∧ Blk W W0.heap.size 28 #[.string ⟨#[]⟩, .string ⟨#[]⟩, .bool false]) ⟨hHeld, Blk.new W0 _ _⟩ ?_
      clear hHeld
      rintro V31 ⟨hHeld, hL⟩
      refine wpAnyH_ready (rs := [1, 4]) (by kernel_rfl) (by simp) ?_
      refine AllReadyH.cons rfl (fun K hK => ?_) (AllReadyH.cons rfl (fun K hK => ?_) AllReadyH.nil)
      · skip
        go_simp
        refine hK.out _ _ (hHeld.allocS _) (fun hHeld => ?_)
        clear hK K
        (try simp only [Act.put, List.getElem_toArray, List.getElem_cons_zero, List.getElem_cons_succ, List.setIfInBounds_toArray, List.set_cons_zero, List.set_cons_succ])
        refine wy_gen (fun W => Fresh w W ∧ Blk W W0.heap.size 28 #[.string ⟨#[]⟩, .string ⟨#[]⟩, .bool false] ∧ Blk W V31.heap.size 5 (bytesA (List.replicate N 0))) ⟨hHeld, hL.alloc _, newN V31 N⟩ ?_
        clear hHeld hL
        rintro V32 ⟨hHeld, hL, hN⟩
        refine wpAnyH_ready (rs := [2, 4]) (by kernel_rfl) (by simp) ?_
        refine AllReadyH.cons rfl (fun K hK => ?_) (AllReadyH.cons rfl (fun K hK => ?_) AllReadyH.nil)
        · skip
          have hcvN := run_str (P := Try.prog) (BS.row (l := List.replicate N 0) hN) 29 9 5 Try.underlying29 Try.underlying5 Try.underlying9 N
          rw [List.length_replicate] at hcvN
          go_simp
          refine hK.out _ _ hHeld (fun hHeld => ?_)
          clear hK K
          (try simp only [Act.put, List.getElem_toArray, List.getElem_cons_zero, List.getElem_cons_succ, List.setIfInBounds_toArray, List.set_cons_zero, List.set_cons_succ])
          refine wpAnyH_ready (rs := [4]) (by kernel_rfl) (by simp) ?_
          refine AllReadyH.cons rfl (fun K hK => ?_) AllReadyH.nil
          · skip
            go_simp
            refine hK.out _ _ (hHeld.allocS _) (fun hHeld => ?_)
            clear hK K
            (try simp only [Act.put, List.getElem_toArray, List.getElem_cons_zero, List.getElem_cons_succ, List.setIfInBounds_toArray, List.set_cons_zero, List.set_cons_succ])
            refine wy_gen (fun W => Fresh w W ∧ Blk W W0.heap.size 28 #[.string ⟨#[]⟩, .string ⟨#[]⟩, .bool false] ∧ Blk W V31.heap.size 5 (bytesA (List.replicate N 0)) ∧ Blk W V32.heap.size 5 (bytesA (List.replicate M 0))) ⟨hHeld, hL.alloc _, hN.alloc _, newN V32 M⟩ ?_
            clear hHeld hL hN
            rintro V33 ⟨hHeld, hL, hN, hM⟩
            refine wpAnyH_ready (rs := [5]) (by kernel_rfl) (by simp) ?_
            refine AllReadyH.cons rfl (fun K hK => ?_) AllReadyH.nil
            · skip
              have hcvM := run_str (P := Try.prog) (BS.row (l := List.replicate M 0) hM) 29 9 5 Try.underlying29 Try.underlying5 Try.underlying9 M
              rw [List.length_replicate] at hcvM
              go_simp
              refine hK.out _ _ hHeld (fun hHeld => ?_)
              clear hK K
              (try simp only [Act.put, List.getElem_toArray, List.getElem_cons_zero, List.getElem_cons_succ, List.setIfInBounds_toArray, List.set_cons_zero, List.set_cons_succ])
              refine wpAnyH_take (i := 6) (v := ?_) rfl (by kernel_rfl) (by kernel_rfl) (by kernel_rfl) (fun _ _ _ h => h) (Or.inl ⟨by rfl, ?_⟩) (by assumption) ?_; rotate_left; focus (intro w hSw; (try dsimp only at hSw); go_simp; (try with_reducible rfl); done)
              (try simp only [Act.put, List.getElem_toArray, List.getElem_cons_zero, List.getElem_cons_succ, List.setIfInBounds_toArray, List.set_cons_zero, List.set_cons_succ])
              refine wpAnyH_take (i := 8) (v := ?_) rfl (by kernel_rfl) (by kernel_rfl) (by kernel_rfl) (fun _ _ _ h => h) (Or.inl ⟨by rfl, ?_⟩) (by assumption) ?_; rotate_left; focus (intro w hSw; (try dsimp only at hSw); go_simp; (try with_reducible rfl); done)
              (try simp only [Act.put, List.getElem_toArray, List.getElem_cons_zero, List.getElem_cons_succ, List.setIfInBounds_toArray, List.set_cons_zero, List.set_cons_succ])
              obtain ⟨l0, l1, l2⟩ := hL.c3
              have y0 := hL.frozen 0
              have y1 := hL.frozen 1
              have y2 := hL.frozen 2
              refine wpAnyH_ready (rs := [10]) (by kernel_rfl) (by simp) ?_
              refine AllReadyH.cons rfl (fun K hK => ?_) AllReadyH.nil
              go_simp
              refine hK.out _ _ (by repeat (first | with_reducible exact hHeld | (with_reducible refine Fresh.step2 ?_ ?_; focus (exact hGe)))) (fun hHeld => ?_)
              clear hK K
              (try simp only [Act.put, List.getElem_toArray, List.getElem_cons_zero, List.getElem_cons_succ, List.setIfInBounds_toArray, List.set_cons_zero, List.set_cons_succ])
              refine wy_gen (fun W => Fresh w W ∧ Blk W W0.heap.size 28 #[.string (strB (List.replicate N 0)), .string (strB (List.replicate M 0)), .bool b]) ⟨hHeld, ((hL.set 0 (.string (strB (List.replicate N 0)))).set 1 (.string (strB (List.replicate M 0)))).set 2 (.bool b)⟩ ?_
              rintro WZ ⟨hHeldZ, hZ⟩
              refine wpAnyH_done (by kernel_rfl) ?_ _
              go_wp2_with fail
              go_meet
              case rel => exact ⟨_, rfl, hZ, hHeldZ⟩
        · skip
          go_simp
          refine hK.out _ _ (hHeld.allocS _) (fun hHeld => ?_)
          clear hK K
          (try simp only [Act.put, List.getElem_toArray, List.getElem_cons_zero, List.getElem_cons_succ, List.setIfInBounds_toArray, List.set_cons_zero, List.set_cons_succ])
          refine wy_gen (fun W => Fresh w W ∧ Blk W W0.heap.size 28 #[.string ⟨#[]⟩, .string ⟨#[]⟩, .bool false] ∧ Blk W V31.heap.size 5 (bytesA (List.replicate N 0)) ∧ Blk W V32.heap.size 5 (bytesA (List.replicate M 0))) ⟨hHeld, hL.alloc _, hN.alloc _, newN V32 M⟩ ?_
          clear hHeld hL hN
          rintro V34 ⟨hHeld, hL, hN, hM⟩
          refine wpAnyH_ready (rs := [2, 5]) (by kernel_rfl) (by simp) ?_
          refine AllReadyH.cons rfl (fun K hK => ?_) (AllReadyH.cons rfl (fun K hK => ?_) AllReadyH.nil)
          · skip
            have hcvN := run_str (P := Try.prog) (BS.row (l := List.replicate N 0) hN) 29 9 5 Try.underlying29 Try.underlying5 Try.underlying9 N
            rw [List.length_replicate] at hcvN
            go_simp
            refine hK.out _ _ hHeld (fun hHeld => ?_)
            clear hK K
            (try simp only [Act.put, List.getElem_toArray, List.getElem_cons_zero, List.getElem_cons_succ, List.setIfInBounds_toArray, List.set_cons_zero, List.set_cons_succ])
            refine wpAnyH_ready (rs := [5]) (by kernel_rfl) (by simp) ?_
            refine AllReadyH.cons rfl (fun K hK => ?_) AllReadyH.nil
            · skip
              have hcvM := run_str (P := Try.prog) (BS.row (l := List.replicate M 0) hM) 29 9 5 Try.underlying29 Try.underlying5 Try.underlying9 M
              rw [List.length_replicate] at hcvM
              go_simp
              refine hK.out _ _ hHeld (fun hHeld => ?_)
              clear hK K
              (try simp only [Act.put, List.getElem_toArray, List.getElem_cons_zero, List.getElem_cons_succ, List.setIfInBounds_toArray, List.set_cons_zero, List.set_cons_succ])
              refine wpAnyH_take (i := 6) (v := ?_) rfl (by kernel_rfl) (by kernel_rfl) (by kernel_rfl) (fun _ _ _ h => h) (Or.inl ⟨by rfl, ?_⟩) (by assumption) ?_; rotate_left; focus (intro w hSw; (try dsimp only at hSw); go_simp; (try with_reducible rfl); done)
              (try simp only [Act.put, List.getElem_toArray, List.getElem_cons_zero, List.getElem_cons_succ, List.setIfInBounds_toArray, List.set_cons_zero, List.set_cons_succ])
              refine wpAnyH_take (i := 8) (v := ?_) rfl (by kernel_rfl) (by kernel_rfl) (by kernel_rfl) (fun _ _ _ h => h) (Or.inl ⟨by rfl, ?_⟩) (by assumption) ?_; rotate_left; focus (intro w hSw; (try dsimp only at hSw); go_simp; (try with_reducible rfl); done)
              (try simp only [Act.put, List.getElem_toArray, List.getElem_cons_zero, List.getElem_cons_succ, List.setIfInBounds_toArray, List.set_cons_zero, List.set_cons_succ])
              obtain ⟨l0, l1, l2⟩ := hL.c3
              have y0 := hL.frozen 0
              have y1 := hL.frozen 1
              have y2 := hL.frozen 2
              refine wpAnyH_ready (rs := [10]) (by kernel_rfl) (by simp) ?_
              refine AllReadyH.cons rfl (fun K hK => ?_) AllReadyH.nil
              go_simp
              refine hK.out _ _ (by repeat (first | with_reducible exact hHeld | (with_reducible refine Fresh.step2 ?_ ?_; focus (exact hGe)))) (fun hHeld => ?_)
              clear hK K
              (try simp only [Act.put, List.getElem_toArray, List.getElem_cons_zero, List.getElem_cons_succ, List.setIfInBounds_toArray, List.set_cons_zero, List.set_cons_succ])
              refine wy_gen (fun W => Fresh w W ∧ Blk W W0.heap.size 28 #[.string (strB (List.replicate N 0)), .string (strB (List.replicate M 0)), .bool b]) ⟨hHeld, ((hL.set 0 (.string (strB (List.replicate N 0)))).set 1 (.string (strB (List.replicate M 0)))).set 2 (.bool b)⟩ ?_
              rintro WZ ⟨hHeldZ, hZ⟩
              refine wpAnyH_done (by kernel_rfl) ?_ _
              go_wp2_with fail
              go_meet
              case rel => exact ⟨_, rfl, hZ, hHeldZ⟩
          · skip
            have hcvM := run_str (P := Try.prog) (BS.row (l := List.replicate M 0) hM) 29 9 5 Try.underlying29 Try.underlying5 Try.underlying9 M
            rw [List.length_replicate] at hcvM
            go_simp
            refine hK.out _ _ hHeld (fun hHeld => ?_)
            clear hK K
            (try simp only [Act.put, List.getElem_toArray, List.getElem_cons_zero, List.getElem_cons_succ, List.setIfInBounds_toArray, List.set_cons_zero, List.set_cons_succ])
            refine wpAnyH_ready (rs := [2]) (by kernel_rfl) (by simp) ?_
            refine AllReadyH.cons rfl (fun K hK => ?_) AllReadyH.nil
            · skip
              have hcvN := run_str (P := Try.prog) (BS.row (l := List.replicate N 0) hN) 29 9 5 Try.underlying29 Try.underlying5 Try.underlying9 N
              rw [List.length_replicate] at hcvN
              go_simp
              refine hK.out _ _ hHeld (fun hHeld => ?_)
              clear hK K
              (try simp only [Act.put, List.getElem_toArray, List.getElem_cons_zero, List.getElem_cons_succ, List.setIfInBounds_toArray, List.set_cons_zero, List.set_cons_succ])
              refine wpAnyH_take (i := 6) (v := ?_) rfl (by kernel_rfl) (by kernel_rfl) (by kernel_rfl) (fun _ _ _ h => h) (Or.inl ⟨by rfl, ?_⟩) (by assumption) ?_; rotate_left; focus (intro w hSw; (try dsimp only at hSw); go_simp; (try with_reducible rfl); done)
              (try simp only [Act.put, List.getElem_toArray, List.getElem_cons_zero, List.getElem_cons_succ, List.setIfInBounds_toArray, List.set_cons_zero, List.set_cons_succ])
              refine wpAnyH_take (i := 8) (v := ?_) rfl (by kernel_rfl) (by kernel_rfl) (by kernel_rfl) (fun _ _ _ h => h) (Or.inl ⟨by rfl, ?_⟩) (by assumption) ?_; rotate_left; focus (intro w hSw; (try dsimp only at hSw); go_simp; (try with_reducible rfl); done)
              (try simp only [Act.put, List.getElem_toArray, List.getElem_cons_zero, List.getElem_cons_succ, List.setIfInBounds_toArray, List.set_cons_zero, List.set_cons_succ])
              obtain ⟨l0, l1, l2⟩ := hL.c3
              have y0 := hL.frozen 0
              have y1 := hL.frozen 1
              have y2 := hL.frozen 2
              refine wpAnyH_ready (rs := [10]) (by kernel_rfl) (by simp) ?_
              refine AllReadyH.cons rfl (fun K hK => ?_) AllReadyH.nil
              go_simp
              refine hK.out _ _ (by repeat (first | with_reducible exact hHeld | (with_reducible refine Fresh.step2 ?_ ?_; focus (exact hGe)))) (fun hHeld => ?_)
              clear hK K
              (try simp only [Act.put, List.getElem_toArray, List.getElem_cons_zero, List.getElem_cons_succ, List.setIfInBounds_toArray, List.set_cons_zero, List.set_cons_succ])
              refine wy_gen (fun W => Fresh w W ∧ Blk W W0.heap.size 28 #[.string (strB (List.replicate N 0)), .string (strB (List.replicate M 0)), .bool b]) ⟨hHeld, ((hL.set 0 (.string (strB (List.replicate N 0)))).set 1 (.string (strB (List.replicate M 0)))).set 2 (.bool b)⟩ ?_
              rintro WZ ⟨hHeldZ, hZ⟩
              refine wpAnyH_done (by kernel_rfl) ?_ _
              go_wp2_with fail
              go_meet
              case rel => exact ⟨_, rfl, hZ, hHeldZ⟩
      · skip
        go_simp
        refine hK.out _ _ (hHeld.allocS _) (fun hHeld => ?_)
        clear hK K
        (try simp only [Act.put, List.getElem_toArray, List.getElem_cons_zero, List.getElem_cons_succ, List.setIfInBounds_toArray, List.set_cons_zero, List.set_cons_succ])
        refine wy_gen (fun W => Fresh w W ∧ Blk W W0.heap.size 28 #[.string ⟨#[]⟩, .string ⟨#[]⟩, .bool false] ∧ Blk W V31.heap.size 5 (bytesA (List.replicate M 0))) ⟨hHeld, hL.alloc _, newN V31 M⟩ ?_
        clear hHeld hL
        rintro V35 ⟨hHeld, hL, hM⟩
        refine wpAnyH_ready (rs := [1, 5]) (by kernel_rfl) (by simp) ?_
        refine AllReadyH.cons rfl (fun K hK => ?_) (AllReadyH.cons rfl (fun K hK => ?_) AllReadyH.nil)
        · skip
          go_simp
          refine hK.out _ _ (hHeld.allocS _) (fun hHeld => ?_)
          clear hK K
          (try simp only [Act.put, List.getElem_toArray, List.getElem_cons_zero, List.getElem_cons_succ, List.setIfInBounds_toArray, List.set_cons_zero, List.set_cons_succ])
          refine wy_gen (fun W => Fresh w W ∧ Blk W W0.heap.size 28 #[.string ⟨#[]⟩, .string ⟨#[]⟩, .bool false] ∧ Blk W V31.heap.size 5 (bytesA (List.replicate M 0)) ∧ Blk W V35.heap.size 5 (bytesA (List.replicate N 0))) ⟨hHeld, hL.alloc _, hM.alloc _, newN V35 N⟩ ?_
          clear hHeld hL hM
          rintro V36 ⟨hHeld, hL, hM, hN⟩
          refine wpAnyH_ready (rs := [2, 5]) (by kernel_rfl) (by simp) ?_
          refine AllReadyH.cons rfl (fun K hK => ?_) (AllReadyH.cons rfl (fun K hK => ?_) AllReadyH.nil)
          · skip
            have hcvN := run_str (P := Try.prog) (BS.row (l := List.replicate N 0) hN) 29 9 5 Try.underlying29 Try.underlying5 Try.underlying9 N
            rw [List.length_replicate] at hcvN
            go_simp
            refine hK.out _ _ hHeld (fun hHeld => ?_)
            clear hK K
            (try simp only [Act.put, List.getElem_toArray, List.getElem_cons_zero, List.getElem_cons_succ, List.setIfInBounds_toArray, List.set_cons_zero, List.set_cons_succ])
            refine wpAnyH_ready (rs := [5]) (by kernel_rfl) (by simp) ?_
            refine AllReadyH.cons rfl (fun K hK => ?_) AllReadyH.nil
            · skip
              have hcvM := run_str (P := Try.prog) (BS.row (l := List.replicate M 0) hM) 29 9 5 Try.underlying29 Try.underlying5 Try.underlying9 M
              rw [List.length_replicate] at hcvM
              go_simp
              refine hK.out _ _ hHeld (fun hHeld => ?_)
              clear hK K
              (try simp only [Act.put, List.getElem_toArray, List.getElem_cons_zero, List.getElem_cons_succ, List.setIfInBounds_toArray, List.set_cons_zero, List.set_cons_succ])
              refine wpAnyH_take (i := 6) (v := ?_) rfl (by kernel_rfl) (by kernel_rfl) (by kernel_rfl) (fun _ _ _ h => h) (Or.inl ⟨by rfl, ?_⟩) (by assumption) ?_; rotate_left; focus (intro w hSw; (try dsimp only at hSw); go_simp; (try with_reducible rfl); done)
              (try simp only [Act.put, List.getElem_toArray, List.getElem_cons_zero, List.getElem_cons_succ, List.setIfInBounds_toArray, List.set_cons_zero, List.set_cons_succ])
              refine wpAnyH_take (i := 8) (v := ?_) rfl (by kernel_rfl) (by kernel_rfl) (by kernel_rfl) (fun _ _ _ h => h) (Or.inl ⟨by rfl, ?_⟩) (by assumption) ?_; rotate_left; focus (intro w hSw; (try dsimp only at hSw); go_simp; (try with_reducible rfl); done)
              (try simp only [Act.put, List.getElem_toArray, List.getElem_cons_zero, List.getElem_cons_succ, List.setIfInBounds_toArray, List.set_cons_zero, List.set_cons_succ])
              obtain ⟨l0, l1, l2⟩ := hL.c3
              have y0 := hL.frozen 0
              have y1 := hL.frozen 1
              have y2 := hL.frozen 2
              refine wpAnyH_ready (rs := [10]) (by kernel_rfl) (by simp) ?_
              refine AllReadyH.cons rfl (fun K hK => ?_) AllReadyH.nil
              go_simp
              refine hK.out _ _ (by repeat (first | with_reducible exact hHeld | (with_reducible refine Fresh.step2 ?_ ?_; focus (exact hGe)))) (fun hHeld => ?_)
              clear hK K
              (try simp only [Act.put, List.getElem_toArray, List.getElem_cons_zero, List.getElem_cons_succ, List.setIfInBounds_toArray, List.set_cons_zero, List.set_cons_succ])
              refine wy_gen (fun W => Fresh w W ∧ Blk W W0.heap.size 28 #[.string (strB (List.replicate N 0)), .string (strB (List.replicate M 0)), .bool b]) ⟨hHeld, ((hL.set 0 (.string (strB (List.replicate N 0)))).set 1 (.string (strB (List.replicate M 0)))).set 2 (.bool b)⟩ ?_
              rintro WZ ⟨hHeldZ, hZ⟩
              refine wpAnyH_done (by kernel_rfl) ?_ _
              go_wp2_with fail
              go_meet
              case rel => exact ⟨_, rfl, hZ, hHeldZ⟩
          · skip
            have hcvM := run_str (P := Try.prog) (BS.row (l := List.replicate M 0) hM) 29 9 5 Try.underlying29 Try.underlying5 Try.underlying9 M
            rw [List.length_replicate] at hcvM
            go_simp
            refine hK.out _ _ hHeld (fun hHeld => ?_)
            clear hK K
            (try simp only [Act.put, List.getElem_toArray, List.getElem_cons_zero, List.getElem_cons_succ, List.setIfInBounds_toArray, List.set_cons_zero, List.set_cons_succ])
            refine wpAnyH_ready (rs := [2]) (by kernel_rfl) (by simp) ?_
            refine AllReadyH.cons rfl (fun K hK => ?_) AllReadyH.nil
            · skip
              have hcvN := run_str (P := Try.prog) (BS.row (l := List.replicate N 0) hN) 29 9 5 Try.underlying29 Try.underlying5 Try.underlying9 N
              rw [List.length_replicate] at hcvN
              go_simp
              refine hK.out _ _ hHeld (fun hHeld => ?_)
              clear hK K
              (try simp only [Act.put, List.getElem_toArray, List.getElem_cons_zero, List.getElem_cons_succ, List.setIfInBounds_toArray, List.set_cons_zero, List.set_cons_succ])
              refine wpAnyH_take (i := 6) (v := ?_) rfl (by kernel_rfl) (by kernel_rfl) (by kernel_rfl) (fun _ _ _ h => h) (Or.inl ⟨by rfl, ?_⟩) (by assumption) ?_; rotate_left; focus (intro w hSw; (try dsimp only at hSw); go_simp; (try with_reducible rfl); done)
              (try simp only [Act.put, List.getElem_toArray, List.getElem_cons_zero, List.getElem_cons_succ, List.setIfInBounds_toArray, List.set_cons_zero, List.set_cons_succ])
              refine wpAnyH_take (i := 8) (v := ?_) rfl (by kernel_rfl) (by kernel_rfl) (by kernel_rfl) (fun _ _ _ h => h) (Or.inl ⟨by rfl, ?_⟩) (by assumption) ?_; rotate_left; focus (intro w hSw; (try dsimp only at hSw); go_simp; (try with_reducible rfl); done)
              (try simp only [Act.put, List.getElem_toArray, List.getElem_cons_zero, List.getElem_cons_succ, List.setIfInBounds_toArray, List.set_cons_zero, List.set_cons_succ])
              obtain ⟨l0, l1, l2⟩ := hL.c3
              have y0 := hL.frozen 0
              have y1 := hL.frozen 1
              have y2 := hL.frozen 2
              refine wpAnyH_ready (rs := [10]) (by kernel_rfl) (by simp) ?_
              refine AllReadyH.cons rfl (fun K hK => ?_) AllReadyH.nil
              go_simp
              refine hK.out _ _ (by repeat (first | with_reducible exact hHeld | (with_reducible refine Fresh.step2 ?_ ?_; focus (exact hGe)))) (fun hHeld => ?_)
              clear hK K
              (try simp only [Act.put, List.getElem_toArray, List.getElem_cons_zero, List.getElem_cons_succ, List.setIfInBounds_toArray, List.set_cons_zero, List.set_cons_succ])
              refine wy_gen (fun W => Fresh w W ∧ Blk W W0.heap.size 28 #[.string (strB (List.replicate N 0)), .string (strB (List.replicate M 0)), .bool b]) ⟨hHeld, ((hL.set 0 (.string (strB (List.replicate N 0)))).set 1 (.string (strB (List.replicate M 0)))).set 2 (.bool b)⟩ ?_
              rintro WZ ⟨hHeldZ, hZ⟩
              refine wpAnyH_done (by kernel_rfl) ?_ _
              go_wp2_with fail
              go_meet
              case rel => exact ⟨_, rfl, hZ, hHeldZ⟩
        · skip
          have hcvM := run_str (P := Try.prog) (BS.row (l := List.replicate M 0) hM) 29 9 5 Try.underlying29 Try.underlying5 Try.underlying9 M
          rw [List.length_replicate] at hcvM
          go_simp
          refine hK.out _ _ hHeld (fun hHeld => ?_)
          clear hK K
          (try simp only [Act.put, List.getElem_toArray, List.getElem_cons_zero, List.getElem_cons_succ, List.setIfInBounds_toArray, List.set_cons_zero, List.set_cons_succ])
          refine wpAnyH_ready (rs := [1]) (by kernel_rfl) (by simp) ?_
          refine AllReadyH.cons rfl (fun K hK => ?_) AllReadyH.nil
          · skip
            go_simp
            refine hK.out _ _ (hHeld.allocS _) (fun hHeld => ?_)
            clear hK K
            (try simp only [Act.put, List.getElem_toArray, List.getElem_cons_zero, List.getElem_cons_succ, List.setIfInBounds_toArray, List.set_cons_zero, List.set_cons_succ])
            refine wy_gen (fun W => Fresh w W ∧ Blk W W0.heap.size 28 #[.string ⟨#[]⟩, .string ⟨#[]⟩, .bool false] ∧ Blk W V31.heap.size 5 (bytesA (List.replicate M 0)) ∧ Blk W V35.heap.size 5 (bytesA (List.replicate N 0))) ⟨hHeld, hL.alloc _, hM.alloc _, newN V35 N⟩ ?_
            clear hHeld hL hM
            rintro V37 ⟨hHeld, hL, hM, hN⟩
            refine wpAnyH_ready (rs := [2]) (by kernel_rfl) (by simp) ?_
            refine AllReadyH.cons rfl (fun K hK => ?_) AllReadyH.nil
            · skip
              have hcvN := run_str (P := Try.prog) (BS.row (l := List.replicate N 0) hN) 29 9 5 Try.underlying29 Try.underlying5 Try.underlying9 N
              rw [List.length_replicate] at hcvN
              go_simp
              refine hK.out _ _ hHeld (fun hHeld => ?_)
              clear hK K
              (try simp only [Act.put, List.getElem_toArray, List.getElem_cons_zero, List.getElem_cons_succ, List.setIfInBounds_toArray, List.set_cons_zero, List.set_cons_succ])
              refine wpAnyH_take (i := 6) (v := ?_) rfl (by kernel_rfl) (by kernel_rfl) (by kernel_rfl) (fun _ _ _ h => h) (Or.inl ⟨by rfl, ?_⟩) (by assumption) ?_; rotate_left; focus (intro w hSw; (try dsimp only at hSw); go_simp; (try with_reducible rfl); done)
              (try simp only [Act.put, List.getElem_toArray, List.getElem_cons_zero, List.getElem_cons_succ, List.setIfInBounds_toArray, List.set_cons_zero, List.set_cons_succ])
              refine wpAnyH_take (i := 8) (v := ?_) rfl (by kernel_rfl) (by kernel_rfl) (by kernel_rfl) (fun _ _ _ h => h) (Or.inl ⟨by rfl, ?_⟩) (by assumption) ?_; rotate_left; focus (intro w hSw; (try dsimp only at hSw); go_simp; (try with_reducible rfl); done)
              (try simp only [Act.put, List.getElem_toArray, List.getElem_cons_zero, List.getElem_cons_succ, List.setIfInBounds_toArray, List.set_cons_zero, List.set_cons_succ])
              obtain ⟨l0, l1, l2⟩ := hL.c3
              have y0 := hL.frozen 0
              have y1 := hL.frozen 1
              have y2 := hL.frozen 2
              refine wpAnyH_ready (rs := [10]) (by kernel_rfl) (by simp) ?_
              refine AllReadyH.cons rfl (fun K hK => ?_) AllReadyH.nil
              go_simp
              refine hK.out _ _ (by repeat (first | with_reducible exact hHeld | (with_reducible refine Fresh.step2 ?_ ?_; focus (exact hGe)))) (fun hHeld => ?_)
              clear hK K
              (try simp only [Act.put, List.getElem_toArray, List.getElem_cons_zero, List.getElem_cons_succ, List.setIfInBounds_toArray, List.set_cons_zero, List.set_cons_succ])
              refine wy_gen (fun W => Fresh w W ∧ Blk W W0.heap.size 28 #[.string (strB (List.replicate N 0)), .string (strB (List.replicate M 0)), .bool b]) ⟨hHeld, ((hL.set 0 (.string (strB (List.replicate N 0)))).set 1 (.string (strB (List.replicate M 0)))).set 2 (.bool b)⟩ ?_
              rintro WZ ⟨hHeldZ, hZ⟩
              refine wpAnyH_done (by kernel_rfl) ?_ _
              go_wp2_with fail
              go_meet
              case rel => exact ⟨_, rfl, hZ, hHeldZ⟩
  case rest =>
  obtain ⟨b7, rfl, hb7, hf7⟩ := hcut
  have HB7 := Lib.hid hb7
  have HF7 := Lib.hid hf7
  obtain ⟨x, hx⟩ : ∃ x : Ln, x = ⟨List.replicate N 0, List.replicate M 0, b⟩ := ⟨_, rfl⟩
  have hxn : x.n.length = N := by rw [hx]; simp
  have hxm : x.v.length = M := by rw [hx]; simp
  have hSN : strB (List.replicate N 0) = strB x.n := by rw [hx]
  have hSM : strB (List.replicate M 0) = strB x.v := by rw [hx]
  have hxb : b = x.nv := by rw [hx]
  rw [hSN, hSM, hxb] at HB7
  have h2 : ∀ (W : World) (g : Nat), Blk W g 28 #[.string ⟨#[]⟩, .string ⟨#[]⟩, .bool false, .string (strB x.n), .string (strB x.v), .bool x.nv] → Many Ln.cells 3 W (some ⟨g, 0, none⟩) [⟨[], [], false⟩, x] := fun W g h => many_two W g ⟨[], [], false⟩ x h
  have HEN : Hid (∀ (W : World) (g : Nat), Blk W g 28 #[.string ⟨#[]⟩, .string ⟨#[]⟩, .bool false, .string (strB x.n), .string (strB x.v), .bool x.nv] → Calls Try.prog 13 #[.slice (some ⟨g, 0, none⟩) 2 2] W (EncRP [⟨[], [], false⟩, x] W)) := Lib.hid (fun W g h => en_encode (some ⟨g, 0, none⟩) 2 [⟨[], [], false⟩, x] W (h2 W g h) (by simp) (fun y hy => by
    simp only [List.mem_cons, List.not_mem_nil, or_false] at hy
    rcases hy with rfl | rfl
    · simp
    · omega))
  have HLE : Hid (∀ (W : World) (g : Nat), Blk W g 28 #[.string (strB x.n), .string (strB x.v), .bool x.nv] → Calls Try.prog 14 #[.slice (some ⟨g, 0, none⟩) 1 1] W fun e w' => ∃ m : Nat, e = .returned (.int .i64 (m : Int)) ∧ (((∀ y ∈ [x], y.fits = true) ∧ ∃ F, RowE [x] F ∧ m = F.length) ∨ ((∃ y ∈ [x], y.fits = false) ∧ m = 0)) ∧ Fresh W w') := Lib.hid (fun W g h => en_len (some ⟨g, 0, none⟩) 1 [x] W (fun _ => ⟨g, 0, rfl, h.lt, fun i hi j hj => by
    rw [Nat.zero_add, h.cell]
    have hi2 : i < 1 := hi
    match i, j, hi2, hj with
    | 0, 0, _, _ => rfl
    | 0, 1, _, _ => rfl
    | 0, 2, _, _ => rfl⟩) (by simp) (fun y hy => by
    simp only [List.mem_cons, List.not_mem_nil, or_false] at hy
    subst hy
    omega))
  have HLY := Lib.hid (fun W (h : x.fits = true) => en_line x W h)
  have HLN := Lib.hid (fun W (h : x.fits = false) => en_line_no x W h (by omega) (by omega))
  unfold Ln.val at HLY HLN
  have HFT : Hid (x.fits = (decide (N ≤ 4096) && decide (M ≤ 4096))) := Lib.hid (by unfold Ln.fits; rw [hxn, hxm])
  clear h2 hx hxn hxm hSN hSM hxb hb7 hf7 hmkN hmkM hn hm
  obtain ⟨q0, q1, q2⟩ := HB7.out.c3
  cases hfit : x.fits with
  | false =>
    have HL2 := Lib.hid (fun W => HLN.out W hfit)
    have hbig : 4096 < N ∨ 4096 < M := by
      have := HFT.out
      rw [hfit] at this
      have h3 := this.symm
      simp only [Bool.and_eq_false_iff, decide_eq_false_iff_not] at h3
      omega
    have hbd : (decide ((4096 : Int) < (N : Int)) || decide ((4096 : Int) < (M : Int))) = true := by
      rcases hbig with h | h
      · rw [show decide ((4096 : Int) < (N : Int)) = true from decide_eq_true (by omega)]; rfl
      · rw [show decide ((4096 : Int) < (M : Int)) = true from decide_eq_true (by omega)]; simp
    have HEX : Hid (∀ W e W', EncRP [⟨[], [], false⟩, x] W e W' → e = .returned (.tuple #[.slice none 0 0, .int .i64 11]) ∧ Fresh W W') := Lib.hid (fun W e W' h => by
      rcases h with ⟨hall, _⟩ | ⟨_, he, hf⟩
      · have := hall x (by simp)
        rw [hfit] at this; cases this
      · exact ⟨he, hf⟩)
    have HLX : Hid (∀ (W : World) (g : Nat), Blk W g 28 #[.string (strB x.n), .string (strB x.v), .bool x.nv] → Calls Try.prog 14 #[.slice (some ⟨g, 0, none⟩) 1 1] W fun e w' => e = .returned (.int .i64 0) ∧ Fresh W w') := Lib.hid (fun W g h => (HLE.out W g h).mono (fun e w' hh => by
      obtain ⟨m, he, hc, hf⟩ := hh
      rcases hc with ⟨hall, _⟩ | ⟨_, hm⟩
      · have := hall x (by simp)
        rw [hfit] at this; cases this
      · subst hm; exact ⟨he, hf⟩))
    clear HLY HLN HLE HFT hfit
    generalize strB x.n = SN at *
    generalize strB x.v = SV at *
    generalize x.nv = xb at *
    go_wp2_with fail
    with_reducible refine (HL2.out _).mono ?_
    rintro e w1 ⟨rfl, hf1⟩
    have HB1 := Lib.hid (HB7.out.fresh hf1)
    have HF1 := Lib.hid (HF7.out.trans hf1)
    obtain ⟨r0, r1, r2⟩ := HB1.out.c3
    clear hf1 q0 q1 q2
    go_wp2_with fail
    refine (HEN.out _ w1.heap.size (Blk.new w1 _ _)).mono ?_
    rintro e w2 he
    obtain ⟨rfl, hf2⟩ := HEX.out _ _ _ he
    have HB2 := Lib.hid (HB1.out.fresh (Fresh.tA hf2))
    have HF2 := Lib.hid (HF1.out.trans (Fresh.tA hf2))
    obtain ⟨s0, s1, s2⟩ := HB2.out.c3
    clear hf2 he r0 r1 r2
    rcases hbig with hbN | hbM
    · have b1 : decide ((4096 : Int) < (N : Int)) = true := decide_eq_true (by omega)
      have b1i : (4096 : Int) < (N : Int) := by omega
      go_wp2_with fail
      refine (HLX.out _ w2.heap.size (Blk.new w2 _ _)).mono ?_
      rintro e w3 ⟨rfl, hf3⟩
      have HF3 := Lib.hid (HF2.out.trans (Fresh.tA hf3))
      clear hf3 s0 s1 s2
      go_wp2_with fail
      with_reducible refine (HW.out _).mono ?_
      rintro e w4 ⟨rfl, hf4⟩
      go_wp2
      exact bodyPost_ret (v := .bool true) (by simp [results, Try.f6, go_sem]) rfl ⟨rfl, HF3.out.trans hf4⟩
    · by_cases hbN : 4096 < N
      · have b1 : decide ((4096 : Int) < (N : Int)) = true := decide_eq_true (by omega)
        have b1i : (4096 : Int) < (N : Int) := by omega
        go_wp2_with fail
        refine (HLX.out _ w2.heap.size (Blk.new w2 _ _)).mono ?_
        rintro e w3 ⟨rfl, hf3⟩
        have HF3 := Lib.hid (HF2.out.trans (Fresh.tA hf3))
        clear hf3 s0 s1 s2
        go_wp2_with fail
        with_reducible refine (HW.out _).mono ?_
        rintro e w4 ⟨rfl, hf4⟩
        go_wp2
        exact bodyPost_ret (v := .bool true) (by simp [results, Try.f6, go_sem]) rfl ⟨rfl, HF3.out.trans hf4⟩
      · have b1 : decide ((4096 : Int) < (N : Int)) = false := decide_eq_false (by omega)
        have b1i : ¬ (4096 : Int) < (N : Int) := by omega
        have b2 : decide ((4096 : Int) < (M : Int)) = true := decide_eq_true (by omega)
        have b2i : (4096 : Int) < (M : Int) := by omega
        go_wp2_with fail
        refine (HLX.out _ w2.heap.size (Blk.new w2 _ _)).mono ?_
        rintro e w3 ⟨rfl, hf3⟩
        have HF3 := Lib.hid (HF2.out.trans (Fresh.tA hf3))
        clear hf3 s0 s1 s2
        go_wp2_with fail
        with_reducible refine (HW.out _).mono ?_
        rintro e w4 ⟨rfl, hf4⟩
        go_wp2
        exact bodyPost_ret (v := .bool true) (by simp [results, Try.f6, go_sem]) rfl ⟨rfl, HF3.out.trans hf4⟩
  | true =>
    have HL2 := Lib.hid (fun W => HLY.out W hfit)
    have hsm : N ≤ 4096 ∧ M ≤ 4096 := by
      have := HFT.out
      rw [hfit] at this
      have h3 := this.symm
      simpa only [Bool.and_eq_true, decide_eq_true_eq] using h3
    have b1 : decide ((4096 : Int) < (N : Int)) = false := decide_eq_false (by omega)
    have b1i : ¬ (4096 : Int) < (N : Int) := by omega
    have b2 : decide ((4096 : Int) < (M : Int)) = false := decide_eq_false (by omega)
    have b2i : ¬ (4096 : Int) < (M : Int) := by omega
    have HEX : Hid (∀ P, IsLine x P → ∀ W e W', EncRP [⟨[], [], false⟩, x] W e W' → ∃ (A : Option Addr) (c k : Nat), e = .returned (.tuple #[.slice A k c, .int .i64 0]) ∧ P.length < k ∧ Fresh W W') := Lib.hid (fun P hP W e W' h => by
      rcases h with ⟨_, F, A, c, he, ⟨P0, F', h0, ⟨P1, F'', h1, h2, h3⟩, h4⟩, ho, hf⟩ | ⟨⟨y, hy, hno⟩, _⟩
      · have hF2 : F'' = [] := h2
        subst hF2
        have e1 := hP.uniq h1
        subst e1
        have hp0 := (pfR_bd (pf_line h0 (by decide) [])).1
        refine ⟨A, c, F.length, he, ?_, hf⟩
        rw [h4, h3]
        simp only [List.length_append, List.length_nil]
        omega
      · simp only [List.mem_cons, List.not_mem_nil, or_false] at hy
        rcases hy with rfl | rfl
        · exact absurd hno (by decide)
        · rw [hfit] at hno; cases hno)
    have HLX : Hid (∀ P, IsLine x P → ∀ (W : World) (g : Nat), Blk W g 28 #[.string (strB x.n), .string (strB x.v), .bool x.nv] → Calls Try.prog 14 #[.slice (some ⟨g, 0, none⟩) 1 1] W fun e w' => e = .returned (.int .i64 (P.length : Int)) ∧ Fresh W w') := Lib.hid (fun P hP W g h => (HLE.out W g h).mono (fun e w' hh => by
      obtain ⟨m, he, hc, hf⟩ := hh
      rcases hc with ⟨_, F, ⟨P1, F'', h1, h2, h3⟩, hm⟩ | ⟨⟨y, hy, hno⟩, _⟩
      · have hF2 : F'' = [] := h2
        subst hF2
        have e1 := hP.uniq h1
        subst e1
        rw [h3, List.append_nil] at hm
        subst hm
        exact ⟨he, hf⟩
      · simp only [List.mem_cons, List.not_mem_nil, or_false] at hy
        subst hy
        rw [hfit] at hno; cases hno))
    clear HLY HLN HLE HFT
    go_wp2_with fail
    with_reducible refine (HL2.out _).mono ?_
    rintro e w1 ⟨P, A1, c1, rfl, hP, _, hf1⟩
    have HB1 := Lib.hid (HB7.out.fresh hf1)
    have HF1 := Lib.hid (HF7.out.trans hf1)
    have HEX1 := Lib.hid (HEX.out P hP)
    have HLX1 := Lib.hid (HLX.out P hP)
    obtain ⟨r0, r1, r2⟩ := HB1.out.c3
    clear hf1 q0 q1 q2 hP HEX HLX hfit
    generalize strB x.n = SN at *
    generalize strB x.v = SV at *
    generalize x.nv = xb at *
    generalize P.length = pl at *
    go_wp2_with fail
    refine (HEN.out _ w1.heap.size (Blk.new w1 _ _)).mono ?_
    rintro e w2 he
    obtain ⟨A2, c2, k2, rfl, hlt, hf2⟩ := HEX1.out _ _ _ he
    have HB2 := Lib.hid (HB1.out.fresh (Fresh.tA hf2))
    have HF2 := Lib.hid (HF1.out.trans (Fresh.tA hf2))
    obtain ⟨s0, s1, s2⟩ := HB2.out.c3
    have k1 : (pl : Int) < (k2 : Int) := by omega
    have k1d : decide ((pl : Int) < (k2 : Int)) = true := decide_eq_true k1
    clear hf2 he r0 r1 r2
    go_wp2_with fail
    refine (HLX1.out _ w2.heap.size (Blk.new w2 _ _)).mono ?_
    rintro e w3 ⟨rfl, hf3⟩
    have HF3 := Lib.hid (HF2.out.trans (Fresh.tA hf3))
    clear hf3 s0 s1 s2
    go_wp2_with fail
    with_reducible refine (HW.out _).mono ?_
    rintro e w4 ⟨rfl, hf4⟩
    go_wp2
    exact bodyPost_ret (v := .bool true) (by simp [results, Try.f6, go_sem]) rfl ⟨rfl, HF3.out.trans hf4⟩
end Go.Proofs.Ytdoddpigiencjaa

