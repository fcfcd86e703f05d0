/-
  The document's code: the bits of a text, with the ones behind.
-/
import Derived.Test.YtdoddpigiencjaaHufF
namespace Go.Proofs.Ytdoddpigiencjaa
set_option linter.unusedVariables false
set_option linter.unusedSimpArgs false
open Go.RowKit
/-- The table of all codes, in new memory. -/
structure CodsR (w : World) (b : Nat) (W : World) : Prop where
  ge : w.heap.size ≤ b
  row : Blk W b 122 codC
  fr : Fresh w W
theorem CodsR.cell {w W : World} {b : Nat} (h : CodsR w b W) {y : Nat} (hy : y < 257) : W.cell? ⟨b, y, none⟩ = some (.string (txB (codeB y))) := (h.row.cell y).trans (codC_get hy)
theorem CodsR.fresh {w W W' : World} {b : Nat} (h : CodsR w b W) (hf : Fresh W W') : CodsR w b W' := ⟨h.ge, h.row.fresh hf, h.fr.trans hf⟩
theorem codC_all : codC.all (·.oneCell') = true := by
  rw [Array.all_eq_true_iff_forall_mem]
  intro v hv
  simp only [codC, oC, List.mem_toArray, List.mem_map] at hv
  obtain ⟨y, _, rfl⟩ := hv
  rfl
theorem codC_info : (Try.prog.info? 122).map (·.size) = some codC.size := by rw [codC, oC_size]; kernel_rfl
theorem zero_cods (W : World) : (zeroValue 122).run Try.prog W = .ok (.agg (oC 0)) W := by rw [oC_zero]; kernel_rfl
theorem store_cods (W : World) : (storeCells ⟨W.heap.size, 0, none⟩ codC.toList).run Try.prog (W.alloc (.cells (oC 0) 122)) = .ok () ((W.alloc (.cells (oC 0) 122)).setRow W.heap.size codC) := by
  have h := run_storeCells_from (P := Try.prog) W.heap.size 122 codC.toList 0 (oC 0) (W.alloc (.cells (oC 0) 122)) (Blk.new W 122 (oC 0)) (by simp [codC, oC_size]) (fun v hv => (Array.all_eq_true_iff_forall_mem.1 codC_all) v (by simpa using hv))
  simpa using h
theorem cods_new (W : World) : CodsR W W.heap.size ((W.alloc (.cells (oC 0) 122)).setRow W.heap.size codC) :=
  ⟨Nat.le_refl _, setRow_heap _ _ (oC 0) codC _ _ (Blk.new W 122 (oC 0)), Only.fresh (S := fun k => k = W.heap.size) ((Only.of_fresh (Fresh.alloc _ _)).trans ⟨rfl, rfl, rfl, by simp [World.setRow], fun k _ hk => setRow_other _ _ k _ hk⟩) (fun k hk h => by omega)⟩
theorem CodsR.from {w w1 W : World} {b : Nat} (h : CodsR w1 b W) (hf : Fresh w w1) : CodsR w b W := ⟨Nat.le_trans hf.size h.ge, h.row, hf.trans h.fr⟩
theorem encB_take {l : List UInt8} {k : Nat} (h : k < l.length) : encB (l.take (k + 1)) = encB (l.take k) ++ codeB l[k].toNat := by
  rw [List.take_succ_eq_append_getElem h, encB_append]
  simp [encB]
/-- How many ones stand behind. -/
theorem pads (z : Nat) : ∃ P, P ≤ 7 ∧ (z + P) % 8 = 0 ∧ ∀ j, j < P → (z + j) % 8 ≠ 0 := ⟨(8 - z % 8) % 8, by omega, by omega, fun j h => by omega⟩
set_option maxRecDepth 100000 in
set_option maxHeartbeats 3200000 in
theorem rf_text (w : World) (l : List UInt8) (hl : l.length ≤ 100000000) : Calls Try.prog 67 #[.string (strB l)] w fun e w' => (∃ p, p ≤ 7 ∧ (szB l + p) % 8 = 0 ∧ e = .returned (.string (txB (encB l ++ ones p)))) ∧ Fresh w w' := by
  obtain ⟨n, hn⟩ : ∃ n, l.length = n := ⟨_, rfl⟩
  have HN := Lib.hid hn
  obtain ⟨S, hS⟩ : ∃ S, strB l = S := ⟨_, rfl⟩
  have HS := Lib.hid hS
  have hsl : S.size = n := by rw [← hS, strB_size, hn]
  rw [hn] at hl
  rw [hS]
  clear hS hn
  have HC := Lib.hid (rf_codes ·)
  go_enter Try.func67, Try.ntmps67
  have hz := zero_cods
  have hst := store_cods
  go_upto_region 2 with (go_at_call 73; with_reducible refine (HC.out _).mono ?_; rintro e w1 ⟨rfl, hf⟩)
  refine wp_gen (fun W => CodsR w w1.heap.size W) ((cods_new w1).from hf) ?_
  intro W0 hW0
  generalize w1.heap.size = bk at *
  have HW0 := Lib.hid hW0
  clear hz hst hW0 hf HC
  clear w1
  obtain ⟨Z, hZ⟩ : ∃ Z, szB l = Z := ⟨_, rfl⟩
  have HZ := Lib.hid hZ
  obtain ⟨P, hP7, hP, hPj⟩ := pads Z
  have HFIN : Hid (∀ (e : Ending) (W : World), e = .returned (.string (txB (encB l ++ ones P))) → CodsR w bk W → (∃ p, p ≤ 7 ∧ (szB l + p) % 8 = 0 ∧ e = .returned (.string (txB (encB l ++ ones p)))) ∧ Fresh w W) := Lib.hid (fun e W he hc => ⟨⟨P, hP7, by rw [hZ]; exact hP, he⟩, hc.fr⟩)
  have hZn : Z ≤ 3000000000 := by rw [← hZ]; have := szB_le l; rw [HN.out] at this; omega
  have HP := Lib.hid (And.intro hP7 (And.intro hP hPj))
  clear hP7 hP hPj hZ
  go_wp2
  go_loopw [4, 5] (fun o i wr => ∃ k : Nat, k ≤ n ∧ i = .int .i64 (k : Int) ∧ o = .string (txB (encB (l.take k))) ∧ CodsR w bk wr) (fun _ i _ => n - (intOf i).toNat)
  case atStart => exact ⟨0, by omega, rfl, rfl, HW0.out⟩
  case round =>
    obtain ⟨k, hk, rfl, rfl, hc⟩ := hrel
    clear HW0
    by_cases hlt : k < n
    · have hlt' : (k : Int) < (n : Int) := by omega
      have h0 : (0 : Int) ≤ (k : Int) := by omega
      have hkl : k < l.length := by rw [HN.out]; exact hlt
      have hk2 : k < S.size := by omega
      have hg : S[k] = l[k] := by
        have := HS.out
        subst this
        rfl
      have HTK := Lib.hid (encB_take hkl)
      have hsz : (txB (encB (l.take k))).size ≤ 3000000000 := by
        rw [txB_size]
        have := szB_le (l.take k)
        unfold szB at this
        have h2 : (l.take k).length ≤ n := by rw [List.length_take]; omega
        omega
      generalize l[k] = c at *
      have hcl := UInt8.toNat_lt c
      have hc7 : (c.toNat : Int) < 257 := by omega
      have hcell := hc.cell (y := c.toNat) (by omega)
      have hcs : (txB (codeB c.toNat)).size ≤ 30 := by rw [txB_size, codeB_length]; exact (ln_ok (s := c.toNat) (by omega)).2.1
      have HCAT : Hid (txB (encB (l.take k)) ++ txB (codeB c.toNat) = txB (encB (l.take (k + 1)))) := Lib.hid (by rw [txB_append, HTK.out])
      have HC := Lib.hid hc
      clear HTK hc
      generalize txB (encB (l.take k)) = T at *
      generalize txB (codeB c.toNat) = U at *
      have hcat : ¬ 9223372036854775807 < T.size + U.size := by omega
      go_wp2
      exact ⟨⟨k + 1, by omega, rfl, by rw [← HCAT.out], HC.out⟩, by simp [intOf]; omega⟩
    · obtain rfl : k = n := by omega
      rw [List.take_of_length_le (by rw [HN.out]; exact Nat.le_refl _)]
      have HC := Lib.hid hc
      clear hc
      rw [show encB l = encB l ++ ones 0 by simp [ones]]
      go_wp2
      go_loopw [4] (fun o wr => ∃ j : Nat, j ≤ P ∧ o = .string (txB (encB l ++ ones j)) ∧ CodsR w bk wr) (fun o _ => Z + P - match o with | .string s => s.size | _ => 0)
      case atStart => exact ⟨0, by omega, rfl, HC.out⟩
      case round =>
        obtain ⟨j, hj, rfl, hc⟩ := hrel
        have hS : (txB (encB l ++ ones j)).size = Z + j := by rw [txB_size, List.length_append, ones, List.length_replicate, ← HZ.out]; rfl
        by_cases hj2 : j < P
        · have h8 := HP.out.2.2 j hj2
          have hn : txB (encB l ++ ones j) ++ txB [true] = txB (encB l ++ ones (j + 1)) := by rw [txB_append, List.append_assoc]; unfold ones; rw [← List.replicate_succ']
          have HNN := Lib.hid hn
          clear hn
          generalize hSg : txB (encB l ++ ones j) = T at *
          have hcat : ¬ 9223372036854775807 < T.size + 1 := by have := HP.out.1; omega
          have hm8 : ¬ (T.size : Int) % 8 = 0 := by omega
          have hm9 : ((T.size : Int) % 8 != 0) = true := by simpa using hm8
          have hsz : (T ++ ({ data := #[49] } : ByteArray)).size = T.size + 1 := by rw [ByteArray.size_append]; rfl
          go_wp2
          exact ⟨⟨j + 1, by omega, by rw [← HNN.out]; rfl, hc⟩, by show Z + P - (T ++ ({ data := #[49] } : ByteArray)).size < Z + P - T.size; omega⟩
        · obtain rfl : j = P := by omega
          have h8 := HP.out.2.1
          generalize hSg : txB (encB l ++ ones j) = T at *
          have hm8 : (T.size : Int) % 8 = 0 := by omega
          have hm9 : ((T.size : Int) % 8 != 0) = false := by simpa using hm8
          go_wp2
          exact bodyPost_ret (v := .string T) (by simp [results, Try.f67, go_sem]) rfl (HFIN.out _ _ rfl hc)
end Go.Proofs.Ytdoddpigiencjaa

