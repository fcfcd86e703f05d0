/-
  The document's code: all codes as texts.
-/
import Derived.Test.YtdoddpigiencjaaHufD
import Derived.Laws.Strings
import Derived.Laws.Rows
namespace Go.Proofs.Ytdoddpigiencjaa
set_option linter.unusedVariables false
open Go.RowKit
def oS (q y : Nat) : ByteArray := if posF y < q then txB (codeB y) else ByteArray.empty
/-- The texts while the first q codes are laid. -/
def oC (q : Nat) : Array Value := ((List.range 257).map fun y => Value.string (oS q y)).toArray
theorem oC_size (q : Nat) : (oC q).size = 257 := by simp [oC]
theorem oC_get (q : Nat) {y : Nat} (h : y < 257) : (oC q)[y]? = some (.string (oS q y)) := by simp [oC, h]
theorem oC_zero : oC 0 = Array.replicate 257 (.string ByteArray.empty) := by
  apply Array.ext
  · simp [oC]
  · intro i h1 h2
    simp [oC, oS]
theorem oC_set {q x : Nat} (hx : x < 257) (h : posF x = q) : (oC q).setIfInBounds x (.string (txB (codeB x))) = oC (q + 1) := by
  apply Array.ext
  · simp [oC]
  · intro i h1 h2
    have hi : i < 257 := by simpa [oC] using h2
    rw [Array.getElem_setIfInBounds (by simpa [oC] using hi)]
    by_cases e : x = i
    · subst e
      rw [if_pos rfl]
      simp [oC, oS, h]
    · rw [if_neg e]
      have hne : posF i ≠ q := fun h2 => e (posF_inj hx hi (by rw [h, h2]))
      simp only [oC, oS, List.getElem_toArray, List.getElem_map, List.getElem_range]
      by_cases h3 : posF i < q
      · rw [if_pos h3, if_pos (by omega)]
      · rw [if_neg h3, if_neg (by omega)]
def codC : Array Value := oC 257
theorem codC_get {y : Nat} (h : y < 257) : codC[y]? = some (.string (txB (codeB y))) := by
  rw [codC, oC_get _ h, oS, if_pos (sym h).2.2.1]
/-- The text behind q codes. -/
def cT (q : Nat) : List Bool := if q = 0 then [] else codeB (ordF (q - 1))
theorem next_ok : (List.range 256).all (fun q => Nat.ble (ln (ordF q)) (ln (ordF (q + 1))) && Nat.beq (numF (ordF (q + 1))) ((numF (ordF q) + 1) * 2 ^ (ln (ordF (q + 1)) - ln (ordF q)))) = true := by kernel_rfl
theorem nextP {q : Nat} (h : q < 256) : ln (ordF q) ≤ ln (ordF (q + 1)) ∧ numF (ordF (q + 1)) = (numF (ordF q) + 1) * 2 ^ (ln (ordF (q + 1)) - ln (ordF q)) := by
  have := List.all_eq_true.1 next_ok q (List.mem_range.2 h)
  simpa only [Bool.and_eq_true, Nat.ble_eq, Nat.beq_eq] using this
def zB (n : Nat) : List Bool := List.replicate n false
theorem zB_bits (n : Nat) : bitsOf 0 n = zB n := by
  apply List.ext_getElem
  · simp [bitsOf_length, zB]
  · intro i h1 h2
    rw [bitsOf_get]
    simp [zB]
/-- The next code: one more, and noughts behind. -/
theorem code_step {q : Nat} (h : q < 256) : codeB (ordF (q + 1)) = (nxt (codeB (ordF q))).2 ++ zB (ln (ordF (q + 1)) - ln (ordF q)) := by
  obtain ⟨h1, h2⟩ := nextP h
  unfold codeB
  rw [nxt_bits, ← zB_bits, ← bitsOf_cat _ _ _ _ (Nat.pow_pos (by omega)), h2, Nat.add_zero]
  congr 1
  omega
theorem code_first : codeB (ordF 0) = zB 5 := by kernel_rfl
theorem qF_end : plcF 30 + cntF 30 = 257 := by kernel_rfl
structure CdR (w : World) (b0 b1 q : Nat) (W : World) : Prop where
  ge : w.heap.size ≤ b0
  ne : b0 < b1
  r0 : Blk W b0 122 (oC 0)
  r1 : Blk W b1 122 (oC q)
  fr : Fresh w W
theorem CdR.fresh {w W W' : World} {b0 b1 q : Nat} (h : CdR w b0 b1 q W) (hf : Fresh W W') : CdR w b0 b1 q W' := ⟨h.ge, h.ne, h.r0.fresh hf, h.r1.fresh hf, h.fr.trans hf⟩
theorem CdR.set {w W : World} {b0 b1 q x : Nat} (h : CdR w b0 b1 q W) (hx : x < 257) (hp : posF x = q) : CdR w b0 b1 (q + 1) (W.setCell ⟨b1, x, none⟩ (.string (txB (codeB x)))) :=
  ⟨h.ge, h.ne, h.r0.far (by have := h.ne; simp; omega) _, by have := h.r1.set x (.string (txB (codeB x))); rwa [oC_set hx hp] at this, h.fr.step _ _ (by have := h.ge; have := h.ne; simp; omega)⟩
set_option maxRecDepth 100000 in
set_option maxHeartbeats 6400000 in
theorem rf_codes (w : World) : Calls Try.prog 73 #[] w fun e w' => e = .returned (.agg codC) ∧ Fresh w w' := by
  have hz : ∀ W : World, (zeroValue 122).run Try.prog W = .ok (.agg (oC 0)) W := fun W => by rw [oC_zero]; kernel_rfl
  go_enter Try.func73, Try.ntmps73
  go_wp2
  refine wp_gen (fun W => CdR w w.heap.size (w.heap.size + 1) 0 W) ⟨Nat.le_refl _, Nat.lt_succ_self _, (Blk.new w 122 (oC 0)).alloc _, ?_, (Fresh.alloc _ _).trans (Fresh.alloc _ _)⟩ ?_
  case refine_1 =>
    have := Blk.new (w.alloc (.cells (oC 0) 122)) 122 (oC 0)
    rwa [show (w.alloc (.cells (oC 0) 122)).heap.size = w.heap.size + 1 by unfold World.alloc; exact Array.size_push _] at this
  intro W0 hW0
  generalize w.heap.size + 1 = b1 at *
  generalize hb0 : w.heap.size = b0 at *
  have HW0 := Lib.hid hW0
  clear hz hW0
  go_loopw [2, 3] (fun c n wr => ∃ (m q : Nat), 5 ≤ m ∧ m ≤ 31 ∧ n = .int .i64 (m : Int) ∧ q ≤ 257 ∧ (m ≤ 30 → q = plcF m) ∧ (m = 31 → q = 257) ∧ c = .string (txB (cT q)) ∧ CdR w b0 b1 q wr) (fun _ n _ => 31 - (intOf n).toNat)
  case atStart => exact ⟨5, 0, by omega, by omega, rfl, by omega, fun _ => rfl, by omega, rfl, HW0.out⟩
  case round =>
    obtain ⟨m, q, hm5, hm31, rfl, hq, hq1, hq2, rfl, hc⟩ := hrel
    by_cases hm : m ≤ 30
    · have h1 : (m : Int) ≤ 30 := by omega
      have hq3 := hq1 hm
      clear hq1 hq2
      have HC := Lib.hid hc
      clear hc HW0
      go_wp2
      go_loopw [2, 4] (fun c x wr => ∃ (y q : Nat), y ≤ 257 ∧ x = .int .i64 (y : Int) ∧ plcF m + cntK y m = q ∧ c = .string (txB (cT q)) ∧ CdR w b0 b1 q wr) (fun _ x _ => 257 - (intOf x).toNat)
      case atStart => exact ⟨0, q, by omega, rfl, by rw [hq3]; rfl, rfl, HC.out⟩
      case round =>
        obtain ⟨y, q', hy, rfl, hq', rfl, hc⟩ := hrel
        clear HC
        by_cases hy2 : y < 257
        · have h2 : (y : Int) < 257 := by omega
          by_cases hly : ln y = m
          · have H : Hid (∀ W, Calls Try.prog 84 #[.int .i64 (y : Int)] W fun e w' => e = .returned (.int .i64 (m : Int)) ∧ Fresh W w') := Lib.hid fun W => by have := rf_len W y hy2; rwa [hly] at this
            have hpos : posF y = q' := by have := (sym hy2).2.1; rw [hly] at this; omega
            have hord : ordF q' = y := by have := (sym hy2).2.2.2.1; rwa [hpos] at this
            have hq257 : q' < 257 := by have := (sym hy2).2.2.1; omega
            have hcn : cntK (y + 1) m = cntK y m + 1 := by rw [cntK_succ hy2, if_pos hly]
            have hct : cT (q' + 1) = codeB y := by rw [cT, if_neg (by omega), Nat.add_sub_cancel, hord]
            have hcl : (codeB y).length = m := by rw [codeB_length, hly]
            clear hly
            by_cases hq0 : q' = 0
            · have hD : (zB 5).length ≤ m ∧ codeB y = zB 5 ++ zB (m - (zB 5).length) := by
                rw [← hord, hq0, code_first] at hcl
                rw [← hord, hq0, code_first, ← hcl]
                exact ⟨Nat.le_refl _, by rw [Nat.sub_self]; rfl⟩
              have hE : cT q' = [] := by rw [cT, if_pos hq0]
              rw [hE, show txB [] = ({ data := #[] } : ByteArray) from rfl]
              generalize hDD : zB 5 = D at *
              have HE := Lib.hid hE
              have HDD := Lib.hid hDD
              clear hDD hE
              go_wp2_with (go_at_call 84; with_reducible refine (H.out _).mono ?_; rintro e w1 ⟨rfl, hf⟩)
              have HC2 := Lib.hid (hc.fresh hf)
              clear hc hf
              have HD := Lib.hid hD
              clear hD
              go_loopw [2] (fun c wr => ∃ j : Nat, D.length + j ≤ m ∧ c = .string (txB (D ++ zB j)) ∧ CdR w b0 b1 q' wr) (fun c _ => m - match c with | .string s => s.size | _ => 0)
              case atStart => exact ⟨0, by have := HD.out.1; omega, by first | rfl | (rw [show zB 0 = [] from rfl, List.append_nil]; done) | (rw [show zB 0 = [] from rfl, List.append_nil, ← HDD.out]; rfl), HC2.out⟩
              case round =>
                obtain ⟨j, hj, rfl, hc⟩ := hrel
                have hS : (txB (D ++ zB j)).size = D.length + j := by rw [txB_size, List.length_append, zB, List.length_replicate]
                by_cases hj2 : D.length + j < m
                · have h4 : ((D.length + j : Nat) : Int) < (m : Int) := by omega
                  have hn : txB (D ++ zB j) ++ txB [false] = txB (D ++ zB (j + 1)) := by rw [txB_append, List.append_assoc]; unfold zB; rw [← List.replicate_succ']
                  have HN := Lib.hid hn
                  clear hn
                  generalize hSg : txB (D ++ zB j) = S at *
                  have hcat : ¬ 9223372036854775807 < S.size + 1 := by omega
                  have hsz : (S ++ ({ data := #[48] } : ByteArray)).size = S.size + 1 := by rw [ByteArray.size_append]; rfl
                  go_wp2
                  exact ⟨⟨j + 1, by omega, by rw [← HN.out]; rfl, hc⟩, by show m - (S ++ ({ data := #[48] } : ByteArray)).size < m - S.size; omega⟩
                · have h4 : ¬ ((D.length + j : Nat) : Int) < (m : Int) := by omega
                  have hjm : j = m - D.length := by omega
                  have hcell := (hc.r1.cell y).trans (oC_get q' hy2)
                  have hfz := hc.r1.frozen y
                  have hset := hc.set hy2 hpos
                  rw [HD.out.2, ← hjm] at hset
                  have HSET := Lib.hid hset
                  clear hset
                  generalize hSg : txB (D ++ zB j) = S at *
                  go_wp2
                  exact ⟨⟨y + 1, q' + 1, by omega, rfl, by rw [hcn]; omega, by rw [hct, HD.out.2, ← hjm, hSg], HSET.out⟩, by simp [intOf]; omega⟩
            · obtain ⟨p, hp⟩ : ∃ p, cT q' = p := ⟨_, rfl⟩
              have hp2 : p = codeB (ordF (q' - 1)) := by rw [← hp, cT, if_neg hq0]
              have hpl : p.length ≤ 100 ∧ 0 < p.length := by
                have := ln_ok (s := ordF (q' - 1)) (ordP (by omega)).1
                rw [hp2, codeB_length]; omega
              have HNX := Lib.hid (rf_next · p hpl.1)
              obtain ⟨D, hDn⟩ : ∃ D, (nxt p).2 = D := ⟨_, rfl⟩
              have hD : D.length ≤ m ∧ codeB y = D ++ zB (m - D.length) := by
                have h1 := code_step (q := q' - 1) (by omega)
                rw [show q' - 1 + 1 = q' by omega, hord, ← hp2, hDn] at h1
                have h2 : D.length = ln (ordF (q' - 1)) := by rw [← hDn, nxt_length, hp2, codeB_length]
                have h3 : ln y = m := by rw [← codeB_length, hcl]
                rw [← h2, h3] at h1
                have h4 := congrArg List.length h1
                rw [hcl, List.length_append, zB, List.length_replicate] at h4
                exact ⟨by omega, h1⟩
              rw [hDn] at HNX
              rw [hp]
              have hTe : (txB p).toList.isEmpty = false := by
                unfold txB
                rw [ByteArray.toList_eq, strB_data, List.isEmpty_eq_false_iff_exists_mem]
                obtain ⟨x, hx⟩ := List.exists_mem_of_length_pos hpl.2
                exact ⟨chB x, List.mem_map_of_mem hx⟩
              clear hp2 hDn
              generalize txB p = T at *
              go_wp2_with first | (go_at_call 84; with_reducible refine (H.out _).mono ?_; rintro e w1 ⟨rfl, hf⟩) | (go_at_call 85; with_reducible refine (HNX.out _).mono ?_; rintro e w2 ⟨rfl, hf2⟩)
              have HC2 := Lib.hid ((hc.fresh hf).fresh hf2)
              clear hc hf hf2
              have HD := Lib.hid hD
              clear hD
              go_loopw [2] (fun c wr => ∃ j : Nat, D.length + j ≤ m ∧ c = .string (txB (D ++ zB j)) ∧ CdR w b0 b1 q' wr) (fun c _ => m - match c with | .string s => s.size | _ => 0)
              case atStart => exact ⟨0, by have := HD.out.1; omega, by first | rfl | (rw [show zB 0 = [] from rfl, List.append_nil]; done) | (rw [show zB 0 = [] from rfl, List.append_nil, ← HDD.out]; rfl), HC2.out⟩
              case round =>
                obtain ⟨j, hj, rfl, hc⟩ := hrel
                have hS : (txB (D ++ zB j)).size = D.length + j := by rw [txB_size, List.length_append, zB, List.length_replicate]
                by_cases hj2 : D.length + j < m
                · have h4 : ((D.length + j : Nat) : Int) < (m : Int) := by omega
                  have hn : txB (D ++ zB j) ++ txB [false] = txB (D ++ zB (j + 1)) := by rw [txB_append, List.append_assoc]; unfold zB; rw [← List.replicate_succ']
                  have HN := Lib.hid hn
                  clear hn
                  generalize hSg : txB (D ++ zB j) = S at *
                  have hcat : ¬ 9223372036854775807 < S.size + 1 := by omega
                  have hsz : (S ++ ({ data := #[48] } : ByteArray)).size = S.size + 1 := by rw [ByteArray.size_append]; rfl
                  go_wp2
                  exact ⟨⟨j + 1, by omega, by rw [← HN.out]; rfl, hc⟩, by show m - (S ++ ({ data := #[48] } : ByteArray)).size < m - S.size; omega⟩
                · have h4 : ¬ ((D.length + j : Nat) : Int) < (m : Int) := by omega
                  have hjm : j = m - D.length := by omega
                  have hcell := (hc.r1.cell y).trans (oC_get q' hy2)
                  have hfz := hc.r1.frozen y
                  have hset := hc.set hy2 hpos
                  rw [HD.out.2, ← hjm] at hset
                  have HSET := Lib.hid hset
                  clear hset
                  generalize hSg : txB (D ++ zB j) = S at *
                  go_wp2
                  exact ⟨⟨y + 1, q' + 1, by omega, rfl, by rw [hcn]; omega, by rw [hct, HD.out.2, ← hjm, hSg], HSET.out⟩, by simp [intOf]; omega⟩
          · have hne : ¬ (ln y : Int) = (m : Int) := by omega
            have hne2 : ((ln y : Int) != (m : Int)) = true := by simpa using hne
            have H := Lib.hid (rf_len · y hy2)
            have hcn : cntK (y + 1) m = cntK y m := by rw [cntK_succ hy2, if_neg hly, Nat.add_zero]
            go_wp2_with (go_at_call 84; with_reducible refine (H.out _).mono ?_; rintro e w1 ⟨rfl, hf⟩)
            exact ⟨⟨y + 1, q', by omega, rfl, by rw [hcn]; omega, rfl, hc.fresh hf⟩, by simp [intOf]; omega⟩
        · have h2 : ¬ (y : Int) < 257 := by omega
          go_wp2
          refine ⟨⟨m + 1, q', by omega, by omega, rfl, ?_, fun h => ?_, fun h => ?_, rfl, hc⟩, by simp [intOf]; omega⟩
          · have := tab1 (n := m) (by omega)
            rw [← hq', show y = 257 by omega, this.1]; omega
          · rw [← hq', show y = 257 by omega, (tab1 (n := m) (by omega)).1, (tab2 (n := m) (by omega)).2.1]
          · rw [← hq', show y = 257 by omega, (tab1 (n := m) (by omega)).1, show m = 30 by omega, qF_end]
    · have h1 : ¬ (m : Int) ≤ 30 := by omega
      have hq7 := hq2 (by omega)
      subst hq7
      have hi : (Try.prog.info? 122).map (·.size) = some (oC 257).size := by rw [oC_size]; kernel_rfl
      have hall : (oC 257).all (·.oneCell') = true := by
        rw [Array.all_eq_true_iff_forall_mem]
        intro v hv
        simp only [oC, List.mem_toArray, List.mem_map] at hv
        obtain ⟨y, _, rfl⟩ := hv
        rfl
      go_upto_region 16 with fail
      refine wp_region_list ?_
      refine wpList_load_row rfl 122 (.tmp 1) rfl b1 (by rfl) 122 (oC 257) _ _ hc.r1 Try.underlying122 rfl hi ?_
      refine wpList_store_row rfl 122 (.tmp 0) (.tmp 30) rfl b0 (oC 257) (by rfl) (by rfl) 122 (oC 0) hc.r0 hi (by rw [oC_size, oC_size]) hall ?_
      refine wpList_nil ?_
      rename_i K hK
      refine hK _ _ ?_
      have hb2 : Blk (wr.setRow b0 (oC 257)) b0 122 (oC 257) := setRow_heap _ _ (oC 0) (oC 257) _ _ hc.r0
      have hf : Fresh w (wr.setRow b0 (oC 257)) := Only.fresh (S := fun k => k = b0) ((Only.of_fresh hc.fr).trans ⟨rfl, rfl, rfl, by simp [World.setRow], fun k _ hk => setRow_other _ _ k _ hk⟩) (fun k hk h => by have := hc.ge; omega)
      generalize wr.setRow b0 (oC 257) = W at *
      refine wp_ret ?_
      exact bodyPost_ret (v := .agg codC) (results_cell_row (by rfl) _ _ b0 122 (oC 257) _ _ (by rfl) hb2 Try.underlying122 rfl hi) rfl ⟨rfl, hf⟩
end Go.Proofs.Ytdoddpigiencjaa

