/-
  The law EncodeReads.
-/
import Derived.Test.YtdoddpigiencjaaEncP
import Derived.Test.YtdoddpigiencjaaEncI
import Derived.Test.YtdoddpigiencjaaDecS
import Derived.Test.YtdoddpigiencjaaLnEq
import Derived.Test.YtdoddpigiencjaaBslW
namespace Go.Proofs.Ytdoddpigiencjaa
set_option maxRecDepth 100000
set_option linter.unusedVariables false
set_option linter.unusedSimpArgs false
open Go.RowKit
theorem szE_take (xs : List Ln) (k : Nat) (hk : k < xs.length) : szE (xs.take (k + 1)) = szE (xs.take k) + ((xs[k]).n.length + (xs[k]).v.length + 32) := by
  rw [List.take_succ_eq_append_getElem hk]
  unfold szE
  rw [List.map_append, List.sum_append]
  simp only [List.map_cons, List.map_nil, List.sum_cons, List.sum_nil, Nat.add_zero]
  rw [show fz (Ln.d xs[k]).1 = _ from fz_ln _ _]
def SmE (xs : List Ln) (w : World) (e : Ending) (w' : World) : Prop := ∃ b : Bool, e = .returned (.bool b) ∧ (b = true → SmallL xs ∧ szE xs ≤ 2000) ∧ Fresh w w'
set_option maxHeartbeats 3200000 in
theorem en_smallS (A : Option Addr) (c : Nat) (xs : List Ln) (w : World) (hm : Many Ln.cells 3 w A xs) (hn : xs.length ≤ 140737488351232) (hok : ∀ x ∈ xs, x.Ok) :
    Calls Try.prog 8 #[.slice A xs.length c] w (SmE xs w) := by
  have HMY := Lib.hid hm
  have HOK := Lib.hid hok
  have HNO : Hid (∀ W, Fresh w W → SmE xs w (.returned (.bool false)) W) := Lib.hid (fun W h => ⟨false, rfl, (fun h => by cases h), h⟩)
  have HYES : Hid (∀ W, SmallL xs ∧ szE xs ≤ 2000 → Fresh w W → SmE xs w (.returned (.bool true)) W) := Lib.hid (fun W hs h => ⟨true, rfl, fun _ => hs, h⟩)
  generalize SmE xs w = PP at *
  obtain ⟨n, hxn⟩ : ∃ n, xs.length = n := ⟨_, rfl⟩
  have HN := Lib.hid hxn
  rw [hxn] at hn ⊢
  clear hm hok hxn
  go_enter Try.func8, Try.ntmps8
  go_wp2
  go_loopw [3, 8] (fun s i wr => ∃ (k t : Nat), k ≤ n ∧ i = .int .i64 (k : Int) ∧ s = .int .i64 (t : Int) ∧ 10 * k ≤ t ∧ t ≤ 600 ∧ szE (xs.take k) ≤ t + 22 * k ∧ (∀ j (hj : j < xs.length), j < k → (xs[j]).n.length ≤ 600 ∧ (xs[j]).v.length ≤ 600) ∧ Fresh w wr) (fun _ i _ => n - (intOf i).toNat)
  case atStart => exact ⟨0, 0, by omega, rfl, rfl, by omega, by omega, by simp [szE], fun j _ h => by omega, Fresh.refl _⟩
  case round =>
    obtain ⟨k, t, hk, rfl, rfl, ht1, ht2, hsz, hsm, hf⟩ := hrel
    have HSM := Lib.hid hsm
    have HF := Lib.hid hf
    have HSZ := Lib.hid hsz
    clear hsm hf hsz
    by_cases hlt : k < n
    · have hlt' : (k : Int) < (n : Int) := by omega
      have h0 : (0 : Int) ≤ (k : Int) := by omega
      have hkx : k < xs.length := by rw [HN.out]; exact hlt
      obtain ⟨bq, o, rfl, hbq, hc0, hc1, hc2⟩ := HMY.out.at3 k xs[k] (List.getElem?_eq_getElem hkx)
      have e0 := (HF.out.cell (p := ⟨bq, o + k * 3, none⟩) hbq).trans hc0
      have e1 := (HF.out.cell (p := ⟨bq, o + k * 3 + 1, none⟩) hbq).trans hc1
      have e2 := (HF.out.cell (p := ⟨bq, o + k * 3 + 2, none⟩) hbq).trans hc2
      have hxo := HOK.out _ (List.getElem_mem hkx)
      have HST := Lib.hid (szE_take xs k hkx)
      have HXK : Hid (((xs[k]).n.length ≤ 600 ∧ (xs[k]).v.length ≤ 600) → ∀ j (hj : j < xs.length), j < k + 1 → (xs[j]).n.length ≤ 600 ∧ (xs[j]).v.length ≤ 600) := Lib.hid (fun hb j hj h => by
        by_cases e : j = k
        · subst e; exact hb
        · exact HSM.out j hj (by omega))
      generalize xs[k] = x at *
      obtain ⟨xn, xv, xb⟩ := x
      obtain ⟨o1, o2⟩ := hxo
      simp only at e0 e1 e2 o1 o2 HXK HST
      have z1 : (strB xn).size = xn.length := strB_size xn
      have z2 : (strB xv).size = xv.length := strB_size xv
      clear hc0 hc1 hc2
      generalize strB xn = SN at *
      generalize strB xv = SV at *
      generalize xn.length = a at *
      generalize xv.length = b at *
      have w1 : IntKind.i64.wrap ((10 : Int) + (a : Int)) = 10 + (a : Int) := IntWalk.i64_in _ (by omega)
      have w2 : IntKind.i64.wrap ((10 : Int) + (a : Int) + (b : Int)) = 10 + (a : Int) + (b : Int) := IntWalk.i64_in _ (by omega)
      have w3 : IntKind.i64.wrap ((t : Int) + ((10 : Int) + (a : Int) + (b : Int))) = (t : Int) + (10 + (a : Int) + (b : Int)) := IntWalk.i64_in _ (by omega)
      by_cases hbig : 600 < t + (10 + a + b)
      · have hb1 : (600 : Int) < (t : Int) + (10 + (a : Int) + (b : Int)) := by omega
        go_wp2
        exact HNO.out _ (HF.out.trans (Fresh.alloc _ _))
      · have hb1 : ¬ (600 : Int) < (t : Int) + (10 + (a : Int) + (b : Int)) := by omega
        have HXK2 := Lib.hid (HXK.out ⟨by omega, by omega⟩)
        clear HXK
        go_wp2
        exact ⟨⟨k + 1, t + (10 + a + b), by omega, by go_num, by go_num, by omega, by omega, by rw [HST.out]; have := HSZ.out; omega, HXK2.out, HF.out.trans (Fresh.alloc _ _)⟩, by simp [intOf]; omega⟩
    · have hlt' : ¬ (k : Int) < (n : Int) := by omega
      have HS : Hid (SmallL xs ∧ szE xs ≤ 2000) := Lib.hid ⟨⟨by rw [HN.out]; omega, fun x hx => by
        obtain ⟨j, hj, rfl⟩ := List.getElem_of_mem hx
        exact HSM.out j hj (by rw [HN.out] at hj; omega)⟩, by
        have := HSZ.out
        rw [List.take_of_length_le (by rw [HN.out]; omega)] at this
        omega⟩
      go_wp2
      exact HYES.out _ HS.out HF.out
theorem S7.notNewE {w0 w W : World} {d p g : Nat} {v : Value} {fs : List FldT} {lim most bound : Int} {dead : Bool} {l : List UInt8} {A : Option Addr} (h : S7 w0 w d p v fs lim most bound dead) (hg : ∀ b o, A = some ⟨b, o, none⟩ → w.heap.size ≤ b) : NotIn p v A l ∧ ∀ b o, A = some ⟨b, o, none⟩ → ¬ (b = d ∨ b = p ∨ v.ownBlock = some b) := by
  have key : ∀ b o, A = some ⟨b, o, none⟩ → ¬ (b = d ∨ b = p ∨ v.ownBlock = some b) := fun b o e hh => by
    have hb := hg b o e
    rcases hh with hh | hh | hh
    · have := h.dec.blk.lt; omega
    · have := h.dec.tab.blk.lt; omega
    · have := (h.dec.tab.ne _ hh).2; omega
  exact ⟨fun _ b o e hh => key b o e (.inr hh), key⟩
theorem rd7_lines (most : Int) (fs : List FldT) (lm : Int) (xs : List Ln) (F : List UInt8) (h : SmallL xs) (hs : szE xs ≤ 2000) (hF : RowE xs F) : rd7 most 16384 false fs lm F = (0, xs.map Ln.d, fs, lm) := by
  unfold rd7
  rw [if_neg (by simp), bl_row most 16384 fs lm xs F 0 [] F.length (Nat.le_refl _) h.fit hF (by omega)]
  simp
def Er7P (w : World) (e : Ending) (w' : World) : Prop := e = .returned (.bool true) ∧ Fresh w w'
set_option maxHeartbeats 12800000 in
theorem EncodeReads_any (s : LnsV) (most : Int) (b : BSl) (w : World) (hs : s.Ok w) (hmb : -9223372036854775808 ≤ most ∧ most ≤ 9223372036854775807) (hb : b.Ok w) :
    Calls Try.prog 4 #[.slice s.A s.xs.length s.c, .int .i64 most, .slice b.A b.l.length b.c] w fun e w' => e = .returned (.bool true) ∧ Below w.heap.size w w' := by
  show Calls _ _ _ _ (Er7P w)
  have HW := Lib.hid en_awake
  obtain ⟨A, c, xs⟩ := s
  have hmx := hs.max
  have hle := hs.le
  simp only at *
  have HMY := Lib.hid hs.rows
  simp only at HMY
  have HSM := Lib.hid (en_smallS A c xs w hs.rows (by omega) hs.ok)
  have HEN := Lib.hid (fun W (h : SmallL xs) (hf : Fresh w W) => en_encodeS A c xs W h (hs.rows.fresh hf))
  have HB := Lib.hid hb
  have hbl9 : b.l.length ≤ 140737488351232 := Nat.le_trans hb.le hb.max
  have HFIN : Hid (∀ W, Fresh w W → Er7P w (.returned (.bool true)) W) := Lib.hid (fun W h => ⟨rfl, h⟩)
  clear hs hb hmb hmx hle
  obtain ⟨n, hn⟩ : ∃ n, xs.length = n := ⟨_, rfl⟩
  have HN := Lib.hid hn
  rw [hn] at HSM HEN ⊢
  obtain ⟨m, hm⟩ : ∃ m, b.l.length = m := ⟨_, rfl⟩
  have HM := Lib.hid hm
  rw [hm] at hbl9 ⊢
  unfold SmE at HSM
  clear hn hm
  generalize Er7P w = PP at *
  go_enter Try.func4, Try.ntmps4
  go_wp2_with fail
  with_reducible refine HSM.out.mono ?_
  rintro e w2 ⟨r, rfl, hr, hf2⟩
  have HR := Lib.hid hr
  have HF2 := Lib.hid hf2
  clear hr hf2 HSM
  have hq : r = false ∨ most < 0 ∨ 65536 < most ∨ 200 < m ∨ (r = true ∧ 0 ≤ most ∧ most ≤ 65536 ∧ m ≤ 200) := by
    cases r
    · exact .inl rfl
    · have : most < 0 ∨ 65536 < most ∨ 200 < m ∨ (0 ≤ most ∧ most ≤ 65536 ∧ m ≤ 200) := by omega
      rcases this with h | h | h | h
      · exact .inr (.inl h)
      · exact .inr (.inr (.inl h))
      · exact .inr (.inr (.inr (.inl h)))
      · exact .inr (.inr (.inr (.inr ⟨rfl, h⟩)))
  by_cases hgo : r = true ∧ 0 ≤ most ∧ most ≤ 65536 ∧ m ≤ 200
  · obtain ⟨rfl, m0, m1, m2⟩ := hgo
    have g0 : ¬ most < 0 := by omega
    have g1 : ¬ 65536 < most := by omega
    have g2 : ¬ (200 : Int) < (m : Int) := by omega
    obtain ⟨hsm, hsz⟩ := HR.out rfl
    have HSML := Lib.hid hsm
    have HSZL := Lib.hid hsz
    have HNW := Lib.hid (s7_new most 16384 m0 m1 (by decide) (by decide) w w2 HF2.out)
    have HML : Hid (b.l.length ≤ 300) := Lib.hid (by rw [HM.out]; omega)
    clear hsm hsz HR hq m0 m1 m2
    go_wp2_with fail
    with_reducible refine HNW.out.mono ?_
    rintro e w3 ⟨d, p, rfl, hs3, hf3⟩
    have HS3 := Lib.hid hs3
    clear hs3 hf3 HNW g0 g1 g2
    have HDE := Lib.hid (s7_decode HS3.out b HB.out (by have := HML.out; omega))
    have hinv := rd7_inv HS3.out b.l
    generalize rd7 most 16384 false [] most b.l = R at *
    obtain ⟨er, out, fs, lm⟩ := R
    unfold Dec7P at HDE
    simp only at HDE
    rw [HM.out] at HDE
    clear hinv
    generalize decide (er ≠ 0) = dd at *
    go_wp2_with fail
    with_reducible refine HDE.out.mono ?_
    rintro e w4 ⟨A4, c4, v4, rfl, _, hs4, _⟩
    have HS4 := Lib.hid hs4
    clear hs4 HDE HS3
    have HDD := Lib.hid (de_dead w.heap.size d p v4 fs lm most 16384 dd w4 HS4.out.dec)
    cases dd with
    | true =>
      go_wp2_with fail
      with_reducible refine HDD.out.mono ?_
      rintro e w5 ⟨rfl, rfl⟩
      go_wp2_with fail
      with_reducible refine (HW.out _).mono ?_
      rintro e w6 ⟨rfl, hf6⟩
      have HF6 := Lib.hid (HS4.out.fr.trans hf6)
      clear hf6
      go_wp2
      exact HFIN.out _ HF6.out
    | false =>
      have HTB := Lib.hid (fun W v (hS : S7 w W d p v fs lm most 16384 false) => de_table w.heap.size d p v fs lm most 16384 false W hS.dec hS.fr.size hS.len)
      unfold CpyP at HTB
      have HLF := Lib.hid HS4.out.len
      obtain ⟨nf, hnf⟩ : ∃ nf, fs.length = nf := ⟨_, rfl⟩
      have HNF := Lib.hid hnf
      obtain ⟨zf, hzf⟩ : ∃ zf, tz fs = zf := ⟨_, rfl⟩
      have HZF := Lib.hid hzf
      clear hnf hzf
      go_wp2_with fail
      with_reducible refine HDD.out.mono ?_
      rintro e w5 ⟨rfl, rfl⟩
      go_wp2_with fail
      with_reducible refine (HTB.out _ v4 HS4.out).mono ?_
      rintro e w5 ⟨p5, v5, rfl, ht5, hf5, _, _⟩
      have HS5 := Lib.hid (HS4.out.fresh hf5)
      have HLN := Lib.hid (dy_len ht5)
      rw [HNF.out] at HLN
      clear hf5 ht5
      go_wp2_with fail
      with_reducible refine HLN.out.mono ?_
      rintro e w6 ⟨rfl, hw⟩
      obtain rfl : w5 = w6 := hw.symm
      go_wp2_with fail
      with_reducible refine (HTB.out _ v4 HS5.out).mono ?_
      rintro e w6 ⟨p6, v6, rfl, ht6, hf6, _, _⟩
      have HS6 := Lib.hid (HS5.out.fresh hf6)
      have HSI := Lib.hid (dy_sizeT ht6)
      rw [HZF.out] at HSI
      clear hf6 ht6 HLN
      go_wp2_with fail
      with_reducible refine HSI.out.mono ?_
      rintro e w7 ⟨rfl, hw⟩
      obtain rfl : w6 = w7 := hw.symm
      go_wp2_with fail
      with_reducible refine (HEN.out _ HSML.out HS6.out.fr).mono ?_
      rintro e w7 ⟨F, A7, c7, rfl, hF, hown, hf7⟩
      have HS7 := Lib.hid (HS6.out.fresh hf7)
      have HBF := Lib.hid hown.bytes.1
      obtain ⟨A7', c7', e7, hc7, hx7, hat7⟩ := hown.slice
      injection e7 with e71 e72 e73
      subst e71 e73
      have HNI := Lib.hid (HS6.out.notNewE (W := w6) (g := 0) (l := F) (fun b o e => (hat7 b o e).1))
      have HRD := Lib.hid (rd7_lines most fs lm xs F HSML.out HSZL.out hF)
      have HPL : Hid (plainB F = true) := Lib.hid (plain_row xs F HSML.out.fit hF)
      have hFl : F.length ≤ 40000 * xs.length := hF.len HSML.out.fit
      have hFl2 : F.length ≤ 2400000 := by have := HSML.out.1; omega
      have HFL := Lib.hid hFl2
      have HDF := Lib.hid (s7_decodeQ HS7.out A7 c7 F hc7 hx7 HBF.out HNI.out.1 (by omega))
      unfold Dec7Q at HDF
      rw [HRD.out] at HDF
      simp only at HDF
      rw [show decide ((0 : Nat) ≠ 0) = false from rfl, show ((0 : Nat) : Int) = 0 from rfl, List.length_map, HN.out] at HDF
      have HCX : Hid (F.length ≤ c7 ∧ c7 ≤ maxLen) := Lib.hid ⟨hc7, hx7⟩
      have HPN := Lib.hid (fun W (hB : BS W A7 F) => en_plain A7 c7 F W (by have := HFL.out; omega) HCX.out.1 HCX.out.2 hB)
      rw [HPL.out] at HPN
      clear hF hown hf7 e72 hc7 hx7 hat7 HRD hFl hFl2 HSI
      generalize hfl : F.length = fl at *
      go_wp2_with fail
      with_reducible refine HDF.out.mono ?_
      rintro e w8 ⟨A8, c8, v8, rfl, hl8, hs8, _, ho8, _⟩
      have HL8 := Lib.hid hl8
      have HS8 := Lib.hid hs8
      have HB8 := Lib.hid (HBF.out.only3 ho8 (fun _ b o e => HNI.out.2 b o e))
      clear hl8 hs8 ho8 HDF
      have e1 : ((n : Int) == (n : Int)) = true := beq_self_eq_true _
      have e2 : ((nf : Int) == (nf : Int)) = true := beq_self_eq_true _
      have e3 : ((zf : Int) == (zf : Int)) = true := beq_self_eq_true _
      go_wp2_with fail
      with_reducible refine (HTB.out _ v8 HS8.out).mono ?_
      rintro e w9 ⟨p9, v9, rfl, ht9, hf9, _, _⟩
      have HS9 := Lib.hid (HS8.out.fresh hf9)
      have HF9 := Lib.hid hf9
      have HLN := Lib.hid (dy_len ht9)
      rw [HNF.out] at HLN
      clear hf9 ht9
      go_wp2_with fail
      with_reducible refine HLN.out.mono ?_
      rintro e w10 ⟨rfl, hw⟩
      obtain rfl : w9 = w10 := hw.symm
      go_wp2_with fail
      with_reducible refine (HTB.out _ v8 HS9.out).mono ?_
      rintro e w10 ⟨p10, v10, rfl, ht10, hf10, _, _⟩
      have HF10 := Lib.hid (HF9.out.trans hf10)
      have HSI := Lib.hid (dy_sizeT ht10)
      rw [HZF.out] at HSI
      clear hf10 ht10 HLN
      go_wp2_with fail
      with_reducible refine HSI.out.mono ?_
      rintro e w11 ⟨rfl, hw⟩
      obtain rfl : w10 = w11 := hw.symm
      have HW10 := Lib.hid (HS8.out.fr.trans HF10.out)
      have HL10 := Lib.hid (HL8.out.fresh HF10.out)
      have HB10 := Lib.hid (HB8.out.fresh HF10.out)
      clear HSI
      go_wp2_with fail
      go_loopw [96] (fun i wr => ∃ j : Nat, j ≤ n ∧ i = .int .i64 (j : Int) ∧ Fresh w10 wr) (fun i _ => n - (intOf i).toNat)
      case atStart => exact ⟨0, Nat.zero_le _, rfl, Fresh.refl _⟩
      case round =>
        obtain ⟨j, hj, rfl, hf⟩ := hrel
        have HF := Lib.hid hf
        clear hf
        by_cases hjl : j < n
        · have hjl' : (j : Int) < (n : Int) := by omega
          have hn60 : n ≤ 60 := by have := HSML.out.1; rw [HN.out] at this; exact this
          have hjx : j < xs.length := by rw [HN.out]; exact hjl
          obtain ⟨x, hx⟩ : ∃ x, xs[j]? = some x := ⟨_, List.getElem?_eq_getElem hjx⟩
          obtain ⟨b1, o1, rfl, hb1, g0, g1, g2⟩ := (HL10.out.rows.fresh HF.out).lnAt j x.d (by rw [List.getElem?_map, hx]; rfl)
          obtain ⟨b2, o2, rfl, hb2, k0, k1, k2⟩ := ((HMY.out.fresh HW10.out).fresh HF.out).at3 j x hx
          obtain ⟨xn, xv, nv⟩ := x
          simp only [Ln.d] at g0 g1 g2 k0 k1 k2
          have hE := run_eq_line (strB xn) (strB xv) nv
          clear hb1 hb2 hx
          go_upto_region 17 with fail
          go_quiet (fail)
          all_goals
            go_wp2
            go_roundw
            case rel => exact ⟨j + 1, by omega, by go_num, HF.out.trans (Fresh.drewN _ _)⟩
            case measure => simp [intOf]; omega
        · obtain rfl : j = n := by omega
          have hnj : ¬ (j : Int) < (j : Int) := by omega
          go_wp2_with fail
          with_reducible refine (HPN.out _ (HB10.out.fresh HF.out)).mono ?_
          rintro e w12 ⟨rfl, hf12⟩
          have HF12 := Lib.hid ((HW10.out.trans HF.out).trans hf12)
          clear hf12
          go_wp2_with fail
          with_reducible refine (HW.out _).mono ?_
          rintro e w13 ⟨rfl, hf13⟩
          have HF13 := Lib.hid (HF12.out.trans hf13)
          clear hf13
          go_wp2
          exact HFIN.out _ HF13.out
  · cases r with
    | false =>
      go_wp2_with fail
      with_reducible refine (HW.out _).mono ?_
      rintro e w3 ⟨rfl, hf3⟩
      have HF3 := Lib.hid (HF2.out.trans hf3)
      clear hf3
      go_wp2
      exact HFIN.out _ HF3.out
    | true =>
      have hq2 : most < 0 ∨ (¬ most < 0 ∧ 65536 < most) ∨ (¬ most < 0 ∧ ¬ 65536 < most ∧ (200 : Int) < (m : Int)) := by
        have h9 : ¬ (0 ≤ most ∧ most ≤ 65536 ∧ m ≤ 200) := fun h => hgo ⟨rfl, h⟩
        omega
      clear hq hgo
      rcases hq2 with g0 | ⟨g0, g1⟩ | ⟨g0, g1, g2⟩
      all_goals
        go_wp2_with fail
        with_reducible refine (HW.out _).mono ?_
        rintro e w3 ⟨rfl, hf3⟩
        have HF3 := Lib.hid (HF2.out.trans hf3)
        clear hf3
        go_wp2
        exact HFIN.out _ HF3.out
end Go.Proofs.Ytdoddpigiencjaa

