/-
  The law ReasmChunks: its walk.
-/
import Derived.Test.YtgmgnokmeocmjaaReasmV3
import Derived.Test.YtgmgnokmeocmjaaReasmV
import Derived.Test.YtgmgnokmeocmjaaFrameE
namespace Go.Proofs.Ytgmgnokmeocmjaa
set_option linter.unusedVariables false
open Go.RowKit

theorem allF_count {most : Int} : ∀ (n : Nat) (l : List UInt8) (P : List Fr × List UInt8), allF most n l = some P → P.1.length * 9 + P.2.length ≤ l.length := by
  intro n
  induction n with
  | zero =>
    intro l P h
    simp only [allF, Option.some.injEq] at h
    subst h
    simp
  | succ n ih =>
    intro l P h
    unfold allF at h
    by_cases h16 : parseK l most = 16
    · rw [if_pos h16] at h
      simp only [Option.some.injEq] at h
      subst h
      simp
    · rw [if_neg h16] at h
      by_cases h0 : parseK l most = 0
      · rw [if_pos h0] at h
        cases hq : allF most n (l.drop (lenF l)) with
        | none => rw [hq] at h; simp at h
        | some p =>
          rw [hq] at h
          simp only [Option.map_some, Option.some.injEq] at h
          subst h
          have h1 := ih _ p hq
          have h9 := parseK_long h16
          simp only [List.length_drop, List.length_cons] at h1 ⊢
          have : 9 ≤ lenF l := by unfold lenF; omega
          obtain ⟨_, _, h3⟩ := parseK_ok h0
          have h3' : lenF l ≤ l.length := h3
          omega
      · rw [if_neg h0] at h
        cases h
theorem ChSt.count {w5 wr : World} {p : Nat} {bs : List UInt8} {j : Nat} {l : List UInt8} {v gv : Value} {gfs : List (Fr × Option Addr)} (h : ChSt w5 wr p bs j l v gv gfs) (hb : bs.length ≤ 300) (n : Nat) {P : List Fr × List UInt8} (hn : j + n ≤ bs.length) (hp : allF 16384 (l ++ (bs.drop j).take n).length (l ++ (bs.drop j).take n) = some P) : (gfs.length + P.1.length) * 48 ≤ 140737488355328 := by
  have e := h.next n hn
  rw [hp] at e
  have := allF_count _ _ _ e
  simp at this
  omega

/-- Where the loop over cuts stands. -/
def ChRel (w w5 : World) (p : Nat) (bs : List UInt8) (zs : List Int) (gv rest hh i : Value) (wr : World) : Prop :=
  ∃ (k j RL : Nat) (l : List UInt8) (v : Value) (gfs : List (Fr × Option Addr)) (AR : Option Addr) (cR : Nat), k ≤ zs.length ∧ i = .int .i64 (k : Int) ∧ hh = .int .i64 0 ∧ rest = .slice AR RL cR ∧ RL + j = bs.length ∧ RL ≤ cR ∧ cR ≤ maxLen ∧ BS w AR (bs.drop j) ∧ ChSt w5 wr p bs j l v gv gfs

set_option maxRecDepth 100000 in
set_option maxHeartbeats 25600000 in
theorem ReasmChunks_any (A : Option Addr) (bs : List UInt8) (c : Nat) (s : IntsV) (w : World) (hlc : bs.length ≤ c) (hcm : c ≤ maxLen) (hA : BS w A bs) (hs : s.Ok w) :
    Calls Try.prog 4 #[.slice A bs.length c, .slice s.A s.zs.length s.c] w fun e w' => e = .returned (.bool true) ∧ Below w.heap.size w w' := by
  have HW := Lib.hid awake_true
  obtain ⟨AZ, cz, zs⟩ := s
  have hle := hs.le
  have hmax := hs.max
  have HROWS := Lib.hid hs.rows
  simp only [] at hle hmax HROWS ⊢
  clear hs
  unfold maxLen at hmax
  have HCM := Lib.hid hcm
  unfold maxLen at hcm
  by_cases h3 : 300 < bs.length
  · have h3' : (300 : Int) < (bs.length : Int) := by omega
    go_enter Try.func4, Try.ntmps4
    go_wp2_with fail
    with_reducible refine (HW.out _).mono ?_
    rintro e w3 ⟨rfl, hf3⟩
    have HF3 := Lib.hid hf3
    clear hf3
    go_wp2
    go_ret
    exact ⟨rfl, HF3.out⟩
  · have h3' : ¬ (300 : Int) < (bs.length : Int) := by omega
    by_cases h5 : 50 < zs.length
    · have h5' : (50 : Int) < (zs.length : Int) := by omega
      go_enter Try.func4, Try.ntmps4
      go_wp2_with fail
      with_reducible refine (HW.out _).mono ?_
      rintro e w3 ⟨rfl, hf3⟩
      have HF3 := Lib.hid hf3
      clear hf3
      go_wp2
      go_ret
      exact ⟨rfl, HF3.out⟩
    · have h5' : ¬ (50 : Int) < (zs.length : Int) := by omega
      have HA := Lib.hid hA
      obtain ⟨tot, htot⟩ : ∃ tot, allF 16384 bs.length bs = tot := ⟨_, rfl⟩
      have htot' : allF 16384 (([] : List UInt8) ++ bs).length ([] ++ bs) = tot := htot
      clear hA
      cases tot with
      | none =>
        go_enter Try.func4, Try.ntmps4
        go_wp2_with fail
        with_reducible refine (rnew 16384 _ (by omega) (by omega)).mono ?_
        rintro e w1 ⟨p, rfl, hp, hr1, hf1⟩
        have HR1 := Lib.hid hr1
        have HF1 := Lib.hid hf1
        clear hr1 hf1
        go_wp2_with fail
        with_reducible refine (rnew 16384 _ (by omega) (by omega)).mono ?_
        rintro e w2 ⟨qp, rfl, hq, hr2, hf2⟩
        have hpq : p ≠ qp := by have := HR1.out.blk.lt; omega
        have hqw : w.heap.size ≤ qp := by have := HF1.out.size; omega
        have HQ2 := Lib.hid hr2
        have HR2 := Lib.hid (HR1.out.fresh hf2)
        have HF2 := Lib.hid (HF1.out.trans hf2)
        clear hr2 hf2
        go_wp2_with fail
        (with_reducible refine (rfeed_none qp 16384 [] _ A bs.length c bs w2 HQ2.out rfl (HA.out.fresh HF2.out) (by omega) htot').mono ?_)
        rintro e w5 ⟨rfl, _, hO5⟩
        have HR5 := Lib.hid (HR2.out.only hO5 (by rintro (e | e); exact hpq e; cases e) (fun k hk => by cases hk))
        have HF5 : Hid (Fresh w w5) := Below.trans HF2.out (Only.below hO5 HF2.out.size (fun k hk => by
          rcases hk with rfl | hk
          · exact hqw
          · cases hk))
        have HCh : Hid (ChRel w w5 p bs zs (.slice none 0 0) (.slice A bs.length c) (.int .i64 0) (.int .i64 0) w5) :=
          ⟨0, 0, bs.length, [], .slice none 0 0, [], A, c, Nat.zero_le _, rfl, rfl, rfl, rfl, hlc, HCM.out, HA.out, ⟨HR5.out, fun k hk => (by cases hk), ⟨Own.nil _ _ _ _, fun q hq => by simp at hq⟩, fun x hx => by simp at hx, Only.refl _ _, rfl, Nat.zero_le _⟩⟩
        clear hO5 htot'
        have HTOT := Lib.hid htot
        clear htot
        go_wp2
        go_loopw [11, 12, 13, 62] (fun gv rest hh i wr => ChRel w w5 p bs zs gv rest hh i wr) (fun _ _ _ i _ => zs.length - (intOf i).toNat)
        case atStart => exact HCh.out
        case round =>
          obtain ⟨k, j, RL, l, v, gfs, AR, cR, hk, rfl, rfl, rfl, hRL, hRc, hcR, hbR, hch⟩ := hrel
          have HC := Lib.hid hch
          have HBR := Lib.hid hbR
          have HcR := Lib.hid hcR
          unfold maxLen at hcR
          have hp0 : w.heap.size ≤ p := hp
          have HFr : Hid (Fresh w wr) := Below.trans HF5.out (Only.below HC.out.on HF5.out.size (fun k e => by omega))
          clear hch hbR HCh
          by_cases hlt : k < zs.length
          · have hlt' : (k : Int) < (zs.length : Int) := by omega
            obtain ⟨z, hz⟩ : ∃ z, zs[k]? = some z := ⟨_, List.getElem?_eq_getElem hlt⟩
            obtain ⟨b, o, rfl, hbw, k0⟩ := HROWS.out.one k z hz
            have j0 := (HFr.out.cell (p := ⟨b, o + k, none⟩) hbw).trans k0
            simp only [cellI, List.getElem?_cons_zero] at j0
            clear hz k0
            by_cases hz0 : z < 0
            · have hRL0 : ¬ (RL : Int) < 0 := by omega
              have hR0 : 0 ≤ RL := Nat.zero_le _
              have HNL : Hid (((bs.drop j).take 0).length = 0) := by show _ = _; rw [List.length_take, List.length_drop]; omega
              have h1 := run_cut_to (P := Try.prog) Try.underlying29 u8_size AR RL cR 0 (by omega)
              rw [show ((0 : Nat) : Int) = 0 by omega] at h1
              have h2 := run_cut_from (P := Try.prog) Try.underlying29 u8_size AR RL cR 0 (by omega)
              rw [show ((0 : Nat) : Int) = 0 by omega] at h2
              have HBN := Lib.hid (HBR.out.take 0)
              have HBD := Lib.hid (HBR.out.cut 0 cR (by simp; omega))
              obtain ⟨r, hr⟩ : ∃ r, allF 16384 (l ++ (bs.drop j).take 0).length (l ++ (bs.drop j).take 0) = r := ⟨_, rfl⟩
              cases r with
              | some P' =>
                have hcnt := HC.out.count (by omega) 0 (by omega) hr
                have HRr := Lib.hid hr
                go_wp2_with fail
                (with_reducible refine (rfeed_some p 16384 l v AR 0 cR ((bs.drop j).take 0) P' wr HC.out.r HNL.out (HBN.out.fresh HFr.out) (by omega) hr).mono ?_)
                rintro e w6 ⟨A6, n6, c6, fs6, v6, rfl, rfl, ho6, hfs6, hr6, hO6, hv6, hne6⟩
                obtain ⟨A7, c7, w7, hap7, hch7⟩ := HC.out.feed (by omega) 0 (by omega) hr rfl ho6 hfs6 hr6 hO6 hv6 hne6 _ rfl hcnt
                have HC7 := Lib.hid hch7
                clear ho6 hfs6 hr6 hO6 hv6 hne6 hch7 hr
                go_wp2_with (at_builtin; with_reducible refine wp_app rfl (.tmp 79) (.tmp 80) _ rfl hap7 rfl rfl rfl ?_)
                go_roundw
                case rel => exact ⟨k + 1, j + 0, RL, P'.2, v6, gfs ++ fs6, cutA AR 0 cR, cR - 0, by omega, by go_num, rfl, rfl, by omega, by omega, by have := HcR.out; unfold maxLen at this ⊢; omega, by have := HBD.out; rwa [List.drop_drop] at this, HC7.out⟩
                case measure => simp [intOf]; omega
              | none =>
                have HRr := Lib.hid hr
                go_wp2_with fail
                (with_reducible refine (rfeed_none p 16384 l v AR 0 cR ((bs.drop j).take 0) wr HC.out.r HNL.out (HBN.out.fresh HFr.out) (by omega) hr).mono ?_)
                rintro e w6 ⟨rfl, _, hO6⟩
                have HF6 : Hid (Fresh w w6) := Below.trans HFr.out (Only.below hO6 HFr.out.size (fun kk hk => by
                  rcases hk with rfl | hk
                  · exact hp0
                  · have := HC.out.vb kk hk; have := HF5.out.size; omega))
                obtain ⟨A7, c7, w7, hap7, _, hO7⟩ := OwnF.appendF (w := w6) (base := w5.heap.size) (base2 := w5.heap.size) (A2 := none) (n2 := 0) (c2 := 0) (fs := gfs) (fs2 := []) (HC.out.kept hO6) (by have := hO6.size; have := HC.out.on.size; omega) ⟨Own.nil _ _ _ _, fun q hq => by simp at hq⟩ (Nat.le_refl _) rfl _ rfl (by have := allF_count _ _ _ HC.out.pre; simp at this; omega)
                have HF7 : Hid (Fresh w w7) := Below.trans HF6.out (Only.below hO7 HF6.out.size (fun kk hk => by
                  have := (HC.out.g.1.lt kk hk).1; have := HF5.out.size; omega))
                clear hO6 hO7 hr
                go_wp2_with (at_builtin; with_reducible refine wp_app rfl (.tmp 79) (.tmp 80) _ rfl hap7 rfl rfl rfl ?_)
                with_reducible refine (HW.out _).mono ?_
                rintro e w8 ⟨rfl, hf8⟩
                have HF8 := Lib.hid (HF7.out.trans hf8)
                clear hf8
                go_wp2
                go_ret
                exact ⟨rfl, HF8.out⟩
            · by_cases hzl : z ≤ (RL : Int)
              · obtain ⟨m, rfl⟩ : ∃ m : Nat, z = (m : Int) := ⟨z.toNat, by omega⟩
                have hz0' : ¬ (m : Int) < 0 := by omega
                have hzl' : ¬ (RL : Int) < (m : Int) := by omega
                have hmR : m ≤ RL := by omega
                have HNL : Hid (((bs.drop j).take m).length = m) := by show _ = _; rw [List.length_take, List.length_drop]; omega
                have h1 := run_cut_to (P := Try.prog) Try.underlying29 u8_size AR RL cR m (by omega)
                have h2 := run_cut_from (P := Try.prog) Try.underlying29 u8_size AR RL cR m (by omega)
                have HBN := Lib.hid (HBR.out.take m)
                have HBD := Lib.hid (HBR.out.cut m cR (by simp; omega))
                obtain ⟨r, hr⟩ : ∃ r, allF 16384 (l ++ (bs.drop j).take m).length (l ++ (bs.drop j).take m) = r := ⟨_, rfl⟩
                cases r with
                | some P' =>
                  have hcnt := HC.out.count (by omega) m (by omega) hr
                  have HRr := Lib.hid hr
                  go_wp2_with fail
                  (with_reducible refine (rfeed_some p 16384 l v AR m cR ((bs.drop j).take m) P' wr HC.out.r HNL.out (HBN.out.fresh HFr.out) (by omega) hr).mono ?_)
                  rintro e w6 ⟨A6, n6, c6, fs6, v6, rfl, rfl, ho6, hfs6, hr6, hO6, hv6, hne6⟩
                  obtain ⟨A7, c7, w7, hap7, hch7⟩ := HC.out.feed (by omega) m (by omega) hr rfl ho6 hfs6 hr6 hO6 hv6 hne6 _ rfl hcnt
                  have HC7 := Lib.hid hch7
                  clear ho6 hfs6 hr6 hO6 hv6 hne6 hch7 hr
                  go_wp2_with (at_builtin; with_reducible refine wp_app rfl (.tmp 79) (.tmp 80) _ rfl hap7 rfl rfl rfl ?_)
                  go_roundw
                  case rel => exact ⟨k + 1, j + m, RL - m, P'.2, v6, gfs ++ fs6, cutA AR m cR, cR - m, by omega, by go_num, rfl, rfl, by omega, by omega, by have := HcR.out; unfold maxLen at this ⊢; omega, by have := HBD.out; rwa [List.drop_drop] at this, HC7.out⟩
                  case measure => simp [intOf]; omega
                | none =>
                  have HRr := Lib.hid hr
                  go_wp2_with fail
                  (with_reducible refine (rfeed_none p 16384 l v AR m cR ((bs.drop j).take m) wr HC.out.r HNL.out (HBN.out.fresh HFr.out) (by omega) hr).mono ?_)
                  rintro e w6 ⟨rfl, _, hO6⟩
                  have HF6 : Hid (Fresh w w6) := Below.trans HFr.out (Only.below hO6 HFr.out.size (fun kk hk => by
                    rcases hk with rfl | hk
                    · exact hp0
                    · have := HC.out.vb kk hk; have := HF5.out.size; omega))
                  obtain ⟨A7, c7, w7, hap7, _, hO7⟩ := OwnF.appendF (w := w6) (base := w5.heap.size) (base2 := w5.heap.size) (A2 := none) (n2 := 0) (c2 := 0) (fs := gfs) (fs2 := []) (HC.out.kept hO6) (by have := hO6.size; have := HC.out.on.size; omega) ⟨Own.nil _ _ _ _, fun q hq => by simp at hq⟩ (Nat.le_refl _) rfl _ rfl (by have := allF_count _ _ _ HC.out.pre; simp at this; omega)
                  have HF7 : Hid (Fresh w w7) := Below.trans HF6.out (Only.below hO7 HF6.out.size (fun kk hk => by
                    have := (HC.out.g.1.lt kk hk).1; have := HF5.out.size; omega))
                  clear hO6 hO7 hr
                  go_wp2_with (at_builtin; with_reducible refine wp_app rfl (.tmp 79) (.tmp 80) _ rfl hap7 rfl rfl rfl ?_)
                  with_reducible refine (HW.out _).mono ?_
                  rintro e w8 ⟨rfl, hf8⟩
                  have HF8 := Lib.hid (HF7.out.trans hf8)
                  clear hf8
                  go_wp2
                  go_ret
                  exact ⟨rfl, HF8.out⟩
              · have hzl' : (RL : Int) < z := by omega
                have hz0' : ¬ z < 0 := hz0
                have HNL : Hid (((bs.drop j).take RL).length = RL) := by show _ = _; rw [List.length_take, List.length_drop]; omega
                have h1 := run_cut_to (P := Try.prog) Try.underlying29 u8_size AR RL cR RL (by omega)
                have h2 := run_cut_from (P := Try.prog) Try.underlying29 u8_size AR RL cR RL (by omega)
                have HBN := Lib.hid (HBR.out.take RL)
                have HBD := Lib.hid (HBR.out.cut RL cR (by simp; omega))
                obtain ⟨r, hr⟩ : ∃ r, allF 16384 (l ++ (bs.drop j).take RL).length (l ++ (bs.drop j).take RL) = r := ⟨_, rfl⟩
                cases r with
                | some P' =>
                  have hcnt := HC.out.count (by omega) RL (by omega) hr
                  have HRr := Lib.hid hr
                  go_wp2_with fail
                  (with_reducible refine (rfeed_some p 16384 l v AR RL cR ((bs.drop j).take RL) P' wr HC.out.r HNL.out (HBN.out.fresh HFr.out) (by omega) hr).mono ?_)
                  rintro e w6 ⟨A6, n6, c6, fs6, v6, rfl, rfl, ho6, hfs6, hr6, hO6, hv6, hne6⟩
                  obtain ⟨A7, c7, w7, hap7, hch7⟩ := HC.out.feed (by omega) RL (by omega) hr rfl ho6 hfs6 hr6 hO6 hv6 hne6 _ rfl hcnt
                  have HC7 := Lib.hid hch7
                  clear ho6 hfs6 hr6 hO6 hv6 hne6 hch7 hr
                  go_wp2_with (at_builtin; with_reducible refine wp_app rfl (.tmp 79) (.tmp 80) _ rfl hap7 rfl rfl rfl ?_)
                  go_roundw
                  case rel => exact ⟨k + 1, j + RL, 0, P'.2, v6, gfs ++ fs6, cutA AR RL cR, cR - RL, by omega, by go_num, rfl, rfl, by omega, by omega, by have := HcR.out; unfold maxLen at this ⊢; omega, by have := HBD.out; rwa [List.drop_drop] at this, HC7.out⟩
                  case measure => simp [intOf]; omega
                | none =>
                  have HRr := Lib.hid hr
                  go_wp2_with fail
                  (with_reducible refine (rfeed_none p 16384 l v AR RL cR ((bs.drop j).take RL) wr HC.out.r HNL.out (HBN.out.fresh HFr.out) (by omega) hr).mono ?_)
                  rintro e w6 ⟨rfl, _, hO6⟩
                  have HF6 : Hid (Fresh w w6) := Below.trans HFr.out (Only.below hO6 HFr.out.size (fun kk hk => by
                    rcases hk with rfl | hk
                    · exact hp0
                    · have := HC.out.vb kk hk; have := HF5.out.size; omega))
                  obtain ⟨A7, c7, w7, hap7, _, hO7⟩ := OwnF.appendF (w := w6) (base := w5.heap.size) (base2 := w5.heap.size) (A2 := none) (n2 := 0) (c2 := 0) (fs := gfs) (fs2 := []) (HC.out.kept hO6) (by have := hO6.size; have := HC.out.on.size; omega) ⟨Own.nil _ _ _ _, fun q hq => by simp at hq⟩ (Nat.le_refl _) rfl _ rfl (by have := allF_count _ _ _ HC.out.pre; simp at this; omega)
                  have HF7 : Hid (Fresh w w7) := Below.trans HF6.out (Only.below hO7 HF6.out.size (fun kk hk => by
                    have := (HC.out.g.1.lt kk hk).1; have := HF5.out.size; omega))
                  clear hO6 hO7 hr
                  go_wp2_with (at_builtin; with_reducible refine wp_app rfl (.tmp 79) (.tmp 80) _ rfl hap7 rfl rfl rfl ?_)
                  with_reducible refine (HW.out _).mono ?_
                  rintro e w8 ⟨rfl, hf8⟩
                  have HF8 := Lib.hid (HF7.out.trans hf8)
                  clear hf8
                  go_wp2
                  go_ret
                  exact ⟨rfl, HF8.out⟩
          · have hlt' : ¬ (k : Int) < (zs.length : Int) := by omega
            have hTK : (bs.drop j).take RL = bs.drop j := List.take_of_length_le (by simp; omega)
            have HNL : Hid (((bs.drop j).take RL).length = RL) := by show _ = _; rw [List.length_take, List.length_drop]; omega
            have HBN := Lib.hid (HBR.out.take RL)
            obtain ⟨r, hr⟩ : ∃ r, allF 16384 (l ++ (bs.drop j).take RL).length (l ++ (bs.drop j).take RL) = r := ⟨_, rfl⟩
            have hall := HC.out.all
            rw [← hTK, hr, HTOT.out] at hall
            cases r with
            | some P' => simp at hall
            | none =>
              clear hall hTK
              go_wp2_with fail
              (with_reducible refine (rfeed_none p 16384 l v AR RL cR ((bs.drop j).take RL) wr HC.out.r HNL.out (HBN.out.fresh HFr.out) (by omega) hr).mono ?_)
              rintro e w6 ⟨rfl, _, hO6⟩
              have HF6 : Hid (Fresh w w6) := Below.trans HFr.out (Only.below hO6 HFr.out.size (fun kk hk => by
                rcases hk with rfl | hk
                · exact hp0
                · have := HC.out.vb kk hk; have := HF5.out.size; omega))
              have hcg : gfs.length * 9 ≤ 300 := by have := allF_count _ _ _ HC.out.pre; simp at this; omega
              obtain ⟨A7, c7, w7, hap7, _, hO7⟩ := OwnF.appendF (w := w6) (base := w5.heap.size) (base2 := w5.heap.size) (A2 := none) (n2 := 0) (c2 := 0) (fs := gfs) (fs2 := []) (HC.out.kept hO6) (by have := hO6.size; have := HC.out.on.size; omega) ⟨Own.nil _ _ _ _, fun q hq => by simp at hq⟩ (Nat.le_refl _) rfl _ rfl (by omega)
              have HF7 : Hid (Fresh w w7) := Below.trans HF6.out (Only.below hO7 HF6.out.size (fun kk hk => by
                have := (HC.out.g.1.lt kk hk).1; have := HF5.out.size; omega))
              clear hO6 hO7 hr
              go_wp2_with (at_builtin; with_reducible refine wp_app rfl (.tmp 97) (.tmp 98) _ rfl hap7 rfl rfl rfl ?_)
              with_reducible refine (HW.out _).mono ?_
              rintro e w8 ⟨rfl, hf8⟩
              have HF8 := Lib.hid (HF7.out.trans hf8)
              clear hf8
              go_wp2
              go_ret
              exact ⟨rfl, HF8.out⟩
      | some P =>
        go_enter Try.func4, Try.ntmps4
        go_wp2_with fail
        with_reducible refine (rnew 16384 _ (by omega) (by omega)).mono ?_
        rintro e w1 ⟨p, rfl, hp, hr1, hf1⟩
        have HR1 := Lib.hid hr1
        have HF1 := Lib.hid hf1
        clear hr1 hf1
        go_wp2_with fail
        with_reducible refine (rnew 16384 _ (by omega) (by omega)).mono ?_
        rintro e w2 ⟨qp, rfl, hq, hr2, hf2⟩
        have hpq : p ≠ qp := by have := HR1.out.blk.lt; omega
        have hqw : w.heap.size ≤ qp := by have := HF1.out.size; omega
        have HQ2 := Lib.hid hr2
        have HR2 := Lib.hid (HR1.out.fresh hf2)
        have HF2 := Lib.hid (HF1.out.trans hf2)
        clear hr2 hf2
        go_wp2_with fail
        (with_reducible refine (rfeed_some qp 16384 [] _ A bs.length c bs P w2 HQ2.out rfl (HA.out.fresh HF2.out) (by omega) htot').mono ?_)
        rintro e w5 ⟨Aw, nw, cw, fsw, u, rfl, rfl, how, hfsw, hrq5, hO5, hv5, _⟩
        have HOW := Lib.hid how
        have HFSW := Lib.hid hfsw
        have HQ5 := Lib.hid hrq5
        have HR5 := Lib.hid (HR2.out.only hO5 (by rintro (e | e); exact hpq e; cases e) (fun k hk => by cases hk))
        have HF5 : Hid (Fresh w w5) := Below.trans HF2.out (Only.below hO5 HF2.out.size (fun k hk => by
          rcases hk with rfl | hk
          · exact hqw
          · cases hk))
        have HCh : Hid (ChRel w w5 p bs zs (.slice none 0 0) (.slice A bs.length c) (.int .i64 0) (.int .i64 0) w5) :=
          ⟨0, 0, bs.length, [], .slice none 0 0, [], A, c, Nat.zero_le _, rfl, rfl, rfl, rfl, hlc, HCM.out, HA.out, ⟨HR5.out, fun k hk => (by cases hk), ⟨Own.nil _ _ _ _, fun q hq => by simp at hq⟩, fun x hx => by simp at hx, Only.refl _ _, rfl, Nat.zero_le _⟩⟩
        clear hO5 how hfsw hrq5 hv5 htot'
        have HTOT := Lib.hid htot
        clear htot
        go_wp2
        go_loopw [11, 12, 13, 62] (fun gv rest hh i wr => ChRel w w5 p bs zs gv rest hh i wr) (fun _ _ _ i _ => zs.length - (intOf i).toNat)
        case atStart => exact HCh.out
        case round =>
          obtain ⟨k, j, RL, l, v, gfs, AR, cR, hk, rfl, rfl, rfl, hRL, hRc, hcR, hbR, hch⟩ := hrel
          have HC := Lib.hid hch
          have HBR := Lib.hid hbR
          have HcR := Lib.hid hcR
          unfold maxLen at hcR
          have hp0 : w.heap.size ≤ p := hp
          have HFr : Hid (Fresh w wr) := Below.trans HF5.out (Only.below HC.out.on HF5.out.size (fun k e => by omega))
          clear hch hbR HCh
          by_cases hlt : k < zs.length
          · have hlt' : (k : Int) < (zs.length : Int) := by omega
            obtain ⟨z, hz⟩ : ∃ z, zs[k]? = some z := ⟨_, List.getElem?_eq_getElem hlt⟩
            obtain ⟨b, o, rfl, hbw, k0⟩ := HROWS.out.one k z hz
            have j0 := (HFr.out.cell (p := ⟨b, o + k, none⟩) hbw).trans k0
            simp only [cellI, List.getElem?_cons_zero] at j0
            clear hz k0
            by_cases hz0 : z < 0
            · have hRL0 : ¬ (RL : Int) < 0 := by omega
              have hR0 : 0 ≤ RL := Nat.zero_le _
              have HNL : Hid (((bs.drop j).take 0).length = 0) := by show _ = _; rw [List.length_take, List.length_drop]; omega
              have h1 := run_cut_to (P := Try.prog) Try.underlying29 u8_size AR RL cR 0 (by omega)
              rw [show ((0 : Nat) : Int) = 0 by omega] at h1
              have h2 := run_cut_from (P := Try.prog) Try.underlying29 u8_size AR RL cR 0 (by omega)
              rw [show ((0 : Nat) : Int) = 0 by omega] at h2
              have HBN := Lib.hid (HBR.out.take 0)
              have HBD := Lib.hid (HBR.out.cut 0 cR (by simp; omega))
              obtain ⟨r, hr⟩ : ∃ r, allF 16384 (l ++ (bs.drop j).take 0).length (l ++ (bs.drop j).take 0) = r := ⟨_, rfl⟩
              cases r with
              | none =>
                exfalso
                have e := HC.out.next 0 (by omega)
                rw [hr] at e
                have e2 := allF_chunk (most := 16384) _ (bs.take (j + 0)) (bs.drop (j + 0)) (Nat.le_refl _)
                rw [List.take_append_drop, e, HTOT.out] at e2
                simp at e2
              | some P' =>
                have hcnt := HC.out.count (by omega) 0 (by omega) hr
                have HRr := Lib.hid hr
                go_wp2_with fail
                (with_reducible refine (rfeed_some p 16384 l v AR 0 cR ((bs.drop j).take 0) P' wr HC.out.r HNL.out (HBN.out.fresh HFr.out) (by omega) hr).mono ?_)
                rintro e w6 ⟨A6, n6, c6, fs6, v6, rfl, rfl, ho6, hfs6, hr6, hO6, hv6, hne6⟩
                obtain ⟨A7, c7, w7, hap7, hch7⟩ := HC.out.feed (by omega) 0 (by omega) hr rfl ho6 hfs6 hr6 hO6 hv6 hne6 _ rfl hcnt
                have HC7 := Lib.hid hch7
                clear ho6 hfs6 hr6 hO6 hv6 hne6 hch7 hr
                go_wp2_with (at_builtin; with_reducible refine wp_app rfl (.tmp 79) (.tmp 80) _ rfl hap7 rfl rfl rfl ?_)
                go_roundw
                case rel => exact ⟨k + 1, j + 0, RL, P'.2, v6, gfs ++ fs6, cutA AR 0 cR, cR - 0, by omega, by go_num, rfl, rfl, by omega, by omega, by have := HcR.out; unfold maxLen at this ⊢; omega, by have := HBD.out; rwa [List.drop_drop] at this, HC7.out⟩
                case measure => simp [intOf]; omega
            · by_cases hzl : z ≤ (RL : Int)
              · obtain ⟨m, rfl⟩ : ∃ m : Nat, z = (m : Int) := ⟨z.toNat, by omega⟩
                have hz0' : ¬ (m : Int) < 0 := by omega
                have hzl' : ¬ (RL : Int) < (m : Int) := by omega
                have hmR : m ≤ RL := by omega
                have HNL : Hid (((bs.drop j).take m).length = m) := by show _ = _; rw [List.length_take, List.length_drop]; omega
                have h1 := run_cut_to (P := Try.prog) Try.underlying29 u8_size AR RL cR m (by omega)
                have h2 := run_cut_from (P := Try.prog) Try.underlying29 u8_size AR RL cR m (by omega)
                have HBN := Lib.hid (HBR.out.take m)
                have HBD := Lib.hid (HBR.out.cut m cR (by simp; omega))
                obtain ⟨r, hr⟩ : ∃ r, allF 16384 (l ++ (bs.drop j).take m).length (l ++ (bs.drop j).take m) = r := ⟨_, rfl⟩
                cases r with
                | none =>
                  exfalso
                  have e := HC.out.next m (by omega)
                  rw [hr] at e
                  have e2 := allF_chunk (most := 16384) _ (bs.take (j + m)) (bs.drop (j + m)) (Nat.le_refl _)
                  rw [List.take_append_drop, e, HTOT.out] at e2
                  simp at e2
                | some P' =>
                  have hcnt := HC.out.count (by omega) m (by omega) hr
                  have HRr := Lib.hid hr
                  go_wp2_with fail
                  (with_reducible refine (rfeed_some p 16384 l v AR m cR ((bs.drop j).take m) P' wr HC.out.r HNL.out (HBN.out.fresh HFr.out) (by omega) hr).mono ?_)
                  rintro e w6 ⟨A6, n6, c6, fs6, v6, rfl, rfl, ho6, hfs6, hr6, hO6, hv6, hne6⟩
                  obtain ⟨A7, c7, w7, hap7, hch7⟩ := HC.out.feed (by omega) m (by omega) hr rfl ho6 hfs6 hr6 hO6 hv6 hne6 _ rfl hcnt
                  have HC7 := Lib.hid hch7
                  clear ho6 hfs6 hr6 hO6 hv6 hne6 hch7 hr
                  go_wp2_with (at_builtin; with_reducible refine wp_app rfl (.tmp 79) (.tmp 80) _ rfl hap7 rfl rfl rfl ?_)
                  go_roundw
                  case rel => exact ⟨k + 1, j + m, RL - m, P'.2, v6, gfs ++ fs6, cutA AR m cR, cR - m, by omega, by go_num, rfl, rfl, by omega, by omega, by have := HcR.out; unfold maxLen at this ⊢; omega, by have := HBD.out; rwa [List.drop_drop] at this, HC7.out⟩
                  case measure => simp [intOf]; omega
              · have hzl' : (RL : Int) < z := by omega
                have hz0' : ¬ z < 0 := hz0
                have HNL : Hid (((bs.drop j).take RL).length = RL) := by show _ = _; rw [List.length_take, List.length_drop]; omega
                have h1 := run_cut_to (P := Try.prog) Try.underlying29 u8_size AR RL cR RL (by omega)
                have h2 := run_cut_from (P := Try.prog) Try.underlying29 u8_size AR RL cR RL (by omega)
                have HBN := Lib.hid (HBR.out.take RL)
                have HBD := Lib.hid (HBR.out.cut RL cR (by simp; omega))
                obtain ⟨r, hr⟩ : ∃ r, allF 16384 (l ++ (bs.drop j).take RL).length (l ++ (bs.drop j).take RL) = r := ⟨_, rfl⟩
                cases r with
                | none =>
                  exfalso
                  have e := HC.out.next RL (by omega)
                  rw [hr] at e
                  have e2 := allF_chunk (most := 16384) _ (bs.take (j + RL)) (bs.drop (j + RL)) (Nat.le_refl _)
                  rw [List.take_append_drop, e, HTOT.out] at e2
                  simp at e2
                | some P' =>
                  have hcnt := HC.out.count (by omega) RL (by omega) hr
                  have HRr := Lib.hid hr
                  go_wp2_with fail
                  (with_reducible refine (rfeed_some p 16384 l v AR RL cR ((bs.drop j).take RL) P' wr HC.out.r HNL.out (HBN.out.fresh HFr.out) (by omega) hr).mono ?_)
                  rintro e w6 ⟨A6, n6, c6, fs6, v6, rfl, rfl, ho6, hfs6, hr6, hO6, hv6, hne6⟩
                  obtain ⟨A7, c7, w7, hap7, hch7⟩ := HC.out.feed (by omega) RL (by omega) hr rfl ho6 hfs6 hr6 hO6 hv6 hne6 _ rfl hcnt
                  have HC7 := Lib.hid hch7
                  clear ho6 hfs6 hr6 hO6 hv6 hne6 hch7 hr
                  go_wp2_with (at_builtin; with_reducible refine wp_app rfl (.tmp 79) (.tmp 80) _ rfl hap7 rfl rfl rfl ?_)
                  go_roundw
                  case rel => exact ⟨k + 1, j + RL, 0, P'.2, v6, gfs ++ fs6, cutA AR RL cR, cR - RL, by omega, by go_num, rfl, rfl, by omega, by omega, by have := HcR.out; unfold maxLen at this ⊢; omega, by have := HBD.out; rwa [List.drop_drop] at this, HC7.out⟩
                  case measure => simp [intOf]; omega
          · have hlt' : ¬ (k : Int) < (zs.length : Int) := by omega
            have hTK : (bs.drop j).take RL = bs.drop j := List.take_of_length_le (by simp; omega)
            have HNL : Hid (((bs.drop j).take RL).length = RL) := by show _ = _; rw [List.length_take, List.length_drop]; omega
            have HBN := Lib.hid (HBR.out.take RL)
            obtain ⟨r, hr⟩ : ∃ r, allF 16384 (l ++ (bs.drop j).take RL).length (l ++ (bs.drop j).take RL) = r := ⟨_, rfl⟩
            have hall := HC.out.all
            rw [← hTK, hr, HTOT.out] at hall
            cases r with
            | none => simp at hall
            | some P' =>
              simp at hall
              obtain ⟨M, hM⟩ : ∃ M, gfs.length + P'.1.length = M := ⟨_, rfl⟩
              have hcnt := HC.out.count (by omega) RL (by omega) hr
              rw [hM] at hcnt
              go_wp2_with fail
              (with_reducible refine (rfeed_some p 16384 l v AR RL cR ((bs.drop j).take RL) P' wr HC.out.r HNL.out (HBN.out.fresh HFr.out) (by omega) hr).mono ?_)
              rintro e w6 ⟨A6, n6, c6, fs6, v6, rfl, rfl, ho6, hfs6, hr6, hO6, hv6, hne6⟩
              obtain ⟨A7, c7, w7, hap7, hch7⟩ := HC.out.feed (by omega) RL (by omega) hr rfl ho6 hfs6 hr6 hO6 hv6 hne6 M hM hcnt
              have HC7 := Lib.hid hch7
              have HFS6 := Lib.hid hfs6
              have HF7 : Hid (Fresh w w7) := Below.trans HF5.out (Only.below HC7.out.on HF5.out.size (fun k e => by omega))
              have HQ7 := Lib.hid (HQ5.out.only HC7.out.on (fun e => hpq e.symm) (fun k hk e => by
                obtain ⟨cur, hc⟩ := HQ5.out.own.blk hk
                subst e
                exact hc.ne HR5.out.blk (by decide) rfl))
              have HOW7 : Hid (OwnF w7 w2.heap.size (.slice Aw P.1.length cw) fsw) := ⟨HOW.out.1.only HC7.out.on (fun k hk e => by
                obtain ⟨cur, hc⟩ := HOW.out.1.blk hk
                subst e
                exact hc.ne HR5.out.blk (by decide) rfl), HOW.out.2.only HC7.out.on (fun g cs hg e => by
                subst e
                exact hg.ne HR5.out.blk (by decide) rfl)⟩
              have hP1 : P.1.length = gfs.length + P'.1.length := by rw [hall]; simp
              have hP2 : P.2 = P'.2 := by rw [hall]
              have HP1 : Hid (P.1 = gfs.map Prod.fst ++ P'.1) := by show _ = _; rw [hall]
              have hnq : ((M : Int) != (P.1.length : Int)) = false := by rw [hP1, hM]; simp
              have HP2 := Lib.hid hP2
              have HPL := Lib.hid hP1
              have HM := Lib.hid hM
              have hwq : ((P'.2.length : Int) != (P'.2.length : Int)) = false := by simp
              clear ho6 hfs6 hr6 hO6 hv6 hne6 hch7 hr hall hTK hP1 hP2 hM
              go_wp2_with (at_builtin; with_reducible refine wp_app rfl (.tmp 97) (.tmp 98) _ rfl hap7 rfl rfl rfl ?_)
              with_reducible refine (rwaiting p 16384 P'.2 v6 w7 HC7.out.r).mono ?_
              rintro e w8 ⟨rfl, rfl⟩
              go_wp2_with fail
              with_reducible refine (rwaiting qp 16384 P.2 u w7 HQ7.out).mono ?_
              rintro e w8 ⟨rfl, rfl⟩
              rw [HP2.out]
              go_wp2
              clear hnq hwq hap7
              go_loopw [127] (fun i wr => ∃ (i0 : Nat), i0 ≤ M ∧ i = .int .i64 (i0 : Int) ∧ Fresh w7 wr) (fun i _ => M - (intOf i).toNat)
              case atStart => exact ⟨0, Nat.zero_le _, rfl, Fresh.refl _⟩
              case round =>
                obtain ⟨i0, hi0, rfl, hfv⟩ := hrel
                have HFV := Lib.hid hfv
                clear hfv
                by_cases hlti : i0 < M
                · have hPl : i0 < P.1.length := by have := HPL.out; have := HM.out; omega
                  obtain ⟨q0, hq0⟩ : ∃ q0, P.1[i0]? = some q0 := ⟨_, List.getElem?_eq_getElem hPl⟩
                  obtain ⟨a1, hp1⟩ : ∃ a1, (gfs ++ fs6)[i0]? = some (q0, a1) := by
                    have e : (gfs ++ fs6).map Prod.fst = P.1 := by rw [HP1.out, List.map_append, HFS6.out]
                    rw [← e, List.getElem?_map] at hq0
                    cases hq' : (gfs ++ fs6)[i0]? with
                    | none => rw [hq'] at hq0; simp at hq0
                    | some x => rw [hq'] at hq0; simp at hq0; exact ⟨x.2, by rw [← hq0]⟩
                  obtain ⟨a2, hp2⟩ : ∃ a2, fsw[i0]? = some (q0, a2) := by
                    rw [← HFSW.out, List.getElem?_map] at hq0
                    cases hq' : fsw[i0]? with
                    | none => rw [hq'] at hq0; simp at hq0
                    | some x => rw [hq'] at hq0; simp at hq0; exact ⟨x.2, by rw [← hq0]⟩
                  have hpay1 := (HC7.out.g.2 _ (List.mem_of_getElem? hp1)).1
                  have hpay2 := (HOW7.out.2 _ (List.mem_of_getElem? hp2)).1
                  obtain ⟨g, rfl, hg, hgb, c0, c1', c2', c3'⟩ := HC7.out.g.cells i0 _ hp1
                  obtain ⟨b, rfl, hbw, hbb, k0, k1, k2, k3⟩ := HOW7.out.cells i0 _ hp2
                  simp only [] at c0 c1' c2' c3' k0 k1 k2 k3 hpay1 hpay2
                  have HE := Lib.hid (fun W (h : Fresh w7 W) => fequal_at (q0.x.toNat : Int) (q0.y.toNat : Int) (q0.st : Int) a1 q0.pl.length q0.pl q0.pl.length (q0.x.toNat : Int) (q0.y.toNat : Int) (q0.st : Int) a2 q0.pl.length q0.pl q0.pl.length W true rfl rfl (hpay1.bs.fresh h) (hpay2.bs.fresh h) (by simp [frEq]))
                  have kk := fun o => HFV.out.cell (p := ⟨b, o, none⟩) hbw
                  have gg := fun o => HFV.out.cell (p := ⟨g, o, none⟩) hg
                  have HS8 : Hid (EightS wr g (i0 * 4) b (i0 * 4) (.int .i64 (q0.x.toNat : Int)) (.int .i64 (q0.y.toNat : Int)) (.int .i64 (q0.st : Int)) (.slice a1 q0.pl.length q0.pl.length) (.int .i64 (q0.x.toNat : Int)) (.int .i64 (q0.y.toNat : Int)) (.int .i64 (q0.st : Int)) (.slice a2 q0.pl.length q0.pl.length) wr.drew) :=
                    ⟨(gg _).trans c0, (gg _).trans c1', (gg _).trans c2', (gg _).trans c3', (kk _).trans k0, (kk _).trans k1, (kk _).trans k2, (kk _).trans k3, by have := HFV.out.size; simp; omega, by have := HFV.out.size; simp; omega, Fresh.drew _⟩
                  have i1 : (i0 : Int) < (P.1.length : Int) := by omega
                  have i2 : (i0 : Int) < (M : Int) := by omega
                  have i3 : (0 : Int) ≤ (i0 : Int) := by omega
                  clear c0 c1' c2' c3' k0 k1 k2 k3 kk gg hpay1 hpay2 hp1 hp2 hq0
                  go_wp2_with fail
                  go_region_held3 (fun w' => w'.cell? ⟨g, i0 * 4, none⟩ = some (.int .i64 (q0.x.toNat : Int)) ∧ w'.cell? ⟨g, i0 * 4 + 1, none⟩ = some (.int .i64 (q0.y.toNat : Int)) ∧ w'.cell? ⟨g, i0 * 4 + 2, none⟩ = some (.int .i64 (q0.st : Int)) ∧ w'.cell? ⟨g, i0 * 4 + 3, none⟩ = some (.slice a1 q0.pl.length q0.pl.length) ∧
                      w'.cell? ⟨b, i0 * 4, none⟩ = some (.int .i64 (q0.x.toNat : Int)) ∧ w'.cell? ⟨b, i0 * 4 + 1, none⟩ = some (.int .i64 (q0.y.toNat : Int)) ∧ w'.cell? ⟨b, i0 * 4 + 2, none⟩ = some (.int .i64 (q0.st : Int)) ∧ w'.cell? ⟨b, i0 * 4 + 3, none⟩ = some (.slice a2 q0.pl.length q0.pl.length) ∧
                      g < w'.heap.size ∧ b < w'.heap.size ∧ Fresh wr w')
                    (first | assumption | exact HS8.out | exact EightS.fresh (by assumption) hfk)
                    (first | (go_at_call 15; have hFr := EightS.fr (by assumption : EightS wr g (i0 * 4) b (i0 * 4) (.int .i64 (q0.x.toNat : Int)) (.int .i64 (q0.y.toNat : Int)) (.int .i64 (q0.st : Int)) (.slice a1 q0.pl.length q0.pl.length) (.int .i64 (q0.x.toNat : Int)) (.int .i64 (q0.y.toNat : Int)) (.int .i64 (q0.st : Int)) (.slice a2 q0.pl.length q0.pl.length) _); with_reducible refine (HE.out _ (HFV.out.trans hFr)).mono ?_; rintro e w9 ⟨rfl, hfk⟩))
                  have HF9 := Lib.hid (HFV.out.trans (hFr.trans hfk))
                  go_wp2
                  go_roundw
                  case rel => exact ⟨i0 + 1, by omega, by go_num, HF9.out⟩
                  case measure => simp [intOf]; omega
                · have hlti' : ¬ (i0 : Int) < (M : Int) := by omega
                  go_wp2_with fail
                  with_reducible refine (HW.out _).mono ?_
                  rintro e w9 ⟨rfl, hf9⟩
                  have HF9 := Lib.hid (HF7.out.trans (HFV.out.trans hf9))
                  clear hf9
                  go_wp2
                  go_ret
                  exact ⟨rfl, HF9.out⟩
end Go.Proofs.Ytgmgnokmeocmjaa
