/-
  The law ReasmPlays: its walk.
-/
import Derived.Test.YtgmgnokmeocmjaaReasmL
namespace Go.Proofs.Ytgmgnokmeocmjaa
set_option linter.unusedVariables false
open Go.RowKit

theorem rcut_none (l : List UInt8) (most : Int) (w : World) (hl : l.length ≤ 9223372036854775000) (hr : allF most l.length l = none) :
    Calls Try.prog 12 #[.string (strB l), .int .i64 most] w fun e w' => e = .returned (.tuple #[.int .i64 0, .int .i64 0, .int .i64 106]) ∧ Fresh w w' :=
  (rcut l most none w hl hr).mono fun _ _ ⟨_, h⟩ => h rfl
theorem rcut_some (l : List UInt8) (most : Int) (P : List Fr × List UInt8) (w : World) (hl : l.length ≤ 9223372036854775000) (hr : allF most l.length l = some P) :
    Calls Try.prog 12 #[.string (strB l), .int .i64 most] w fun e w' => e = .returned (.tuple #[.int .i64 (P.1.length : Int), .int .i64 ((l.length : Int) - (P.2.length : Int)), .int .i64 0]) ∧ Fresh w w' :=
  (rcut l most (some P) w hl hr).mono fun _ _ ⟨h, _⟩ => h P rfl
theorem rfeed_none (p : Nat) (most : Int) (l : List UInt8) (v : Value) (A : Option Addr) (n c : Nat) (b : List UInt8) (w : World) (h : RsAt w p most l v) (hn : b.length = n) (hB : BS w A b) (hb : n ≤ 1000000000) (hr : allF most (l ++ b).length (l ++ b) = none) :
    Calls Try.prog 10 #[.pointer (some ⟨p, 0, none⟩), .slice A n c] w (FeedNo p v w) :=
  (rfeed p most l v A n c b none w h hn hB hb hr).mono fun _ _ ⟨_, h⟩ => h rfl
theorem rfeed_some (p : Nat) (most : Int) (l : List UInt8) (v : Value) (A : Option Addr) (n c : Nat) (b : List UInt8) (P : List Fr × List UInt8) (w : World) (h : RsAt w p most l v) (hn : b.length = n) (hB : BS w A b) (hb : n ≤ 1000000000) (hr : allF most (l ++ b).length (l ++ b) = some P) :
    Calls Try.prog 10 #[.pointer (some ⟨p, 0, none⟩), .slice A n c] w (FeedOk p most v P w) :=
  (rfeed p most l v A n c b (some P) w h hn hB hb hr).mono fun _ _ ⟨h, _⟩ => h P rfl

/-- The reassembler, living or dead, beside the bytes l. -/
def RsSt (B : Nat) (wr : World) (p : Nat) (most : Int) (l : List UInt8) : Prop :=
  (∃ v, RsAt wr p most l v ∧ ∀ k, v.ownBlock = some k → B ≤ k) ∨ (RsDead wr p ∧ allF most l.length l = none)
theorem totB_each {ls : List BSl} (h : totB ls ≤ 500) : ∀ x ∈ ls, x.l.length ≤ 500 := fun x hx => by
  obtain ⟨k, hk⟩ := List.getElem?_of_mem hx
  have h1 := totB_take ls k x hk
  have h2 := totB_le ls (k + 1)
  omega

set_option maxRecDepth 100000 in
set_option maxHeartbeats 12800000 in
theorem ReasmPlays_any (most : Int) (s : BSls) (w : World) (_ : (Lit.int .i64 most).wf = true) (hs : s.Ok w) :
    Calls Try.prog 3 #[.int .i64 most, .slice s.A s.xs.length s.c] w fun e w' => e = .returned (.bool true) ∧ Below w.heap.size w w' := by
  have HW := Lib.hid awake_true
  have HSm := Lib.hid (fun W (h : s.Ok W) => lsmall s W h)
  obtain ⟨A, c, xs⟩ := s
  have HS := Lib.hid hs
  have hle := hs.le
  have hmax := hs.max
  have HROWS := Lib.hid hs.rows
  have HOK := Lib.hid hs.ok
  simp only [] at hle hmax HROWS HOK HSm ⊢
  clear hs
  cases hsm : smallB xs with
  | false =>
    rw [hsm] at HSm
    go_enter Try.func3, Try.ntmps3
    go_wp2_with fail
    with_reducible refine (HSm.out _ HS.out).mono ?_
    rintro e w2 ⟨rfl, rfl⟩
    go_wp2_with fail
    with_reducible refine (HW.out _).mono ?_
    rintro e w3 ⟨rfl, hf3⟩
    have HF3 := Lib.hid hf3
    clear hf3
    go_wp2
    go_ret
    exact ⟨rfl, HF3.out⟩
  | true =>
    rw [hsm] at HSm
    have ht5 : totB xs ≤ 500 := of_decide_eq_true hsm
    have HB5 := Lib.hid (totB_each ht5)
    have hln := small_len ht5
    by_cases hm : 0 ≤ most ∧ most < 16777216
    · obtain ⟨hm0, hm1⟩ := hm
      have hm0' : ¬ most < 0 := by omega
      have hm1' : ¬ 16777216 ≤ most := by omega
      clear hsm ht5
      go_enter Try.func3, Try.ntmps3
      go_wp2_with fail
      with_reducible refine (HSm.out _ HS.out).mono ?_
      rintro e w2 ⟨rfl, rfl⟩
      go_wp2_with fail
      with_reducible refine (rnew most _ hm0 (by omega)).mono ?_
      rintro e w1 ⟨p, rfl, hp, hr1, hf1⟩
      have HI : Hid (RsSt w.heap.size w1 p most []) := .inl ⟨_, hr1, fun k hk => by cases hk⟩
      have HF1 := Lib.hid hf1
      clear hr1 hf1
      have he0 : (ByteArray.empty) = strB [] := rfl
      go_wp2
      clear he0
      go_loopw [7, 43] (fun s i wr => ∃ (k : Nat) (l : List UInt8), k ≤ xs.length ∧ i = .int .i64 (k : Int) ∧ s = .string (strB l) ∧ l.length ≤ 20000000 ∧ Fresh w wr ∧ RsSt w.heap.size wr p most l) (fun _ i _ => xs.length - (intOf i).toNat)
      case atStart => exact ⟨0, [], Nat.zero_le _, rfl, rfl, by simp, HF1.out, HI.out⟩
      case round =>
        obtain ⟨k, l, hk, rfl, rfl, hll, hf, hst⟩ := hrel
        have HF := Lib.hid hf
        clear hf HI
        by_cases hlt : k < xs.length
        · have hlt' : (k : Int) < (xs.length : Int) := by omega
          obtain ⟨x, hx⟩ : ∃ x, xs[k]? = some x := ⟨_, List.getElem?_eq_getElem hlt⟩
          obtain ⟨b, o, rfl, hbw, k0⟩ := HROWS.out.one k x hx
          have hok := HOK.out x (List.mem_of_getElem? hx)
          have hx5 := HB5.out x (List.mem_of_getElem? hx)
          have j0 := (HF.out.cell (p := ⟨b, o + k, none⟩) hbw).trans k0
          have HBS := Lib.hid hok.bs
          obtain ⟨A2, c2, bl⟩ := x
          simp only [BSl.cells, List.getElem?_cons_zero] at j0 hx5 HBS
          clear hok hx k0
          have hls : (strB l).size = l.length := strB_size l
          rcases hst with ⟨v, hr, hv⟩ | ⟨hd, hno⟩
          · have HR := Lib.hid hr
            have HV := Lib.hid hv
            have hlen := hr.len
            clear hr hv
            obtain ⟨r, hr⟩ : ∃ r, allF most (l ++ bl).length (l ++ bl) = r := ⟨_, rfl⟩
            have hbs : (strB bl).size = bl.length := strB_size bl
            have hap : strB l ++ strB bl = strB (l ++ bl) := strB_append l bl
            have hLs : (strB (l ++ bl)).size = (l ++ bl).length := strB_size _
            have hLl : (l ++ bl).length = l.length + bl.length := List.length_append
            have HCB : Hid (∀ W, Fresh w W → (convert 29 9 (.slice A2 bl.length c2)).run Try.prog W = .ok (.string (strB bl)) W) := fun W h =>
              run_str (P := Try.prog) (HBS.out.fresh h) 29 9 5 Try.underlying29 Try.underlying5 Try.underlying9 c2
            cases r with
            | none =>
              have HFe := Lib.hid (rfeed_none p most l v A2 bl.length c2 bl wr HR.out rfl (HBS.out.fresh HF.out) (by omega) hr)
              have HCu := Lib.hid (fun W => rcut_none (l ++ bl) most W (by omega) hr)
              have HNo := Lib.hid hr
              clear hr hLl
              generalize hSl : strB l = S at *
              generalize hSb : strB bl = Sb at *
              generalize hSL : strB (l ++ bl) = SL at *
              have HSL := Lib.hid hSL
              clear hSl hSb hSL
              go_wp2_with fail
              with_reducible refine HFe.out.mono ?_
              rintro e w3 ⟨rfl, hd3, hO3⟩
              have hF3 : Fresh w w3 := Below.trans HF.out (Only.below hO3 HF.out.size (fun kk hk => by
                rcases hk with rfl | hk
                · exact hp
                · exact HV.out _ hk))
              have HF3 := Lib.hid hF3
              have HD3 := Lib.hid hd3
              have hcb := HCB.out w3 hF3
              clear hF3 hd3 hO3
              go_wp2_with fail
              with_reducible refine (rdead_yes p w3 HD3.out).mono ?_
              rintro e w4 ⟨rfl, rfl⟩
              go_wp2_with fail
              with_reducible refine (HCu.out _).mono ?_
              rintro e w4 ⟨rfl, hf4⟩
              have HF4 := Lib.hid (HF3.out.trans hf4)
              have HD4 := Lib.hid (HD3.out.fresh hf4)
              clear hf4 hcb
              go_wp2_with fail
              with_reducible refine (rdead_yes p w4 HD4.out).mono ?_
              rintro e w5 ⟨rfl, rfl⟩
              go_wp2_with fail
              with_reducible refine (rwaiting_dead p w4 HD4.out).mono ?_
              rintro e w5 ⟨rfl, rfl⟩
              go_wp2_with fail
              with_reducible refine (rneeds_dead p w4 HD4.out).mono ?_
              rintro e w5 ⟨rfl, rfl⟩
              go_wp2
              go_roundw
              case rel => exact ⟨k + 1, l ++ bl, by omega, by go_num, by rw [HSL.out], by simp; omega, HF4.out, .inr ⟨HD4.out, HNo.out⟩⟩
              case measure => simp [intOf]; omega
            | some P =>
              have HFe := Lib.hid (rfeed_some p most l v A2 bl.length c2 bl P wr HR.out rfl (HBS.out.fresh HF.out) (by omega) hr)
              have HCu := Lib.hid (fun W => rcut_some (l ++ bl) most P W (by omega) hr)
              obtain ⟨hsuf, hsl⟩ := allF_suffix _ _ P hr
              have hcut : (strB (l ++ bl)).extract ((l ++ bl).length - P.2.length) (l ++ bl).length = strB P.2 := by
                rw [strB_cut, List.take_length, hsuf]
              have hPs : (strB P.2).size = P.2.length := strB_size _
              clear hr hsuf
              generalize hSl : strB l = S at *
              generalize hSb : strB bl = Sb at *
              generalize hSL : strB (l ++ bl) = SL at *
              generalize hSP : strB P.2 = SP at *
              have HSP := Lib.hid hSP
              have hLe : ((l ++ bl).length : Int) - (P.2.length : Int) = (((l ++ bl).length - P.2.length : Nat) : Int) := by omega
              rw [hLe] at HCu
              have hLk : (l ++ bl).length - P.2.length ≤ (l ++ bl).length := by omega
              have hLk2 : (l ++ bl).length - ((l ++ bl).length - P.2.length) = P.2.length := by omega
              generalize (l ++ bl).length - P.2.length = at0 at *
              generalize (l ++ bl).length = LN at *
              have hLk' : (at0 : Int) ≤ (LN : Int) := by omega
              have HLk2 := Lib.hid hLk2
              have HLl := Lib.hid hLl
              clear hSl hSb hSL hSP hLe hLk2 hLl
              go_wp2_with fail
              with_reducible refine HFe.out.mono ?_
              rintro e w3 ⟨A3, n3, c3, fs, v3, rfl, rfl, ho3, hfs3, hr3, hO3, hv3, _⟩
              have hF3 : Fresh w w3 := Below.trans HF.out (Only.below hO3 HF.out.size (fun kk hk => by
                rcases hk with rfl | hk
                · exact hp
                · exact HV.out _ hk))
              have HF3 := Lib.hid hF3
              have HR3 := Lib.hid hr3
              have HV3 : Hid (∀ k, v3.ownBlock = some k → w.heap.size ≤ k) := fun kk hk => by
                rcases hv3 kk hk with h | h
                · exact HV.out _ h
                · have := HF.out.size; omega
              have hcb := HCB.out w3 hF3
              clear hF3 hr3 hO3 ho3 hfs3 hv3
              go_wp2_with fail
              with_reducible refine (rdead_no p most P.2 v3 w3 HR3.out).mono ?_
              rintro e w4 ⟨rfl, rfl⟩
              go_wp2_with fail
              with_reducible refine (HCu.out _).mono ?_
              rintro e w4 ⟨rfl, hf4⟩
              have HF4 := Lib.hid (HF3.out.trans hf4)
              have HR4 := Lib.hid (HR3.out.fresh hf4)
              have hplen := HR4.out.inv
              have hpl2 := parseK_16 hplen
              have hN3 := numL_take3 P.2
              have hpl3 : (P.2.length : Int) < most + 9 := by omega
              have hnd := needI_pos hplen
              clear hf4 hcb hplen hpl2 hN3
              go_wp2_with fail
              with_reducible refine (rdead_no p most P.2 v3 w4 HR4.out).mono ?_
              rintro e w5 ⟨rfl, rfl⟩
              go_wp2_with fail
              with_reducible refine (rwaiting p most P.2 v3 w4 HR4.out).mono ?_
              rintro e w5 ⟨rfl, rfl⟩
              go_wp2_with fail
              with_reducible refine (rwaiting p most P.2 v3 w4 HR4.out).mono ?_
              rintro e w5 ⟨rfl, rfl⟩
              go_wp2_with fail
              with_reducible refine (rneeds p most P.2 v3 w4 HR4.out).mono ?_
              rintro e w5 ⟨rfl, rfl⟩
              have hnd' : ¬ needI P.2 < 1 := by omega
              generalize needI P.2 = nd at *
              go_wp2
              go_roundw
              case rel => exact ⟨k + 1, P.2, by omega, by go_num, by rw [HSP.out], by have := HR4.out.len; omega, HF4.out, .inl ⟨v3, HR4.out, HV3.out⟩⟩
              case measure => simp [intOf]; omega
          · have HD := Lib.hid hd
            have HCu := Lib.hid (fun W => rcut_none l most W (by omega) hno)
            have HNo := Lib.hid hno
            have HSl : Hid (strB l = strB l) := rfl
            clear hd hno
            go_wp2_with fail
            with_reducible refine (rfeed_dead p _ wr HD.out).mono ?_
            rintro e w3 ⟨rfl, rfl⟩
            go_wp2_with fail
            with_reducible refine (rdead_yes p wr HD.out).mono ?_
            rintro e w4 ⟨rfl, rfl⟩
            go_wp2_with fail
            with_reducible refine (HCu.out _).mono ?_
            rintro e w4 ⟨rfl, hf4⟩
            have HF4 := Lib.hid (HF.out.trans hf4)
            have HD4 := Lib.hid (HD.out.fresh hf4)
            clear hf4
            go_wp2
            go_roundw
            case rel => exact ⟨k + 1, l, by omega, by go_num, rfl, hll, HF4.out, .inr ⟨HD4.out, HNo.out⟩⟩
            case measure => simp [intOf]; omega
        · have hlt' : ¬ (k : Int) < (xs.length : Int) := by omega
          clear hst
          go_wp2_with fail
          with_reducible refine (HW.out _).mono ?_
          rintro e w3 ⟨rfl, hf3⟩
          have HF3 := Lib.hid (HF.out.trans hf3)
          clear hf3
          go_wp2
          go_ret
          exact ⟨rfl, HF3.out⟩
    · by_cases hm0 : most < 0
      · clear hm hsm ht5
        go_enter Try.func3, Try.ntmps3
        go_wp2_with fail
        with_reducible refine (HSm.out _ HS.out).mono ?_
        rintro e w2 ⟨rfl, rfl⟩
        go_wp2_with fail
        with_reducible refine (HW.out _).mono ?_
        rintro e w3 ⟨rfl, hf3⟩
        have HF3 := Lib.hid hf3
        clear hf3
        go_wp2
        go_ret
        exact ⟨rfl, HF3.out⟩
      · have hm1 : (16777216 : Int) ≤ most := by omega
        clear hm hsm ht5
        go_enter Try.func3, Try.ntmps3
        go_wp2_with fail
        with_reducible refine (HSm.out _ HS.out).mono ?_
        rintro e w2 ⟨rfl, rfl⟩
        go_wp2_with fail
        with_reducible refine (HW.out _).mono ?_
        rintro e w3 ⟨rfl, hf3⟩
        have HF3 := Lib.hid hf3
        clear hf3
        go_wp2
        go_ret
        exact ⟨rfl, HF3.out⟩
end Go.Proofs.Ytgmgnokmeocmjaa
