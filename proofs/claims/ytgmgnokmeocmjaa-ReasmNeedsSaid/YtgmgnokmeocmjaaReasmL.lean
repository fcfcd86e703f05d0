/-
  The fixed answers of the laws of layer 11; small; the document's cut.
-/
import Derived.Test.YtgmgnokmeocmjaaReasmF
import Derived.Test.YtgmgnokmeocmjaaFrameR2
import Derived.Test.YtgmgnokmeocmjaaShapeW
namespace Go.Proofs.Ytgmgnokmeocmjaa
set_option linter.unusedVariables false
open Go.RowKit

set_option maxRecDepth 100000 in
theorem ping_all : allF 100 17 pingB = some ([⟨6, 0, 0, ping⟩], []) := by
  have e : rowB [⟨6, 0, 0, ping⟩] ++ [] = pingB := by
    simp only [rowB, List.flatMap_cons, List.flatMap_nil, List.append_nil]
    exact ping_bytes
  have h := allF_row [⟨6, 0, 0, ping⟩] (by intro q hq; rw [List.mem_singleton] at hq; subst hq; exact ⟨by show 0 ≤ 2147483647; omega, by show 8 ≤ 200; omega⟩) [] (Nat.zero_le _) 17 (by rw [e]; decide)
  rw [e] at h
  exact h
set_option maxRecDepth 100000 in
set_option maxHeartbeats 3200000 in
theorem awake_true (w : World) :
    Calls Try.prog 8 #[] w fun e w' => e = .returned (.bool true) ∧ Fresh w w' := by
  have kc := fun (w : World) (C : Array Value) (n c : Nat) => Lib.run_convert_bytes_const (P := Try.prog) w 29 5 C n c Try.underlying29 Try.underlying5
  have HNo := Lib.hid (fun W => rnew_no (-1) W (by omega))
  have HF1 : Hid (allF 100 (([] : List UInt8) ++ pingB.take 5).length ([] ++ pingB.take 5) = some ([], pingB.take 5)) := allF_16 (by decide)
  have HF2 : Hid (allF 100 (pingB.take 5 ++ pingB.drop 5).length (pingB.take 5 ++ pingB.drop 5) = some ([⟨6, 0, 0, ping⟩], [])) := ping_all
  have HN5 : Hid (needI (pingB.take 5) = 4) := by show _ = _; decide
  go_enter Try.func8, Try.ntmps8
  go_wp2_with fail
  with_reducible refine (rnew 100 _ (by omega) (by omega)).mono ?_
  rintro e w1 ⟨p, rfl, hp, hr1, hf1⟩
  have HR1 := Lib.hid hr1
  have HFr1 := Lib.hid hf1
  have hP : Hid (BS (w1.alloc (.cells #[.int .u8 49, .int .u8 50, .int .u8 51, .int .u8 52, .int .u8 53, .int .u8 54, .int .u8 55, .int .u8 56] 5 (8, 9))) (some ⟨w1.heap.size, 0, none⟩) ping) := BS.const w1 5 ping (8, 9)
  clear hr1 hf1
  go_wp2_with fail
  with_reducible refine (fbytes_at 6 0 0 6 0 0 _ 8 17 8 ping pingB _ (by decide) (by decide) (by decide) (by decide) ping_bytes (by decide) (by decide) (by decide) hP.out (by decide)).mono ?_
  rintro e w2 ⟨A2, c2, rfl, h2a, h2b, ho2, hf2⟩
  obtain ⟨g2, rfl, hg2, hgl, hc2, hm2, cur2, hcur2⟩ := ho2.pos (by omega)
  have hF12 : Fresh w1 w2 := (Fresh.alloc _ _).trans hf2
  have HR2 := Lib.hid (HR1.out.fresh hF12)
  have HFr2 := Lib.hid (HFr1.out.trans hF12)
  have hgp : g2 ≠ p := fun e' => by subst e'; exact hcur2.ne HR2.out.blk (by decide) rfl
  have hbs2 := ho2.bytes.1
  have hps := HR2.out.blk.lt
  have h1 := run_cut_to (P := Try.prog) Try.underlying29 u8_size (some ⟨g2, 0, none⟩) 17 c2 5 (by omega)
  have h2 := run_cut_from (P := Try.prog) Try.underlying29 u8_size (some ⟨g2, 0, none⟩) 17 c2 5 (by omega)
  rw [cutA_some g2 0 5 c2 (by omega)] at h2
  rw [show ((5 : Nat) : Int) = 5 by omega] at h1 h2
  have HB5 := Lib.hid (hbs2.take 5)
  have HD5 := Lib.hid (BS.drop hbs2 5)
  clear ho2 hf2 hF12 hbs2 hcur2
  go_wp2_with fail
  (with_reducible refine (rfeed p 100 [] _ (some ⟨g2, 0, none⟩) 5 c2 (pingB.take 5) _ w2 HR2.out (by decide) HB5.out (by omega) HF1.out).mono ?_)
  rintro e w3 ⟨h3, _⟩
  obtain ⟨A3, n3, c3, fs3, v3, rfl, rfl, ho3, hfs3, hr3, hO3, hv3, _⟩ := h3 _ rfl
  have HD3 := Lib.hid (HD5.out.only hO3 (fun b o e => by
    simp at e
    obtain ⟨rfl, _⟩ := e
    rintro (h | h)
    · exact hgp h
    · cases h))
  have HR3 := Lib.hid hr3
  have HO3 := Lib.hid hO3
  have HV3 := Lib.hid hv3
  clear h3 ho3 hfs3 hr3 hO3 hv3
  go_wp2_with fail
  with_reducible refine (rneeds p 100 _ v3 w3 HR3.out).mono ?_
  rintro e w4 ⟨rfl, rfl⟩
  rw [HN5.out]
  go_wp2_with fail
  (with_reducible refine (rfeed p 100 (pingB.take 5) v3 _ 12 (c2 - 5) (pingB.drop 5) _ w3 HR3.out (by decide) HD3.out (by omega) HF2.out).mono ?_)
  rintro e w5 ⟨h5, _⟩
  obtain ⟨A5, n5, c5, fs5, v5, rfl, rfl, ho5, hfs5, hr5, hO5, hv5, _⟩ := h5 _ rfl
  have HR5 := Lib.hid hr5
  have HO5 := Lib.hid hO5
  clear h5 ho5 hfs5 hr5 hO5 hv5
  go_wp2_with fail
  with_reducible refine (HNo.out _).mono ?_
  rintro e w6 ⟨rfl, rfl⟩
  go_wp2_with fail
  with_reducible refine (rwaiting p 100 [] v5 _ HR5.out).mono ?_
  rintro e w6 ⟨rfl, rfl⟩
  go_wp2
  go_ret
  refine ⟨rfl, ?_⟩
  have hs := HFr2.out.size
  have F3 : Fresh w w3 := Below.trans HFr2.out (Only.below HO3.out hs (fun k hk => by
    rcases hk with rfl | hk
    · exact hp
    · cases hk))
  exact Below.trans F3 (Only.below HO5.out F3.size (fun k hk => by
    rcases hk with rfl | hk
    · exact hp
    · rcases HV3.out k hk with h | h
      · cases h
      · omega))
def totB (ls : List BSl) : Nat := (ls.map fun b => 3 + b.l.length).sum
theorem totB_snoc (ls : List BSl) (b : BSl) : totB (ls ++ [b]) = totB ls + (3 + b.l.length) := by simp [totB]
theorem totB_take (ls : List BSl) (k : Nat) (b : BSl) (h : ls[k]? = some b) : totB (ls.take (k + 1)) = totB (ls.take k) + (3 + b.l.length) := by
  obtain ⟨hk, rfl⟩ := List.getElem?_eq_some_iff.1 h
  rw [List.take_succ_eq_append_getElem hk, totB_snoc]
theorem totB_append (a b : List BSl) : totB (a ++ b) = totB a + totB b := by simp [totB]
theorem totB_le (ls : List BSl) (k : Nat) : totB (ls.take k) ≤ totB ls := by
  have h : totB (ls.take k ++ ls.drop k) = totB ls := by rw [List.take_append_drop]
  rw [totB_append] at h
  omega
def smallB (ls : List BSl) : Bool := decide (totB ls ≤ 500)
theorem small_len {ls : List BSl} (h : totB ls ≤ 500) : ls.length * 3 ≤ 500 := by
  have key : ∀ ls : List BSl, ls.length * 3 ≤ totB ls := by
    intro ls
    induction ls with
    | nil => simp [totB]
    | cons b ls ih => simp [totB] at ih ⊢; omega
  have := key ls
  omega
set_option maxHeartbeats 800000 in
theorem lsmall (s : BSls) (w : World) (hs : s.Ok w) :
    Calls Try.prog 7 #[.slice s.A s.xs.length s.c] w fun e w' => e = .returned (.bool (smallB s.xs)) ∧ w = w' := by
  obtain ⟨A, c, xs⟩ := s
  have hle := hs.le
  have hmax := hs.max
  have HR := Lib.hid hs.rows
  have HO := Lib.hid hs.ok
  simp only [] at hle hmax HR HO ⊢
  clear hs
  go_enter Try.func7, Try.ntmps7
  go_wp2
  go_loop [3, 8] (fun t i => ∃ (k : Nat), k ≤ xs.length ∧ i = .int .i64 (k : Int) ∧ t = .int .i64 (totB (xs.take k) : Int) ∧ totB (xs.take k) ≤ 500) (fun _ i => xs.length - (intOf i).toNat)
  case atStart => exact ⟨0, by omega, rfl, rfl, by simp [totB]⟩
  case round =>
    obtain ⟨k, hk, rfl, rfl, hb⟩ := hrel
    by_cases hlt : k < xs.length
    · obtain ⟨x, hx⟩ : ∃ x, xs[k]? = some x := ⟨_, List.getElem?_eq_getElem hlt⟩
      obtain ⟨b, o, rfl, _, k0⟩ := HR.out.one k x hx
      have hok := HO.out x (List.mem_of_getElem? hx)
      have hl1 := hok.le
      have hl2 := hok.max
      have HT := Lib.hid (totB_take xs k x hx)
      have HLe := Lib.hid (totB_le xs (k + 1))
      obtain ⟨A2, c2, l⟩ := x
      simp only [BSl.cells, List.getElem?_cons_zero] at k0 hl1 hl2 HT
      clear hok hx
      generalize totB (xs.take k) = t at *
      by_cases h5 : 500 < t + (3 + l.length)
      · have h5' : (500 : Int) < (t : Int) + (3 + (l.length : Int)) := by omega
        go_wp2
        go_ret
        exact ⟨ret_bool (by unfold smallB; exact (decide_eq_false (by have := HT.out; have := HLe.out; omega)).symm), rfl⟩
      · have h5' : ¬ (500 : Int) < (t : Int) + (3 + (l.length : Int)) := by omega
        go_wp2
        go_round
        case rel => exact ⟨k + 1, by omega, by go_num, by rw [HT.out]; congr 1, by rw [HT.out]; omega⟩
        case measure => simp [intOf]; omega
    · obtain rfl : k = xs.length := by omega
      rw [List.take_length] at hb
      go_wp2
      go_ret
      exact ⟨ret_bool (by unfold smallB; exact (decide_eq_true hb).symm), rfl⟩
def CutPost (l : List UInt8) (r : Option (List Fr × List UInt8)) (w : World) (e : Ending) (w' : World) : Prop :=
  (∀ P, r = some P → e = .returned (.tuple #[.int .i64 (P.1.length : Int), .int .i64 ((l.length : Int) - (P.2.length : Int)), .int .i64 0]) ∧ Fresh w w') ∧
  (r = none → e = .returned (.tuple #[.int .i64 0, .int .i64 0, .int .i64 106]) ∧ Fresh w w')
def CutRel (most : Int) (l : List UInt8) (tot : Option (List Fr × List UInt8)) (a n : Value) : Prop :=
  ∃ (k : Nat) (qs : List Fr) (m : Nat), k ≤ l.length ∧ a = .int .i64 (k : Int) ∧ n = .int .i64 (qs.length : Int) ∧ (l.drop k).length ≤ m ∧ tot = (allF most m (l.drop k)).map (fun p => (qs ++ p.1, p.2)) ∧ qs.length ≤ k
set_option maxRecDepth 100000 in
set_option maxHeartbeats 1600000 in
theorem rcut (l : List UInt8) (most : Int) (r : Option (List Fr × List UInt8)) (w : World) (hl : l.length ≤ 9223372036854775000) (hr : allF most l.length l = r) :
    Calls Try.prog 12 #[.string (strB l), .int .i64 most] w (CutPost l r w) := by
  have HS : Hid (CutRel most l r (.int .i64 0) (.int .i64 0)) := ⟨0, [], l.length, Nat.zero_le _, rfl, rfl, by simp, by rw [List.drop_zero, hr]; cases r <;> simp, Nat.le_refl _⟩
  have hsz : (strB l).size = l.length := strB_size l
  have HC := Lib.hid (fun k => strB_cut l k l.length)
  clear hr
  generalize strB l = S at *
  go_enter Try.func12, Try.ntmps12
  go_wp2
  go_loopw [7, 8] (fun a n wr => CutRel most l r a n ∧ Fresh w wr) (fun a _ _ => l.length - (intOf a).toNat)
  case atStart => exact ⟨HS.out, Fresh.refl _⟩
  case round =>
    obtain ⟨⟨k, qs, m, hk, rfl, rfl, hm, ht, hq⟩, hf⟩ := hrel
    have HT := Lib.hid ht
    have HF := Lib.hid hf
    have hcut := HC.out k
    rw [List.take_length] at hcut
    have hdl : (l.drop k).length = l.length - k := by simp
    have hkl : (k : Int) ≤ (l.length : Int) := by omega
    clear ht hf HS
    rcases parseK_cases (l.drop k) most with h | h | h
    · have HP := Lib.hid (rparse_no (l.drop k) most wr (by omega) 16 16 h (by omega) (by omega))
      have HR : Hid (r = some (qs, l.drop k)) := by show _ = _; rw [HT.out, allF_16 h]; simp
      clear h
      generalize hT2 : strB (l.drop k) = T2 at *
      clear hT2
      go_wp2_with fail
      with_reducible refine HP.out.mono ?_
      rintro e w3 ⟨rfl, hf3⟩
      have HF3 := Lib.hid (HF.out.trans (hf3.trans (Fresh.alloc w3 (.cells #[.int .i64 0, .int .i64 0, .int .i64 0, .int .i64 0] 51))))
      clear hf3
      go_wp2
      go_ret3
      refine ⟨fun P hP => ?_, (fun hN => by rw [HR.out] at hN; cases hN)⟩
      rw [HR.out] at hP
      cases hP
      refine ⟨?_, HF3.out⟩
      simp only []
      rw [hdl, show ((l.length : Int) - ((l.length - k : Nat) : Int)) = (k : Int) by omega]
      rfl
    · have HP := Lib.hid (rparse_no (l.drop k) most wr (by omega) 106 106 h (by omega) (by omega))
      have HR : Hid (r = none) := by show _ = _; rw [HT.out, allF_106 hm h]; rfl
      clear h
      generalize hT2 : strB (l.drop k) = T2 at *
      clear hT2
      go_wp2_with fail
      with_reducible refine HP.out.mono ?_
      rintro e w3 ⟨rfl, hf3⟩
      have HF3 := Lib.hid (HF.out.trans (hf3.trans (Fresh.alloc w3 (.cells #[.int .i64 0, .int .i64 0, .int .i64 0, .int .i64 0] 51))))
      clear hf3
      go_wp2
      go_ret3
      exact ⟨(fun P hP => by rw [HR.out] at hP; cases hP), fun _ => ⟨rfl, HF3.out⟩⟩
    · obtain ⟨m2, hm2, hA0⟩ := allF_0 hm h
      obtain ⟨hp1, hp2, hp3⟩ := headF_pl h
      have hx : (l.drop k)[3]? = some (headF (l.drop k)).x := by
        rw [List.getElem?_eq_getElem (by omega)]
        simp [headF, List.getD, List.getElem?_eq_getElem (show k + 3 < l.length by omega)]
      have hy : (l.drop k)[4]? = some (headF (l.drop k)).y := by
        rw [List.getElem?_eq_getElem (by omega)]
        simp [headF, List.getD, List.getElem?_eq_getElem (show k + 4 < l.length by omega)]
      have HP := Lib.hid (rparse_ok (l.drop k) most wr (by omega) _ _ (headF (l.drop k)).pl.length (headF (l.drop k)).st h hp1.symm hx hy rfl)
      have hlf : lenF (l.drop k) = 9 + (headF (l.drop k)).pl.length := by unfold lenF; omega
      have HN : Hid (CutRel most l r (.int .i64 ((k : Int) + (9 + ((headF (l.drop k)).pl.length : Int)))) (.int .i64 ((qs.length : Int) + 1))) := by
        refine ⟨k + (9 + (headF (l.drop k)).pl.length), qs ++ [headF (l.drop k)], m2, by omega, by congr 1, by simp, ?_, ?_, by simp; omega⟩
        · rw [← hlf, ← List.drop_drop]; exact hm2
        · rw [← hlf, ← List.drop_drop, HT.out, hA0]
          cases allF most m2 ((l.drop k).drop (lenF (l.drop k))) <;> simp
      clear h hx hy hp1 hA0 hlf hm2
      generalize headF (l.drop k) = hd at *
      generalize hT2 : strB (l.drop k) = T2 at *
      clear hT2
      go_wp2_with fail
      with_reducible refine HP.out.mono ?_
      rintro e w3 ⟨rfl, hf3⟩
      have HF3 := Lib.hid (HF.out.trans (hf3.trans (Fresh.alloc w3 (.cells #[.int .i64 (hd.x.toNat : Int), .int .i64 (hd.y.toNat : Int), .int .i64 (hd.st : Int), .int .i64 (9 + (hd.pl.length : Int))] 51))))
      clear hf3
      go_wp2
      go_roundw
      case rel => exact ⟨HN.out, HF3.out⟩
      case measure => simp [intOf]; omega
end Go.Proofs.Ytgmgnokmeocmjaa
