/-
  The law OctetReads: its walk.
-/
import Derived.Test.YtjbonafpolmmmaaOctetR
namespace Go.Proofs.Ytjbonafpolmmmaa
set_option linter.unusedVariables false
open Go.RowKit

/-- Where the main loop stands: the reader has the rest, the text is the rest. -/
def ReadsRel (w : World) (l : List UInt8) (p g : Nat) (n : Nat) (AL : Option Addr) (R : Nat → Nat → Int) (s : Value) (wr : World) : Prop :=
  ∃ (full : List UInt8) (o : Nat) (A : Option Addr) (c : Nat), RdAt wr p g full o A c ∧ full.length = l.length ∧ full.drop o = l.drop o ∧ s = .string (strB (l.drop o)) ∧ IntRows wr 2 AL n R ∧ Below w.heap.size w wr

theorem ReadsRel.took {w : World} {l : List UInt8} {p g n : Nat} {AL : Option Addr} {R : Nat → Nat → Int} {wr W W' : World} {full : List UInt8} {o : Nat} {A : Option Addr} {c : Nat} (hwp : w.heap.size ≤ p) (hL : IntRows w 2 AL n R) (hrd : RdAt wr p g full o A c) (hfl : full.length = l.length) (hfd : full.drop o = l.drop o) (hb : Below w.heap.size w wr)
    (m : Nat) (hm : m ≤ (l.drop o).length) (hf : Fresh wr W) (hi : InAt W' p (cutA A m c) (c - m) ((l.drop o).drop m)) (ho : Only (· = p) W W') :
    ReadsRel w l p g n AL R (.string (strB ((l.drop o).drop m))) W' := by
  have hbl : Below w.heap.size w W' := Below.trans hb ((hf.mono hb.size).trans (Only.below ho (by have := hb.size; have := hf.size; omega) (fun k e => by omega)))
  exact ⟨full, o + m, _, _, (hrd.fresh hf).took m (by rw [hfd]; exact hm) (by rw [hfd]; exact hi) ho, hfl, by rw [← List.drop_drop, ← List.drop_drop, hfd], by rw [List.drop_drop], hL.fresh hbl, hbl⟩

theorem ReadsRel.done {w : World} {l : List UInt8} {p g n : Nat} {AL : Option Addr} {R : Nat → Nat → Int} {wr W W' : World} {full : List UInt8} {o : Nat} {A : Option Addr} {c : Nat} (hwp : w.heap.size ≤ p) (hL : IntRows w 2 AL n R) (hrd : RdAt wr p g full o A c) (hfl : full.length = l.length) (hb : Below w.heap.size w wr)
    (hf : Fresh wr W) (hi : InAt W' p none 0 []) (ho : Only (· = p) W W') :
    ReadsRel w l p g n AL R (.string ByteArray.empty) W' := by
  have hbl : Below w.heap.size w W' := Below.trans hb ((hf.mono hb.size).trans (Only.below ho (by have := hb.size; have := hf.size; omega) (fun k e => by omega)))
  have e1 : l.drop full.length = [] := by rw [hfl, List.drop_length]
  exact ⟨full, full.length, _, _, (hrd.fresh hf).done hi ho, hfl, by rw [e1, List.drop_length], by rw [e1]; rfl, hL.fresh hbl, hbl⟩

/-- While the bytes that were taken are changed: the rest stays. -/
def TookRel (w : World) (l : List UInt8) (p g : Nat) (n : Nat) (AL : Option Addr) (R : Nat → Nat → Int) (o1 : Nat) (wr : World) : Prop :=
  ∃ (full : List UInt8) (A : Option Addr) (c : Nat), RdAt wr p g full o1 A c ∧ full.length = l.length ∧ full.drop o1 = l.drop o1 ∧ IntRows wr 2 AL n R ∧ Below w.heap.size w wr

theorem TookRel.reads {w : World} {l : List UInt8} {p g n : Nat} {AL : Option Addr} {R : Nat → Nat → Int} {o1 : Nat} {wr : World} (h : TookRel w l p g n AL R o1 wr) : ReadsRel w l p g n AL R (.string (strB (l.drop o1))) wr := by
  obtain ⟨full, A, c, h1, h2, h3, h4, h5⟩ := h
  exact ⟨full, o1, A, c, h1, h2, h3, rfl, h4, h5⟩
theorem TookRel.rd {w : World} {l : List UInt8} {p g n : Nat} {AL : Option Addr} {R : Nat → Nat → Int} {o1 : Nat} {wr : World} (h : TookRel w l p g n AL R o1 wr) : ∃ A c, InAt wr p A c (l.drop o1) := by
  obtain ⟨full, A, c, h1, h2, h3, h4, h5⟩ := h
  exact ⟨A, c, h3 ▸ h1.rd⟩
theorem TookRel.fresh {w : World} {l : List UInt8} {p g n : Nat} {AL : Option Addr} {R : Nat → Nat → Int} {o1 : Nat} {wr wr' : World} (h : TookRel w l p g n AL R o1 wr) (hf : Fresh wr wr') : TookRel w l p g n AL R o1 wr' := by
  obtain ⟨full, A, c, h1, h2, h3, h4, h5⟩ := h
  exact ⟨full, A, c, h1.fresh hf, h2, h3, h4.fresh hf, Below.trans h5 (hf.mono h5.size)⟩
theorem TookRel.step {w : World} {l : List UInt8} {p g n : Nat} {AL : Option Addr} {R : Nat → Nat → Int} {o1 : Nat} {wr : World} (h : TookRel w l p g n AL R o1 wr) (hL : IntRows w 2 AL n R) (hg : w.heap.size ≤ g) (j : Nat) (hj : j < o1) :
    wr.frozen? ⟨g, j, none⟩ = false ∧ ∃ x : UInt8, wr.cell? ⟨g, j, none⟩ = some (.int .u8 (x.toNat : Int)) ∧ ∀ y : UInt8, TookRel w l p g n AL R o1 (wr.setCell ⟨g, j, none⟩ (.int .u8 (y.toNat : Int))) := by
  obtain ⟨full, A, c, h1, h2, h3, h4, h5⟩ := h
  have hle := h1.le
  refine ⟨h1.blk.frozen j, full[j], h1.blk.byte j (by omega), fun y => ?_⟩
  have hb : Below w.heap.size w (wr.setCell ⟨g, j, none⟩ (byteV y)) := Below.trans h5 (Only.below (Only.setCell wr _ _) h5.size (by simp; omega))
  exact ⟨full.set j y, A, c, h1.write j hj y, by simpa using h2, by rw [drop_set_lt _ _ _ _ hj, h3], hL.fresh hb, hb⟩
theorem ReadsRel.took2 {w : World} {l : List UInt8} {p g n : Nat} {AL : Option Addr} {R : Nat → Nat → Int} {wr W W' : World} {full : List UInt8} {o : Nat} {A : Option Addr} {c : Nat} (hwp : w.heap.size ≤ p) (hL : IntRows w 2 AL n R) (hrd : RdAt wr p g full o A c) (hfl : full.length = l.length) (hfd : full.drop o = l.drop o) (hb : Below w.heap.size w wr)
    (m : Nat) (hm : m ≤ (l.drop o).length) (hf : Fresh wr W) (hi : InAt W' p (cutA A m c) (c - m) ((l.drop o).drop m)) (ho : Only (· = p) W W') :
    TookRel w l p g n AL R (o + m) W' := by
  have hbl : Below w.heap.size w W' := Below.trans hb ((hf.mono hb.size).trans (Only.below ho (by have := hb.size; have := hf.size; omega) (fun k e => by omega)))
  exact ⟨full, _, _, (hrd.fresh hf).took m (by rw [hfd]; exact hm) (by rw [hfd]; exact hi) ho, hfl, by rw [← List.drop_drop, ← List.drop_drop, hfd], hL.fresh hbl, hbl⟩

set_option maxRecDepth 100000 in
set_option maxHeartbeats 8000000 in
theorem OctetReads_any (A : Option Addr) (l : List UInt8) (c : Nat) (AL : Option Addr) (n cL : Nat) (R : Nat → Nat → Int) (w : World) (hlc : l.length ≤ c) (hcm : c ≤ maxLen) (hA : BS w A l) (hnm : n ≤ maxLen) (hL : IntRows w 2 AL n R) :
    Calls Try.prog 5 #[.slice A l.length c, .slice AL n cL] w fun e w' => e = .returned (.bool true) ∧ Below w.heap.size w w' := by
  unfold maxLen at hcm hnm
  have HW := Lib.hid awake_true
  by_cases h500 : 500 < l.length
  · have h500' : (500 : Int) < (l.length : Int) := by omega
    clear hA hL
    go_enter Try.func5, Try.ntmps5
    go_wp2_with fail
    with_reducible refine (HW.out _).mono ?_
    rintro e w3 ⟨rfl, hf3⟩
    have HF3 := Lib.hid hf3
    clear hf3
    go_wp2
    go_ret
    exact ⟨rfl, HF3.out⟩
  · have h500' : ¬ (500 : Int) < (l.length : Int) := by omega
    by_cases h100 : 100 < n
    · have h100' : (100 : Int) < (n : Int) := by omega
      clear hA hL
      go_enter Try.func5, Try.ntmps5
      go_wp2_with fail
      with_reducible refine (HW.out _).mono ?_
      rintro e w3 ⟨rfl, hf3⟩
      have HF3 := Lib.hid hf3
      clear hf3
      go_wp2
      go_ret
      exact ⟨rfl, HF3.out⟩
    · have h100' : ¬ (100 : Int) < (n : Int) := by omega
      obtain ⟨v2, w2, hap2, ho2, hb2, _⟩ := Own.more (P := Try.prog) Try.underlying23 u8_info 23 (Own.lit (w := w) (base := w.heap.size) (E := 5) (sz := 1) (n := 0) (cs := #[]) (Nat.le_refl _) (by simp [maxLen]) rfl) ((Below.refl w.heap.size w).alloc (Nat.le_refl _) _) (Nat.le_refl _) A c l (hA.fresh (Fresh.alloc _ _)) hlc (by unfold maxLen; omega) (by omega)
      simp only [Nat.zero_add, List.nil_append] at hap2 ho2
      have ho2' : Own w2 w.heap.size 5 1 v2 l.length (l.map byteV) := by simpa using ho2
      obtain ⟨A2, c2, rfl, hlc2, hcm2, hA2⟩ := ho2'.slice
      have hbs2 := ho2'.bytes.1
      have HA2 := Lib.hid hA2
      have HO2 := Lib.hid ho2'
      have HF2 : Hid (Fresh w w2) := hb2
      have HN := Lib.hid (onew A2 c2 l w2 hbs2 (by omega))
      have HA := Lib.hid hA
      have HL := Lib.hid hL
      clear ho2 ho2' hbs2 hb2 hA2 hA hL
      unfold NewPost at HN
      go_enter Try.func5, Try.ntmps5
      go_wp2_with (at_builtin; first | with_reducible refine wp_app rfl _ _ _ rfl hap2 rfl rfl rfl ?_ | refine wp_app rfl _ _ _ rfl hap2 rfl rfl rfl ?_)
      with_reducible refine HN.out.mono ?_
      rintro e w3 ⟨rfl, hI3, hB3, hf3⟩
      have HR3 := Lib.hid (RdAt.new hI3 hB3)
      have HF3 := Lib.hid hf3
      clear hI3 hB3 hf3 hap2
      have hI : IncRel w A2 c2 0 w2.heap.size 0 l AL n R w3 := ⟨⟨l, rfl, HO2.out.fresh HF3.out⟩, HA2.out, HR3.out, HF2.out.trans (HF3.out)⟩
      have HI := Lib.hid hI
      clear hI HO2 HA2 HR3 HN
      have hwg : w.heap.size ≤ w2.heap.size := HF2.out.size
      have HWG : Hid (w.heap.size ≤ w2.heap.size + 1) := by show _ ≤ _; omega
      have HWG0 : Hid (w.heap.size ≤ w2.heap.size) := hwg
      clear hwg
      generalize w2.heap.size = g at *
      go_wp2
      go_loopw [36] (fun i wr => ∃ (k : Nat), k ≤ l.length ∧ i = .int .i64 k ∧ IncRel w A2 c2 0 g 0 l AL n R wr) (fun i _ => l.length - (intOf i).toNat)
      case atStart => exact ⟨0, by omega, rfl, HI.out⟩
      case round =>
        obtain ⟨k, hk, rfl, hI⟩ := hrel
        by_cases hlt : k < l.length
        · have hlt' : (k : Int) < (l.length : Int) := by omega
          obtain ⟨b, rfl, hz, x, hc, hst⟩ := hI.step k hlt
          have hx8 := UInt8.toNat_lt x
          have hxx : ((x.toNat : Int) + 1) % 256 = ((x + 1).toNat : Int) := by simp
          have HS : Hid (IncRel w (some ⟨b, 0, none⟩) c2 0 g 0 l AL n R (wr.setCell ⟨b, k, none⟩ (.int .u8 ((x + 1).toNat : Int)))) := hst (x + 1)
          clear hI hst HI
          generalize (x + 1).toNat = y at *
          go_wp2
          go_roundw
          case rel => exact ⟨k + 1, by omega, by go_num, HS.out⟩
          case measure => simp [intOf]; omega
        · have hlt' : ¬ (k : Int) < (l.length : Int) := by omega
          obtain ⟨_, _, hrd, hbl⟩ := hI
          have hs := run_str (P := Try.prog) (HA.out.fresh hbl) 23 9 5 Try.underlying23 Try.underlying5 Try.underlying9 c
          have HM : Hid (ReadsRel w l (g + 1) g n AL R (.string (strB l)) wr) := ⟨l, 0, _, _, hrd, rfl, rfl, by simp, HL.out.fresh hbl, hbl⟩
          clear hrd hbl HI
          obtain ⟨S, hS⟩ : ∃ S, S = strB l := ⟨_, rfl⟩
          rw [← hS] at hs HM
          have HSS := Lib.hid hS
          clear hS
          go_wp2
          clear hs
          go_loopw [8, 50] (fun s i wr => ∃ (k : Nat), k ≤ n ∧ i = .int .i64 k ∧ ReadsRel w l (g + 1) g n AL R s wr) (fun _ i _ => n - (intOf i).toNat)
          case atStart => exact ⟨0, by omega, rfl, HM.out⟩
          case round =>
            obtain ⟨k, hk, rfl, hI⟩ := hrel
            obtain ⟨full, o, A1, c1, hrd, hfl, hfd, rfl, hrows, hbl⟩ := hI
            have HRD := Lib.hid hrd
            have HBL := Lib.hid hbl
            have HFL := Lib.hid hfl
            have HFD := Lib.hid hfd
            have hrd1 := hrd.rd
            rw [hfd] at hrd1
            have HIN := Lib.hid hrd1
            clear hfl hfd hrd1
            have hrl : (l.drop o).length ≤ l.length := by simp
            generalize hr : l.drop o = r at *
            have hsz : (strB r).size = r.length := strB_size r
            obtain ⟨S, hS⟩ : ∃ S, S = strB r := ⟨_, rfl⟩
            rw [← hS] at hsz ⊢
            have HSS := Lib.hid hS
            have HR := Lib.hid hr
            clear hS hr
            by_cases hlt : k < n
            · have hlt' : (k : Int) < (n : Int) := by omega
              obtain ⟨b2, o2, rfl, hb2, hcs⟩ := hrows.1 (by omega)
              have hc0 := hcs k 0 hlt (by omega)
              have hc1 := hcs k 1 hlt (by omega)
              have hw1 := hrows.2 k 1 hlt (by omega)
              have HROWS := Lib.hid hrows
              clear hrows hcs hrd hbl
              rw [Nat.add_zero] at hc0
              generalize R k 0 = K at *
              generalize R k 1 = N at *
              have HLe := Lib.hid (fun W h => oleft (g + 1) A1 c1 r W h)
              by_cases hK1 : K = 1
              · subst hK1
                have HBy := Lib.hid (obyte (g + 1) A1 c1 r _ (HIN.out.fresh (Fresh.alloc wr (.cells #[.int .i64 1, .int .i64 N] 36))))
                unfold BytePost at HBy
                by_cases hr0 : 0 < r.length
                · have hri : (0 : Int) < (r.length : Int) := by omega
                  have hS0 : ∀ h : 0 < S.size, S[0] = r[0] := fun h => by
                    have := HSS.out
                    subst this
                    rfl
                  have hx8 := UInt8.toNat_lt r[0]
                  go_wp2_with fail
                  with_reducible refine HBy.out.mono ?_
                  rintro e w5 ⟨h5, _⟩
                  obtain ⟨rfl, hI5, ho5⟩ := h5 hr0
                  clear h5
                  have hm := hrl
                  have HT : Hid (ReadsRel w l (g + 1) g n (some ⟨b2, o2, none⟩) R (.string (strB (r.drop 1))) w5) := by
                    have := ReadsRel.took HWG.out HL.out HRD.out HFL.out (by rw [HFD.out, HR.out]) HBL.out 1 (by rw [HR.out]; omega) (Fresh.alloc _ _) (by rw [HR.out]; exact hI5) ho5
                    rw [HR.out] at this
                    exact this
                  have hE : S.extract 1 r.length = strB (r.drop 1) := by rw [HSS.out, strB_extract, List.take_length]
                  obtain ⟨r1, hr1⟩ : ∃ r1, r1 = r.drop 1 := ⟨_, rfl⟩
                  rw [← hr1] at hE HT hI5
                  obtain ⟨T, hT⟩ : ∃ T, T = strB r1 := ⟨_, rfl⟩
                  rw [← hT] at hE HT
                  have hTs : T.size = r1.length := by rw [hT]; exact strB_size _
                  have HI5 := Lib.hid hI5
                  clear hI5 ho5 hT hr1 hm
                  go_wp2_with fail
                  with_reducible refine (oleft (g + 1) _ _ r1 _ HI5.out).mono ?_
                  rintro e w6 ⟨rfl, rfl⟩
                  go_wp2
                  go_roundw
                  case rel => exact ⟨k + 1, by omega, by go_num, HT.out⟩
                  case measure => simp [intOf]; omega
                · have hri : decide ((0 : Int) < (r.length : Int)) = false := decide_eq_false (by omega)
                  go_wp2_with fail
                  with_reducible refine HBy.out.mono ?_
                  rintro e w5 ⟨_, h5⟩
                  obtain ⟨rfl, rfl⟩ := h5 (by omega)
                  clear h5
                  go_wp2_with fail
                  with_reducible refine (HLe.out _ (HIN.out.fresh (Fresh.alloc _ _))).mono ?_
                  rintro e w5 ⟨rfl, rfl⟩
                  go_wp2
                  go_roundw
                  case rel => exact ⟨k + 1, by omega, by go_num, full, o, A1, c1, HRD.out.fresh (Fresh.alloc _ _), HFL.out, by rw [HFD.out, HR.out], by rw [HSS.out, HR.out], HROWS.out.fresh (Fresh.alloc _ _), HBL.out.alloc (by have := HBL.out.size; omega) _⟩
                  case measure => simp [intOf]; omega
              · by_cases hK2 : K = 2
                · subst hK2
                  clear hK1
                  by_cases hN : 0 ≤ N ∧ N ≤ r.length ∧ N ≤ 8
                  · obtain ⟨m, rfl⟩ : ∃ m : Nat, N = m := ⟨N.toNat, by omega⟩
                    have hmr : m ≤ r.length := by omega
                    have hm8 : m ≤ 8 := by omega
                    have hmr' : (m : Int) ≤ (r.length : Int) := by omega
                    have hm8' : (m : Int) ≤ 8 := by omega
                    have hm0' : (0 : Int) ≤ (m : Int) := by omega
                    have hpl : g + 1 < wr.heap.size := HIN.out.blk.lt
                    have HNy := Lib.hid (ornum_yes (g + 1) A1 c1 r m _ (HIN.out.fresh (Fresh.alloc wr (.cells #[.int .i64 2, .int .i64 m] 36))) hmr hm8)
                    unfold RNumPost at HNy
                    have HRf := Lib.hid (fun W => ref_num (r.take m) W (by simp; omega))
                    have hE0 : S.extract 0 m = strB (r.take m) := by rw [HSS.out, strB_extract]; rfl
                    obtain ⟨T0, hT0⟩ : ∃ T0, T0 = strB (r.take m) := ⟨_, rfl⟩
                    rw [← hT0] at hE0 HRf
                    clear hT0 hN
                    generalize numL (r.take m) = z at *
                    have hzz : ((z : Int) == (z : Int)) = true := beq_self_eq_true _
                    go_wp2_with fail
                    with_reducible refine HNy.out.mono ?_
                    rintro e w5 ⟨rfl, hI5, ho5⟩
                    have hcN : w5.cell? ⟨wr.heap.size, 1, none⟩ = some (.int .i64 m) := by
                      rw [ho5.cell (p := ⟨wr.heap.size, 1, none⟩) (by simp) (by show ¬ wr.heap.size = g + 1; omega)]
                      exact (Blk.new wr _ _).cell 1
                    have HT : Hid (ReadsRel w l (g + 1) g n (some ⟨b2, o2, none⟩) R (.string (strB (r.drop m))) w5) := by
                      have := ReadsRel.took HWG.out HL.out HRD.out HFL.out (by rw [HFD.out, HR.out]) HBL.out m (by rw [HR.out]; omega) (Fresh.alloc _ _) (by rw [HR.out]; exact hI5) ho5
                      rw [HR.out] at this
                      exact this
                    have hE : S.extract m r.length = strB (r.drop m) := by rw [HSS.out, strB_extract, List.take_length]
                    obtain ⟨r1, hr1⟩ : ∃ r1, r1 = r.drop m := ⟨_, rfl⟩
                    rw [← hr1] at hE HT hI5
                    obtain ⟨T, hT⟩ : ∃ T, T = strB r1 := ⟨_, rfl⟩
                    rw [← hT] at hE HT
                    have hTs : T.size = r1.length := by rw [hT]; exact strB_size _
                    have HI5 := Lib.hid hI5
                    clear hI5 ho5 hT hr1
                    go_wp2_with fail
                    with_reducible refine (HRf.out _).mono ?_
                    rintro e w6 ⟨rfl, rfl⟩
                    go_wp2_with fail
                    with_reducible refine (oleft (g + 1) _ _ r1 _ HI5.out).mono ?_
                    rintro e w6 ⟨rfl, rfl⟩
                    go_wp2
                    go_roundw
                    case rel => exact ⟨k + 1, by omega, by go_num, HT.out⟩
                    case measure => simp [intOf]; omega
                  · have HNo := Lib.hid (ornum_no (g + 1) A1 c1 r N _ (HIN.out.fresh (Fresh.alloc wr (.cells #[.int .i64 2, .int .i64 N] 36))) (fun h => hN h))
                    by_cases hn0 : N < 0
                    · clear hN
                      go_wp2_with fail
                      with_reducible refine (HNo.out).mono ?_
                      rintro e w5 ⟨rfl, rfl⟩
                      go_wp2_with fail
                      with_reducible refine (HLe.out _ (HIN.out.fresh (Fresh.alloc _ _))).mono ?_
                      rintro e w5 ⟨rfl, rfl⟩
                      go_wp2
                      go_roundw
                      case rel => exact ⟨k + 1, by omega, by go_num, full, o, A1, c1, HRD.out.fresh (Fresh.alloc _ _), HFL.out, by rw [HFD.out, HR.out], by rw [HSS.out, HR.out], HROWS.out.fresh (Fresh.alloc _ _), HBL.out.alloc (by have := HBL.out.size; omega) _⟩
                      case measure => simp [intOf]; omega
                    · by_cases hn8 : 8 < N
                      · clear hN
                        go_wp2_with fail
                        with_reducible refine (HNo.out).mono ?_
                        rintro e w5 ⟨rfl, rfl⟩
                        go_wp2_with fail
                        with_reducible refine (HLe.out _ (HIN.out.fresh (Fresh.alloc _ _))).mono ?_
                        rintro e w5 ⟨rfl, rfl⟩
                        go_wp2
                        go_roundw
                        case rel => exact ⟨k + 1, by omega, by go_num, full, o, A1, c1, HRD.out.fresh (Fresh.alloc _ _), HFL.out, by rw [HFD.out, HR.out], by rw [HSS.out, HR.out], HROWS.out.fresh (Fresh.alloc _ _), HBL.out.alloc (by have := HBL.out.size; omega) _⟩
                        case measure => simp [intOf]; omega
                      · have hnr : (r.length : Int) < N := by omega
                        clear hN
                        go_wp2_with fail
                        with_reducible refine (HNo.out).mono ?_
                        rintro e w5 ⟨rfl, rfl⟩
                        go_wp2_with fail
                        with_reducible refine (HLe.out _ (HIN.out.fresh (Fresh.alloc _ _))).mono ?_
                        rintro e w5 ⟨rfl, rfl⟩
                        go_wp2
                        go_roundw
                        case rel => exact ⟨k + 1, by omega, by go_num, full, o, A1, c1, HRD.out.fresh (Fresh.alloc _ _), HFL.out, by rw [HFD.out, HR.out], by rw [HSS.out, HR.out], HROWS.out.fresh (Fresh.alloc _ _), HBL.out.alloc (by have := HBL.out.size; omega) _⟩
                        case measure => simp [intOf]; omega
                · by_cases hK3 : K = 3
                  · subst hK3
                    clear hK1 hK2
                    by_cases hN : 0 ≤ N ∧ N ≤ r.length
                    · obtain ⟨m, rfl⟩ : ∃ m : Nat, N = m := ⟨N.toNat, by omega⟩
                      have hmr : m ≤ r.length := by omega
                      have hmr' : (m : Int) ≤ (r.length : Int) := by omega
                      have hm0' : (0 : Int) ≤ (m : Int) := by omega
                      have hmB : ((m : Int) ≤ (r.length : Int)) = True := by simp; omega
                      have hpl : g + 1 < wr.heap.size := HIN.out.blk.lt
                      have HNy := Lib.hid (otake_yes (g + 1) A1 c1 r m _ (HIN.out.fresh (Fresh.alloc wr (.cells #[.int .i64 3, .int .i64 m] 36))) hmr)
                      unfold TakePost at HNy
                      have hE0 : S.extract 0 m = strB (r.take m) := by rw [HSS.out, strB_extract]; rfl
                      obtain ⟨T0, hT0⟩ : ∃ T0, T0 = strB (r.take m) := ⟨_, rfl⟩
                      rw [← hT0] at hE0
                      have HT0 := Lib.hid hT0
                      clear hT0 hN
                      have hzz : (T0.toList != T0.toList) = false := by simp
                      have hzy : (T0.toList == T0.toList) = true := by simp
                      go_wp2_with fail
                      with_reducible refine HNy.out.mono ?_
                      rintro e w5 ⟨rfl, hI5, ho5, hbs5⟩
                      have hcN : w5.cell? ⟨wr.heap.size, 1, none⟩ = some (.int .i64 m) := by
                        rw [ho5.cell (p := ⟨wr.heap.size, 1, none⟩) (by simp) (by show ¬ wr.heap.size = g + 1; omega)]
                        exact (Blk.new wr _ _).cell 1
                      have hs : ∀ q, (convert 23 9 (.slice A1 m m)).run Try.prog (w5.drewN q) = .ok (.string T0) (w5.drewN q) := fun q => by
                        have := run_str (P := Try.prog) (hbs5.fresh (Fresh.drewN w5 q)) 23 9 5 Try.underlying23 Try.underlying5 Try.underlying9 m
                        rw [← HT0.out, show (r.take m).length = m by simp; omega] at this
                        exact this
                      have HT : Hid (TookRel w l (g + 1) g n (some ⟨b2, o2, none⟩) R (o + m) w5) :=
                        ReadsRel.took2 HWG.out HL.out HRD.out HFL.out (by rw [HFD.out, HR.out]) HBL.out m (by rw [HR.out]; omega) (Fresh.alloc _ _) (by rw [HR.out]; exact hI5) ho5
                      have hE : S.extract m r.length = strB (r.drop m) := by rw [HSS.out, strB_extract, List.take_length]
                      have hAt : 0 < m → A1 = some ⟨g, o, none⟩ := fun h => HRD.out.at_ (by rw [HFL.out]; have := HR.out; subst this; simp at hmr; omega)
                      have HAT := Lib.hid hAt
                      have HEo : Hid (l.drop (o + m) = r.drop m) := by show _ = _; rw [← List.drop_drop, HR.out]
                      obtain ⟨r1, hr1⟩ : ∃ r1, r1 = r.drop m := ⟨_, rfl⟩
                      rw [← hr1] at hE HEo
                      obtain ⟨T, hT⟩ : ∃ T, T = strB r1 := ⟨_, rfl⟩
                      rw [← hT] at hE
                      have hTs : T.size = r1.length := by rw [hT]; exact strB_size _
                      have HTT := Lib.hid hT
                      clear hI5 ho5 hbs5 hAt hT hr1
                      go_wp2
                      go_quiet (fail)
                      have HT2 := Lib.hid (HT.out.fresh (Fresh.drewN w5 nq))
                      clear HT hs hzz hzy hE0
                      go_wp2
                      clear hE
                      go_loopw [179] (fun i wv => ∃ (k : Nat), k ≤ m ∧ i = .int .i64 k ∧ TookRel w l (g + 1) g n (some ⟨b2, o2, none⟩) R (o + m) wv) (fun i _ => m - (intOf i).toNat)
                      case atStart => exact ⟨0, by omega, rfl, HT2.out⟩
                      case round =>
                        obtain ⟨j, hj, rfl, hI⟩ := hrel
                        by_cases hltj : j < m
                        · have hltj' : (j : Int) < (m : Int) := by omega
                          obtain rfl := HAT.out (by omega)
                          obtain ⟨hz, x, hc, hst⟩ := hI.step HL.out HWG0.out (o + j) (by omega)
                          have hx8 := UInt8.toNat_lt x
                          have hxx : ((x.toNat : Int) + 1) % 256 = ((x + 1).toNat : Int) := by simp
                          have HS : Hid (TookRel w l (g + 1) g n (some ⟨b2, o2, none⟩) R (o + m) (_)) := hst (x + 1)
                          clear hI hst
                          generalize (x + 1).toNat = y at *
                          go_wp2
                          go_roundw
                          case rel => exact ⟨j + 1, by omega, by go_num, HS.out⟩
                          case measure => simp [intOf]; omega
                        · have hltj' : ¬ (j : Int) < (m : Int) := by omega
                          have HS := Lib.hid hI.reads
                          obtain ⟨A5, c5, hI5⟩ := hI.rd
                          rw [HEo.out] at hI5 HS
                          have HI5 := Lib.hid hI5
                          rw [← HTT.out] at HS
                          clear hI hI5
                          go_wp2_with fail
                          with_reducible refine (oleft (g + 1) _ _ r1 _ HI5.out).mono ?_
                          rintro e w6 ⟨rfl, rfl⟩
                          go_wp2
                          go_roundw
                          case rel => exact ⟨k + 1, by omega, by go_num, HS.out⟩
                          case measure => simp [intOf]; omega
                    · have HNo := Lib.hid (otake_no (g + 1) A1 c1 r N _ (HIN.out.fresh (Fresh.alloc wr (.cells #[.int .i64 3, .int .i64 N] 36))) (fun h => hN h))
                      by_cases hn0 : N < 0
                      · clear hN
                        go_wp2_with fail
                        with_reducible refine (HNo.out).mono ?_
                        rintro e w5 ⟨rfl, rfl⟩
                        go_wp2_with fail
                        with_reducible refine (HLe.out _ (HIN.out.fresh (Fresh.alloc _ _))).mono ?_
                        rintro e w5 ⟨rfl, rfl⟩
                        go_wp2
                        go_roundw
                        case rel => exact ⟨k + 1, by omega, by go_num, full, o, A1, c1, HRD.out.fresh (Fresh.alloc _ _), HFL.out, by rw [HFD.out, HR.out], by rw [HSS.out, HR.out], HROWS.out.fresh (Fresh.alloc _ _), HBL.out.alloc (by have := HBL.out.size; omega) _⟩
                        case measure => simp [intOf]; omega
                      · have hnr : (r.length : Int) < N := by omega
                        clear hN
                        go_wp2_with fail
                        with_reducible refine (HNo.out).mono ?_
                        rintro e w5 ⟨rfl, rfl⟩
                        go_wp2_with fail
                        with_reducible refine (HLe.out _ (HIN.out.fresh (Fresh.alloc _ _))).mono ?_
                        rintro e w5 ⟨rfl, rfl⟩
                        go_wp2
                        go_roundw
                        case rel => exact ⟨k + 1, by omega, by go_num, full, o, A1, c1, HRD.out.fresh (Fresh.alloc _ _), HFL.out, by rw [HFD.out, HR.out], by rw [HSS.out, HR.out], HROWS.out.fresh (Fresh.alloc _ _), HBL.out.alloc (by have := HBL.out.size; omega) _⟩
                        case measure => simp [intOf]; omega
                  · by_cases hK4 : K = 4
                    · subst hK4
                      have HRe := Lib.hid (orest (g + 1) A1 c1 r _ (HIN.out.fresh (Fresh.alloc wr (.cells #[.int .i64 4, .int .i64 N] 36))))
                      unfold RestPost at HRe
                      clear hK1 hK2 hK3
                      go_wp2_with fail
                      with_reducible refine HRe.out.mono ?_
                      rintro e w5 ⟨rfl, hI5, ho5, hbs5⟩
                      have hs := run_str (P := Try.prog) hbs5 23 9 5 Try.underlying23 Try.underlying5 Try.underlying9 r.length
                      rw [← HSS.out] at hs
                      have hss : (S.toList == S.toList) = true := beq_self_eq_true _
                      have HI5 := Lib.hid hI5
                      have HD := Lib.hid (ReadsRel.done HWG.out HL.out HRD.out HFL.out HBL.out (Fresh.alloc _ _) hI5 ho5)
                      clear hbs5 ho5 hI5
                      go_wp2_with fail
                      with_reducible refine (oleft (g + 1) none 0 [] _ HI5.out).mono ?_
                      rintro e w6 ⟨rfl, rfl⟩
                      go_wp2
                      go_roundw
                      case rel => exact ⟨k + 1, by omega, by go_num, HD.out⟩
                      case measure => simp [intOf]; omega
                    · have k1 : (K == 1) = false := by rw [beq_eq_false_iff_ne]; exact hK1
                      have k2 : (K == 2) = false := by rw [beq_eq_false_iff_ne]; exact hK2
                      have k3 : (K == 3) = false := by rw [beq_eq_false_iff_ne]; exact hK3
                      have k4 : (K == 4) = false := by rw [beq_eq_false_iff_ne]; exact hK4
                      clear hK1 hK2 hK3 hK4
                      go_wp2_with fail
                      with_reducible refine (HLe.out _ (HIN.out.fresh (Fresh.alloc _ _))).mono ?_
                      rintro e w5 ⟨rfl, rfl⟩
                      go_wp2
                      go_roundw
                      case rel => exact ⟨k + 1, by omega, by go_num, full, o, A1, c1, HRD.out.fresh (Fresh.alloc _ _), HFL.out, by rw [HFD.out, HR.out], by rw [HSS.out, HR.out], HROWS.out.fresh (Fresh.alloc _ _), HBL.out.alloc (by have := HBL.out.size; omega) _⟩
                      case measure => simp [intOf]; omega
            · have hlt' : ¬ (k : Int) < (n : Int) := by omega
              clear hrows hrd hbl
              have HRe := Lib.hid (orest (g + 1) A1 c1 r wr HIN.out)
              unfold RestPost at HRe
              go_wp2_with fail
              with_reducible refine HRe.out.mono ?_
              rintro e w5 ⟨rfl, _, ho5, hbs5⟩
              have hs := run_str (P := Try.prog) hbs5 23 9 5 Try.underlying23 Try.underlying5 Try.underlying9 r.length
              rw [← HSS.out] at hs
              have hss : (S.toList == S.toList) = true := beq_self_eq_true _
              have HB5 : Hid (Below w.heap.size w w5) := Below.trans HBL.out (Only.below ho5 HBL.out.size (fun k e => by have := HWG.out; omega))
              clear hbs5 ho5
              go_wp2_with fail
              with_reducible refine (HW.out _).mono ?_
              rintro e w6 ⟨rfl, hf6⟩
              have HF6 := Lib.hid (Below.trans HB5.out (hf6.mono HB5.out.size))
              clear hf6
              go_wp2
              go_ret
              exact ⟨rfl, HF6.out⟩
end Go.Proofs.Ytjbonafpolmmmaa
