/-
  The law FrameRow: its walk.
-/
import Derived.Test.YtplpaobbgfdinaaFrameV4
import Derived.Test.YtplpaobbgfdinaaFrameV2
namespace Go.Proofs.Ytplpaobbgfdinaa
set_option linter.unusedVariables false
open Go.RowKit

section
open Go.ChangeShapes Go.WideShapes Go.Deep
/-- Frames that came in. -/
structure FrsV where
  (A : Option Addr) (c : Nat) (xs : List FrV)
structure FrsV.Ok (w : World) (s : FrsV) : Prop where
  le : s.xs.length ≤ s.c
  max : s.c ≤ maxLen
  rows : Many FrV.cells 4 w s.A s.xs
  ok : ∀ x ∈ s.xs, x.Ok w
variable {H : Type} {enc : TypeId × Value → H} {w : World} {base : Nat} {spare : Nat → Bool} {held : Bool} {v : Value} {d : DataW H} {p : List MemPlace} {r : Reach} {b0 : Nat}
theorem open_frames (hv : Value.okWide Try.prog w r b0 39 v) (hd : DataW.Trod enc Try.prog w base spare held 39 v d p) :
    ∃ s : FrsV, v = .slice s.A s.xs.length s.c ∧ s.Ok w := by
  have h := (opens_slice (sz := 4) Try.underlying39 opens_frame (by kernel_rfl) (by omega)).sl Try.underlying39 hv hd
  obtain ⟨A, xs, c, e, h1, h2, h3, h4⟩ := h.rows (R := fun w (x : FrV) => x.Ok w) (f := FrV.cells) (fun _ hq => hq)
  simp at e
  exact ⟨⟨A, c, xs⟩, e, h1, h2, h3, h4⟩
end

/-- A frame that came in is q. -/
structure IsFr (f : FrV) (q : Fr) : Prop where
  ty : f.ty = (q.x.toNat : Int)
  fl : f.fl = (q.y.toNat : Int)
  st : f.st = (q.st : Int)
  l : f.l = q.pl
  le : q.st ≤ 2147483647
  pl : q.pl.length ≤ 200
def rowB (qs : List Fr) : List UInt8 := qs.flatMap fun q => frB2 q.x q.y q.st q.pl
theorem rowB_snoc (qs : List Fr) (q : Fr) : rowB (qs ++ [q]) = rowB qs ++ frB2 q.x q.y q.st q.pl := by simp [rowB]
theorem allF_row (qs : List Fr) (hq : ∀ q ∈ qs, q.st ≤ 2147483647 ∧ q.pl.length ≤ 200) (t : List UInt8) (ht : t.length ≤ 8) : ∀ n, (rowB qs ++ t).length ≤ n → allF 200 n (rowB qs ++ t) = some (qs, t) := by
  induction qs with
  | nil =>
    intro n hn
    refine allF_16 ?_
    unfold parseK
    rw [if_pos (by simp [rowB]; omega)]
  | cons q qs ih =>
    intro n hn
    obtain ⟨h1, h2⟩ := hq q (by simp)
    have e : rowB (q :: qs) ++ t = frB2 q.x q.y q.st q.pl ++ (rowB qs ++ t) := by simp [rowB]
    rw [e] at hn ⊢
    have hk : parseK (frB2 q.x q.y q.st q.pl ++ (rowB qs ++ t)) 200 = 0 := by rw [frB2_parse _ _ _ _ _ _ (by omega), if_neg (by omega)]
    obtain ⟨m, hm, hA⟩ := allF_0 hn hk
    have hlf : lenF (frB2 q.x q.y q.st q.pl ++ (rowB qs ++ t)) = 9 + q.pl.length := by unfold lenF; rw [frB2_num _ _ _ _ _ (by omega)]
    have hd : (frB2 q.x q.y q.st q.pl ++ (rowB qs ++ t)).drop (9 + q.pl.length) = rowB qs ++ t := by
      rw [List.drop_append_of_le_length (by rw [frB2_length]; omega), List.drop_of_length_le (by rw [frB2_length]; omega)]
      rfl
    rw [hlf, hd] at hm hA
    rw [hA, ih (fun p hp => hq p (by simp [hp])) m hm]
    have hh : headF (frB2 q.x q.y q.st q.pl ++ (rowB qs ++ t)) = q := by
      unfold headF
      rw [List.getD_eq_getElem?_getD, List.getD_eq_getElem?_getD, frB2_get3, frB2_get4, frB2_stream _ _ _ _ _ h1, frB2_num _ _ _ _ _ (by omega), frB2_pl]
      rfl
    rw [hh]
    rfl

/-- Where the first loop stands. -/
def RowRel (w : World) (xs : List FrV) (i v : Value) (wr : World) : Prop :=
  ∃ (k : Nat) (qs : List Fr) (A1 : Option Addr) (c1 : Nat), k ≤ xs.length ∧ i = .int .i64 (k : Int) ∧ qs.length = k ∧ (∀ (j : Nat) (f : FrV) (q : Fr), xs[j]? = some f → qs[j]? = some q → IsFr f q) ∧ v = .slice A1 (rowB qs).length c1 ∧
    Own wr w.heap.size 5 1 (.slice A1 (rowB qs).length c1) (rowB qs).length ((rowB qs).map byteV) ∧ (rowB qs).length ≤ 1709 ∧ Fresh w wr

theorem Many.at_ {α : Type} {f : α → List Value} {w : World} {A : Option Addr} {xs : List α} (h : Many f 4 w A xs) (k : Nat) (x : α) (hx : xs[k]? = some x) :
    ∃ b o, A = some ⟨b, o, none⟩ ∧ b < w.heap.size ∧ w.cell? ⟨b, o + k * 4, none⟩ = (f x)[0]? ∧ w.cell? ⟨b, o + k * 4 + 1, none⟩ = (f x)[1]? ∧ w.cell? ⟨b, o + k * 4 + 2, none⟩ = (f x)[2]? ∧ w.cell? ⟨b, o + k * 4 + 3, none⟩ = (f x)[3]? := by
  obtain ⟨hk, rfl⟩ := List.getElem?_eq_some_iff.1 hx
  obtain ⟨b, o, e, hb, hc⟩ := h (by omega)
  exact ⟨b, o, e, hb, hc k hk 0 (by omega), hc k hk 1 (by omega), hc k hk 2 (by omega), hc k hk 3 (by omega)⟩

/-- Two rows of four cells, as they stand. -/
abbrev EightS (w0 : World) (g o : Nat) (g' o' : Nat) (a b c d a' b' c' d' : Value) (w' : World) : Prop :=
  w'.cell? ⟨g, o, none⟩ = some a ∧ w'.cell? ⟨g, o + 1, none⟩ = some b ∧ w'.cell? ⟨g, o + 2, none⟩ = some c ∧ w'.cell? ⟨g, o + 3, none⟩ = some d ∧
  w'.cell? ⟨g', o', none⟩ = some a' ∧ w'.cell? ⟨g', o' + 1, none⟩ = some b' ∧ w'.cell? ⟨g', o' + 2, none⟩ = some c' ∧ w'.cell? ⟨g', o' + 3, none⟩ = some d' ∧
  g < w'.heap.size ∧ g' < w'.heap.size ∧ Fresh w0 w'
theorem EightS.fresh {w0 W W' : World} {g o g' o' : Nat} {a b c d a' b' c' d' : Value} (h : EightS w0 g o g' o' a b c d a' b' c' d' W) (hf : Fresh W W') : EightS w0 g o g' o' a b c d a' b' c' d' W' := by
  obtain ⟨c0, c1, c2, c3, d0, d1, d2, d3, hg, hg', hF⟩ := h
  have k0 : ∀ o, W'.cell? ⟨g, o, none⟩ = W.cell? ⟨g, o, none⟩ := fun o => hf.cell (p := ⟨g, o, none⟩) hg
  have k1 : ∀ o, W'.cell? ⟨g', o, none⟩ = W.cell? ⟨g', o, none⟩ := fun o => hf.cell (p := ⟨g', o, none⟩) hg'
  exact ⟨(k0 _).trans c0, (k0 _).trans c1, (k0 _).trans c2, (k0 _).trans c3, (k1 _).trans d0, (k1 _).trans d1, (k1 _).trans d2, (k1 _).trans d3, by have := hf.size; omega, by have := hf.size; omega, hF.trans hf⟩
theorem EightS.fr {w0 W : World} {g o g' o' : Nat} {a b c d a' b' c' d' : Value} (h : EightS w0 g o g' o' a b c d a' b' c' d' W) : Fresh w0 W := h.2.2.2.2.2.2.2.2.2.2

set_option maxRecDepth 100000 in
set_option maxHeartbeats 12800000 in
theorem FrameRow_any (s : FrsV) (n : Int) (w : World) (hs : s.Ok w) (hn : -9223372036854775808 ≤ n ∧ n ≤ 9223372036854775807) :
    Calls Try.prog 8 #[.slice s.A s.xs.length s.c, .int .i64 n] w fun e w' => e = .returned (.bool true) ∧ Below w.heap.size w w' := by
  obtain ⟨A, c, xs⟩ := s
  have hle := hs.le
  have hmax := hs.max
  have HROWS := Lib.hid hs.rows
  have HOK := Lib.hid hs.ok
  simp only [] at hle hmax HROWS HOK ⊢
  clear hs
  unfold maxLen at hmax
  have HW := Lib.hid awake_true
  have HSt : Hid (RowRel w xs (.int .i64 0) (.slice none 0 0) w) := ⟨0, [], none, 0, Nat.zero_le _, rfl, rfl, by intro j f q _ h; simp at h, rfl, Own.nil _ _ _ _, by simp [rowB], Fresh.refl _⟩
  go_enter Try.func8, Try.ntmps8
  go_wp2
  go_loopw [5, 17] (fun v i wr => RowRel w xs i v wr) (fun _ i _ => xs.length - (intOf i).toNat)
  case atStart => exact HSt.out
  case round =>
    obtain ⟨k, qs, A1, c1, hk, rfl, hqs, hm, rfl, ho, hb, hf⟩ := hrel
    have HO := Lib.hid ho
    have HF := Lib.hid hf
    have HM := Lib.hid hm
    have HQS := Lib.hid hqs
    clear ho hf hm hqs HSt
    by_cases hlt : k < xs.length
    · have hlt' : (k : Int) < (xs.length : Int) := by omega
      obtain ⟨f, hxk⟩ : ∃ f, xs[k]? = some f := ⟨_, List.getElem?_eq_getElem hlt⟩
      obtain ⟨b, o, rfl, hbw, k0, k1, k2, k3⟩ := HROWS.out.at_ k f hxk
      have hfo := HOK.out f (List.mem_of_getElem? hxk)
      have HXK := Lib.hid hxk
      obtain ⟨ty, fl, st, A2, c2, l⟩ := f
      simp only [FrV.cells, List.getElem?_cons_zero, List.getElem?_cons_succ] at k0 k1 k2 k3
      have kk := fun o => HF.out.cell (p := ⟨b, o, none⟩) hbw
      have j0 := (kk _).trans k0
      have j1 := (kk _).trans k1
      have j2 := (kk _).trans k2
      have j3 := (kk _).trans k3
      have hA := hfo.bs
      have hl2 := hfo.le
      simp only [] at hA hl2
      have HA := Lib.hid hA
      clear k0 k1 k2 k3 kk hfo hxk hA
      have HT := Lib.hid (OneFr.start wr (.int .i64 ty) (.int .i64 fl) (.int .i64 st) (.slice A2 l.length c2) 24)
      by_cases h2 : 200 < l.length
      · have h2' : (200 : Int) < (l.length : Int) := by omega
        go_wp2_with fail
        with_reducible refine (HW.out _).mono ?_
        rintro e w3 ⟨rfl, hf3⟩
        have HF3 := Lib.hid (HF.out.trans (HT.out.fr.trans hf3))
        clear hf3
        go_wp2
        go_ret
        exact ⟨rfl, HF3.out⟩
      · have h2' : ¬ (200 : Int) < (l.length : Int) := by omega
        by_cases h3 : 1500 < (rowB qs).length
        · have h3' : (1500 : Int) < ((rowB qs).length : Int) := by omega
          go_wp2_with fail
          with_reducible refine (HW.out _).mono ?_
          rintro e w3 ⟨rfl, hf3⟩
          have HF3 := Lib.hid (HF.out.trans (HT.out.fr.trans hf3))
          clear hf3
          go_wp2
          go_ret
          exact ⟨rfl, HF3.out⟩
        · have h3' : ¬ (1500 : Int) < ((rowB qs).length : Int) := by omega
          have HR2 := Lib.hid (fun W => lright ty fl st A2 l.length c2 W)
          cases hr : frR ty fl st l.length with
          | false =>
            rw [hr] at HR2
            clear hr
            go_wp2_with fail
            with_reducible refine (HR2.out _).mono ?_
            rintro e w2 ⟨rfl, hf2⟩
            have HF2 := Lib.hid (HF.out.trans (HT.out.fr.trans hf2))
            clear hf2
            go_wp2_with fail
            with_reducible refine (HW.out _).mono ?_
            rintro e w3 ⟨rfl, hf3⟩
            have HF3 := Lib.hid (HF2.out.trans hf3)
            clear hf3
            go_wp2
            go_ret
            exact ⟨rfl, HF3.out⟩
          | true =>
            rw [hr] at HR2
            obtain ⟨q, hq⟩ : ∃ q : Fr, IsFr ⟨ty, fl, st, A2, c2, l⟩ q := by
              have := of_decide_eq_true hr
              exact ⟨⟨UInt8.ofNat ty.toNat, UInt8.ofNat fl.toNat, st.toNat, l⟩, by simp; omega, by simp; omega, by simp; omega, rfl, by simp; omega, by simp; omega⟩
            obtain ⟨qx, qy, qs', ql, hqs31, hq200⟩ := hq
            simp only [] at qx qy qs' ql
            have HB := Lib.hid (fun W (h : Fresh w W) => fbytes_at ty fl st q.x q.y q.st A2 l.length (9 + l.length) c2 l _ W qx qy qs' rfl rfl (frB2_length q.x q.y q.st l) hqs31 (by omega) (HA.out.fresh h) hl2)
            have HQ : Hid (IsFr ⟨ty, fl, st, A2, c2, l⟩ q) := ⟨qx, qy, qs', ql, hqs31, hq200⟩
            have HLL := Lib.hid (frB2_length q.x q.y q.st l)
            have QL := Lib.hid ql
            clear hr qx qy qs' ql
            go_wp2_with fail
            with_reducible refine (HR2.out _).mono ?_
            rintro e w2 ⟨rfl, hf2⟩
            have HT2 := Lib.hid (HT.out.fresh hf2)
            obtain ⟨m0, m1, m2, m3, m4, _⟩ := HT2.out
            clear hf2 j0 j1 j2 j3
            go_wp2_with fail
            with_reducible refine (HB.out _ (HF.out.trans HT2.out.fr)).mono ?_
            rintro e w3 ⟨A3, c3, rfl, hn3, hm3, ho3, hf3⟩
            have hF3 := HF.out.trans (HT2.out.fr.trans hf3)
            obtain ⟨A4, c4, w4, hap4, ho4, hbl4, _⟩ := Own.moreN (P := Try.prog) Try.underlying22 u8_info 22 (HO.out.fresh (HT2.out.fr.trans hf3)) hF3 (Nat.le_refl _) A3 c3 (frB2 q.x q.y q.st l) (9 + l.length) ((rowB qs).length + (9 + l.length)) HLL.out rfl ho3.bytes.1 hn3 (by omega)
            have HO4 := Lib.hid ho4
            have HF4 : Hid (Fresh w w4) := hbl4
            clear ho3 hf3 hF3 ho4 hbl4 m0 m1 m2 m3 m4
            go_wp2_with (at_builtin; with_reducible refine wp_app rfl (.tmp 43) (.tmp 44) _ rfl hap4 rfl rfl rfl ?_)
            go_roundw
            case rel =>
              have hrl : (rowB (qs ++ [q])).length = (rowB qs).length + (9 + l.length) := by rw [rowB_snoc, List.length_append, frB2_length, ← QL.out]
              refine ⟨k + 1, qs ++ [q], A4, c4, by omega, by go_num, by simp [HQS.out], ?_, by rw [hrl], ?_, by omega, HF4.out⟩
              · intro j f p hj hp
                by_cases hjk : j < k
                · rw [List.getElem?_append_left (by have := HQS.out; omega)] at hp
                  exact HM.out j f p hj hp
                · have hlen := (List.getElem?_eq_some_iff.1 hp).1
                  have hjk2 : j = k := by simp at hlen; have := HQS.out; omega
                  subst hjk2
                  rw [HXK.out] at hj
                  rw [List.getElem?_append_right (by have := HQS.out; omega)] at hp
                  have := HQS.out
                  rw [show j - qs.length = 0 by omega] at hp
                  simp at hj hp
                  subst hj hp
                  exact HQ.out
              · rw [hrl, rowB_snoc, ← QL.out]
                exact HO4.out
            case measure => simp [intOf]; omega
    · have hkx : k = xs.length := by omega
      have hlt' : ¬ (k : Int) < (xs.length : Int) := by omega
      have HQ8 : Hid (∀ q ∈ qs, q.st ≤ 2147483647 ∧ q.pl.length ≤ 200) := fun q hq => by
        obtain ⟨j, hj⟩ := List.getElem?_of_mem hq
        have hjl := (List.getElem?_eq_some_iff.1 hj).1
        have hjx : j < xs.length := by have := HQS.out; omega
        have := HM.out j _ q (List.getElem?_eq_getElem hjx) hj
        exact ⟨this.le, this.pl⟩
      have hc5 : n < 0 ∨ n = 0 ∨ (0 < n ∧ n < 8) ∨ n = 8 ∨ 8 < n := by omega
      rcases hc5 with hc | hc | hc | hc | hc
      · have hn0' : n < 0 := hc
        have hmk := run_makeZ (P := Try.prog) Try.underlying22 u8_info rfl 0 (0 : Int) (by omega) (by omega) (by omega)
        obtain ⟨T, hT⟩ : ∃ T, T = (rowB qs).length + 0 := ⟨_, rfl⟩
        have hbk : Blk (wr.alloc (.cells (madeCells #[.int .u8 0] 0) 5)) wr.heap.size 5 (bytesA (List.replicate 0 0)) := by rw [← madeCells_zero]; exact Blk.new _ _ _
        have hap := Own.moreN (P := Try.prog) Try.underlying22 u8_info 22 (HO.out.fresh (Fresh.alloc wr (.cells (madeCells #[.int .u8 0] 0) 5))) (HF.out.trans (Fresh.alloc wr (.cells (madeCells #[.int .u8 0] 0) 5))) (Nat.le_refl _) (some ⟨wr.heap.size, 0, none⟩) 0 (List.replicate 0 0) 0 T (by simp) hT.symm (BS.row hbk) (Nat.le_refl _) (by omega)
        obtain ⟨A4, c4, w4, hap4, ho4, hbl4, _⟩ := hap
        have HO4 := Lib.hid ho4
        have HF4 : Hid (Fresh w w4) := hbl4
        have hZ : (List.replicate 0 (0 : UInt8)).length = 0 := by simp
        have hAL : allF 200 T (rowB qs ++ List.replicate 0 0) = some (qs, List.replicate 0 0) := allF_row qs HQ8.out _ (by simp; try omega) _ (by simp; omega)
        have hLn : (rowB qs ++ List.replicate 0 (0 : UInt8)).length = T := by simp; omega
        generalize List.replicate 0 (0 : UInt8) = Z at *
        have hzq : ((Z.length : Int) != (0 : Int)) = false := by rw [hZ]; simp
        have hnq : (((qs.length : Nat) : Int) != (xs.length : Int)) = false := by rw [HQS.out, hkx]; simp
        obtain ⟨A4', c4', e4, hc4, hm4, _⟩ := HO4.out.slice
        cases e4
        have HAL := Lib.hid hAL
        have HLn := Lib.hid hLn
        have HKX := Lib.hid hkx
        have HT4 := Lib.hid hT
        clear ho4 hbl4 hZ hAL hLn hkx hT hbk
        go_wp2_with (at_builtin; with_reducible refine wp_app rfl (.tmp 52) (.tmp 53) _ rfl hap4 rfl rfl rfl ?_)
        with_reducible refine (fall_at A4 T c4 _ 200 _ w4 HLn.out hc4 hm4 HO4.out.bytes.1 (by have := HT4.out; omega) HAL.out).mono ?_
        rintro e w5 ⟨h5, _⟩
        obtain ⟨A5, n5, c5, fs, A6, rfl, rfl, ho5, hfs5, _, hf5⟩ := h5 _ rfl
        clear h5 hap4 hmk
        have HF5 := Lib.hid (HF4.out.trans hf5)
        have HO5 := Lib.hid ho5
        have HFS5 := Lib.hid hfs5
        clear hf5 ho5 hfs5
        simp only [] at HFS5 ⊢
        go_wp2
        clear hzq hnq
        go_loopw [77] (fun i wr => ∃ (j : Nat), j ≤ qs.length ∧ i = .int .i64 (j : Int) ∧ Fresh w5 wr) (fun i _ => qs.length - (intOf i).toNat)
        case atStart => exact ⟨0, Nat.zero_le _, rfl, Fresh.refl _⟩
        case round =>
          obtain ⟨j, hj, rfl, hfv⟩ := hrel
          have HFV := Lib.hid hfv
          clear hfv
          by_cases hltj : j < qs.length
          · obtain ⟨q, hq⟩ : ∃ q, qs[j]? = some q := ⟨_, List.getElem?_eq_getElem hltj⟩
            have hjx : j < xs.length := by have := HQS.out; have := HKX.out; omega
            obtain ⟨f, hf⟩ : ∃ f, xs[j]? = some f := ⟨_, List.getElem?_eq_getElem hjx⟩
            obtain ⟨A7, hp⟩ : ∃ A7, fs[j]? = some (q, A7) := by
              have e := HFS5.out
              rw [← e, List.getElem?_map] at hq
              cases hq' : fs[j]? with
              | none => rw [hq'] at hq; simp at hq
              | some p => rw [hq'] at hq; simp at hq; exact ⟨p.2, by rw [← hq]⟩
            have hpay := (HO5.out.2 _ (List.mem_of_getElem? hp)).1
            obtain ⟨g, rfl, hg, hgb, c0, c1', c2', c3'⟩ := HO5.out.cells j _ hp
            obtain ⟨b, o, rfl, hbw, k0, k1, k2, k3⟩ := HROWS.out.at_ j f hf
            have hfo := HOK.out f (List.mem_of_getElem? hf)
            obtain ⟨qx, qy, qs', ql, hqs31, hq200⟩ := HM.out j f q hf hq
            obtain ⟨ty, fl, st, A2, c2, l⟩ := f
            simp only [FrV.cells, List.getElem?_cons_zero, List.getElem?_cons_succ] at k0 k1 k2 k3 qx qy qs' ql c0 c1' c2' c3' hpay
            subst qx qy qs' ql
            have hA := hfo.bs
            simp only [] at hA
            have HA := Lib.hid hA
            have HE := Lib.hid (fun W (h : Fresh w W) (h' : Fresh w5 W) => fequal_at (q.x.toNat : Int) (q.y.toNat : Int) (q.st : Int) A7 q.pl.length q.pl q.pl.length (q.x.toNat : Int) (q.y.toNat : Int) (q.st : Int) A2 q.pl.length q.pl c2 W true rfl rfl (hpay.bs.fresh h') (HA.out.fresh h) (by simp [frEq]))
            have hbw5 : b < w5.heap.size := by have := HF5.out.size; omega
            have kk := fun o => (HFV.out.cell (p := ⟨b, o, none⟩) hbw5).trans (HF5.out.cell (p := ⟨b, o, none⟩) hbw)
            have gg := fun o => HFV.out.cell (p := ⟨g, o, none⟩) hg
            have HS8 : Hid (EightS wr g (j * 4) b (o + j * 4) (.int .i64 (q.x.toNat : Int)) (.int .i64 (q.y.toNat : Int)) (.int .i64 (q.st : Int)) (.slice A7 q.pl.length q.pl.length) (.int .i64 (q.x.toNat : Int)) (.int .i64 (q.y.toNat : Int)) (.int .i64 (q.st : Int)) (.slice A2 q.pl.length c2) wr.drew) :=
              ⟨(gg _).trans c0, (gg _).trans c1', (gg _).trans c2', (gg _).trans c3', (kk _).trans k0, (kk _).trans k1, (kk _).trans k2, (kk _).trans k3, by have := HFV.out.size; simp; omega, by have := HFV.out.size; simp; omega, Fresh.drew _⟩
            have i1 : (j : Int) < (xs.length : Int) := by omega
            have i2 : (j : Int) < (qs.length : Int) := by omega
            have i3 : (0 : Int) ≤ (j : Int) := by omega
            clear c0 c1' c2' c3' k0 k1 k2 k3 kk gg hfo hA hpay hf hp hq
            go_wp2_with fail
            go_region_held3 (fun w' => w'.cell? ⟨g, j * 4, none⟩ = some (.int .i64 (q.x.toNat : Int)) ∧ w'.cell? ⟨g, j * 4 + 1, none⟩ = some (.int .i64 (q.y.toNat : Int)) ∧ w'.cell? ⟨g, j * 4 + 2, none⟩ = some (.int .i64 (q.st : Int)) ∧ w'.cell? ⟨g, j * 4 + 3, none⟩ = some (.slice A7 q.pl.length q.pl.length) ∧
                w'.cell? ⟨b, o + j * 4, none⟩ = some (.int .i64 (q.x.toNat : Int)) ∧ w'.cell? ⟨b, o + j * 4 + 1, none⟩ = some (.int .i64 (q.y.toNat : Int)) ∧ w'.cell? ⟨b, o + j * 4 + 2, none⟩ = some (.int .i64 (q.st : Int)) ∧ w'.cell? ⟨b, o + j * 4 + 3, none⟩ = some (.slice A2 q.pl.length c2) ∧
                g < w'.heap.size ∧ b < w'.heap.size ∧ Fresh wr w')
              (first | assumption | exact HS8.out | exact EightS.fresh (by assumption) hfk)
              (first | (go_at_call 14; have hFr := EightS.fr (by assumption : EightS wr g (j * 4) b (o + j * 4) (.int .i64 (q.x.toNat : Int)) (.int .i64 (q.y.toNat : Int)) (.int .i64 (q.st : Int)) (.slice A7 q.pl.length q.pl.length) (.int .i64 (q.x.toNat : Int)) (.int .i64 (q.y.toNat : Int)) (.int .i64 (q.st : Int)) (.slice A2 q.pl.length c2) _); with_reducible refine (HE.out _ (HF5.out.trans (HFV.out.trans hFr)) (HFV.out.trans hFr)).mono ?_; rintro e w6 ⟨rfl, hfk⟩))
            have HF6 := Lib.hid (HFV.out.trans (hFr.trans hfk))
            go_wp2
            go_roundw
            case rel => exact ⟨j + 1, by omega, by go_num, HF6.out⟩
            case measure => simp [intOf]; omega
          · have hltj' : ¬ (j : Int) < (qs.length : Int) := by omega
            go_wp2_with fail
            with_reducible refine (HW.out _).mono ?_
            rintro e w6 ⟨rfl, hf6⟩
            have HF6 := Lib.hid (HF5.out.trans (HFV.out.trans hf6))
            clear hf6
            go_wp2
            go_ret
            exact ⟨rfl, HF6.out⟩
      · subst hc
        have hmk := run_makeZ (P := Try.prog) Try.underlying22 u8_info rfl 0 (0 : Int) (by omega) (by omega) (by omega)
        obtain ⟨T, hT⟩ : ∃ T, T = (rowB qs).length + 0 := ⟨_, rfl⟩
        have hbk : Blk (wr.alloc (.cells (madeCells #[.int .u8 0] 0) 5)) wr.heap.size 5 (bytesA (List.replicate 0 0)) := by rw [← madeCells_zero]; exact Blk.new _ _ _
        have hap := Own.moreN (P := Try.prog) Try.underlying22 u8_info 22 (HO.out.fresh (Fresh.alloc wr (.cells (madeCells #[.int .u8 0] 0) 5))) (HF.out.trans (Fresh.alloc wr (.cells (madeCells #[.int .u8 0] 0) 5))) (Nat.le_refl _) (some ⟨wr.heap.size, 0, none⟩) 0 (List.replicate 0 0) 0 T (by simp) hT.symm (BS.row hbk) (Nat.le_refl _) (by omega)
        obtain ⟨A4, c4, w4, hap4, ho4, hbl4, _⟩ := hap
        have HO4 := Lib.hid ho4
        have HF4 : Hid (Fresh w w4) := hbl4
        have hZ : (List.replicate 0 (0 : UInt8)).length = 0 := by simp
        have hAL : allF 200 T (rowB qs ++ List.replicate 0 0) = some (qs, List.replicate 0 0) := allF_row qs HQ8.out _ (by simp; try omega) _ (by simp; omega)
        have hLn : (rowB qs ++ List.replicate 0 (0 : UInt8)).length = T := by simp; omega
        generalize List.replicate 0 (0 : UInt8) = Z at *
        have hzq : ((Z.length : Int) != (0 : Int)) = false := by rw [hZ]; simp
        have hnq : (((qs.length : Nat) : Int) != (xs.length : Int)) = false := by rw [HQS.out, hkx]; simp
        obtain ⟨A4', c4', e4, hc4, hm4, _⟩ := HO4.out.slice
        cases e4
        have HAL := Lib.hid hAL
        have HLn := Lib.hid hLn
        have HKX := Lib.hid hkx
        have HT4 := Lib.hid hT
        clear ho4 hbl4 hZ hAL hLn hkx hT hbk
        go_wp2_with (at_builtin; with_reducible refine wp_app rfl (.tmp 52) (.tmp 53) _ rfl hap4 rfl rfl rfl ?_)
        with_reducible refine (fall_at A4 T c4 _ 200 _ w4 HLn.out hc4 hm4 HO4.out.bytes.1 (by have := HT4.out; omega) HAL.out).mono ?_
        rintro e w5 ⟨h5, _⟩
        obtain ⟨A5, n5, c5, fs, A6, rfl, rfl, ho5, hfs5, _, hf5⟩ := h5 _ rfl
        clear h5 hap4 hmk
        have HF5 := Lib.hid (HF4.out.trans hf5)
        have HO5 := Lib.hid ho5
        have HFS5 := Lib.hid hfs5
        clear hf5 ho5 hfs5
        simp only [] at HFS5 ⊢
        go_wp2
        clear hzq hnq
        go_loopw [77] (fun i wr => ∃ (j : Nat), j ≤ qs.length ∧ i = .int .i64 (j : Int) ∧ Fresh w5 wr) (fun i _ => qs.length - (intOf i).toNat)
        case atStart => exact ⟨0, Nat.zero_le _, rfl, Fresh.refl _⟩
        case round =>
          obtain ⟨j, hj, rfl, hfv⟩ := hrel
          have HFV := Lib.hid hfv
          clear hfv
          by_cases hltj : j < qs.length
          · obtain ⟨q, hq⟩ : ∃ q, qs[j]? = some q := ⟨_, List.getElem?_eq_getElem hltj⟩
            have hjx : j < xs.length := by have := HQS.out; have := HKX.out; omega
            obtain ⟨f, hf⟩ : ∃ f, xs[j]? = some f := ⟨_, List.getElem?_eq_getElem hjx⟩
            obtain ⟨A7, hp⟩ : ∃ A7, fs[j]? = some (q, A7) := by
              have e := HFS5.out
              rw [← e, List.getElem?_map] at hq
              cases hq' : fs[j]? with
              | none => rw [hq'] at hq; simp at hq
              | some p => rw [hq'] at hq; simp at hq; exact ⟨p.2, by rw [← hq]⟩
            have hpay := (HO5.out.2 _ (List.mem_of_getElem? hp)).1
            obtain ⟨g, rfl, hg, hgb, c0, c1', c2', c3'⟩ := HO5.out.cells j _ hp
            obtain ⟨b, o, rfl, hbw, k0, k1, k2, k3⟩ := HROWS.out.at_ j f hf
            have hfo := HOK.out f (List.mem_of_getElem? hf)
            obtain ⟨qx, qy, qs', ql, hqs31, hq200⟩ := HM.out j f q hf hq
            obtain ⟨ty, fl, st, A2, c2, l⟩ := f
            simp only [FrV.cells, List.getElem?_cons_zero, List.getElem?_cons_succ] at k0 k1 k2 k3 qx qy qs' ql c0 c1' c2' c3' hpay
            subst qx qy qs' ql
            have hA := hfo.bs
            simp only [] at hA
            have HA := Lib.hid hA
            have HE := Lib.hid (fun W (h : Fresh w W) (h' : Fresh w5 W) => fequal_at (q.x.toNat : Int) (q.y.toNat : Int) (q.st : Int) A7 q.pl.length q.pl q.pl.length (q.x.toNat : Int) (q.y.toNat : Int) (q.st : Int) A2 q.pl.length q.pl c2 W true rfl rfl (hpay.bs.fresh h') (HA.out.fresh h) (by simp [frEq]))
            have hbw5 : b < w5.heap.size := by have := HF5.out.size; omega
            have kk := fun o => (HFV.out.cell (p := ⟨b, o, none⟩) hbw5).trans (HF5.out.cell (p := ⟨b, o, none⟩) hbw)
            have gg := fun o => HFV.out.cell (p := ⟨g, o, none⟩) hg
            have HS8 : Hid (EightS wr g (j * 4) b (o + j * 4) (.int .i64 (q.x.toNat : Int)) (.int .i64 (q.y.toNat : Int)) (.int .i64 (q.st : Int)) (.slice A7 q.pl.length q.pl.length) (.int .i64 (q.x.toNat : Int)) (.int .i64 (q.y.toNat : Int)) (.int .i64 (q.st : Int)) (.slice A2 q.pl.length c2) wr.drew) :=
              ⟨(gg _).trans c0, (gg _).trans c1', (gg _).trans c2', (gg _).trans c3', (kk _).trans k0, (kk _).trans k1, (kk _).trans k2, (kk _).trans k3, by have := HFV.out.size; simp; omega, by have := HFV.out.size; simp; omega, Fresh.drew _⟩
            have i1 : (j : Int) < (xs.length : Int) := by omega
            have i2 : (j : Int) < (qs.length : Int) := by omega
            have i3 : (0 : Int) ≤ (j : Int) := by omega
            clear c0 c1' c2' c3' k0 k1 k2 k3 kk gg hfo hA hpay hf hp hq
            go_wp2_with fail
            go_region_held3 (fun w' => w'.cell? ⟨g, j * 4, none⟩ = some (.int .i64 (q.x.toNat : Int)) ∧ w'.cell? ⟨g, j * 4 + 1, none⟩ = some (.int .i64 (q.y.toNat : Int)) ∧ w'.cell? ⟨g, j * 4 + 2, none⟩ = some (.int .i64 (q.st : Int)) ∧ w'.cell? ⟨g, j * 4 + 3, none⟩ = some (.slice A7 q.pl.length q.pl.length) ∧
                w'.cell? ⟨b, o + j * 4, none⟩ = some (.int .i64 (q.x.toNat : Int)) ∧ w'.cell? ⟨b, o + j * 4 + 1, none⟩ = some (.int .i64 (q.y.toNat : Int)) ∧ w'.cell? ⟨b, o + j * 4 + 2, none⟩ = some (.int .i64 (q.st : Int)) ∧ w'.cell? ⟨b, o + j * 4 + 3, none⟩ = some (.slice A2 q.pl.length c2) ∧
                g < w'.heap.size ∧ b < w'.heap.size ∧ Fresh wr w')
              (first | assumption | exact HS8.out | exact EightS.fresh (by assumption) hfk)
              (first | (go_at_call 14; have hFr := EightS.fr (by assumption : EightS wr g (j * 4) b (o + j * 4) (.int .i64 (q.x.toNat : Int)) (.int .i64 (q.y.toNat : Int)) (.int .i64 (q.st : Int)) (.slice A7 q.pl.length q.pl.length) (.int .i64 (q.x.toNat : Int)) (.int .i64 (q.y.toNat : Int)) (.int .i64 (q.st : Int)) (.slice A2 q.pl.length c2) _); with_reducible refine (HE.out _ (HF5.out.trans (HFV.out.trans hFr)) (HFV.out.trans hFr)).mono ?_; rintro e w6 ⟨rfl, hfk⟩))
            have HF6 := Lib.hid (HFV.out.trans (hFr.trans hfk))
            go_wp2
            go_roundw
            case rel => exact ⟨j + 1, by omega, by go_num, HF6.out⟩
            case measure => simp [intOf]; omega
          · have hltj' : ¬ (j : Int) < (qs.length : Int) := by omega
            go_wp2_with fail
            with_reducible refine (HW.out _).mono ?_
            rintro e w6 ⟨rfl, hf6⟩
            have HF6 := Lib.hid (HF5.out.trans (HFV.out.trans hf6))
            clear hf6
            go_wp2
            go_ret
            exact ⟨rfl, HF6.out⟩
      · obtain ⟨m, rfl⟩ : ∃ m : Nat, n = (m : Int) := ⟨n.toNat, by omega⟩
        have hm0 : (0 : Int) < (m : Int) := by omega
        have hm8' : (m : Int) < 8 := by omega
        have hmk := run_makeZ (P := Try.prog) Try.underlying22 u8_info rfl m (m : Int) (by omega) (by omega) (by omega)
        obtain ⟨T, hT⟩ : ∃ T, T = (rowB qs).length + m := ⟨_, rfl⟩
        have hbk : Blk (wr.alloc (.cells (madeCells #[.int .u8 0] m) 5)) wr.heap.size 5 (bytesA (List.replicate m 0)) := by rw [← madeCells_zero]; exact Blk.new _ _ _
        have hap := Own.moreN (P := Try.prog) Try.underlying22 u8_info 22 (HO.out.fresh (Fresh.alloc wr (.cells (madeCells #[.int .u8 0] m) 5))) (HF.out.trans (Fresh.alloc wr (.cells (madeCells #[.int .u8 0] m) 5))) (Nat.le_refl _) (some ⟨wr.heap.size, 0, none⟩) m (List.replicate m 0) m T (by simp) hT.symm (BS.row hbk) (Nat.le_refl _) (by omega)
        obtain ⟨A4, c4, w4, hap4, ho4, hbl4, _⟩ := hap
        have HO4 := Lib.hid ho4
        have HF4 : Hid (Fresh w w4) := hbl4
        have hZ : (List.replicate m (0 : UInt8)).length = m := by simp
        have hAL : allF 200 T (rowB qs ++ List.replicate m 0) = some (qs, List.replicate m 0) := allF_row qs HQ8.out _ (by simp; try omega) _ (by simp; omega)
        have hLn : (rowB qs ++ List.replicate m (0 : UInt8)).length = T := by simp; omega
        generalize List.replicate m (0 : UInt8) = Z at *
        have hzq : ((Z.length : Int) != (m : Int)) = false := by rw [hZ]; simp
        have hnq : (((qs.length : Nat) : Int) != (xs.length : Int)) = false := by rw [HQS.out, hkx]; simp
        obtain ⟨A4', c4', e4, hc4, hm4, _⟩ := HO4.out.slice
        cases e4
        have HAL := Lib.hid hAL
        have HLn := Lib.hid hLn
        have HKX := Lib.hid hkx
        have HT4 := Lib.hid hT
        clear ho4 hbl4 hZ hAL hLn hkx hT hbk
        go_wp2_with (at_builtin; with_reducible refine wp_app rfl (.tmp 52) (.tmp 53) _ rfl hap4 rfl rfl rfl ?_)
        with_reducible refine (fall_at A4 T c4 _ 200 _ w4 HLn.out hc4 hm4 HO4.out.bytes.1 (by have := HT4.out; omega) HAL.out).mono ?_
        rintro e w5 ⟨h5, _⟩
        obtain ⟨A5, n5, c5, fs, A6, rfl, rfl, ho5, hfs5, _, hf5⟩ := h5 _ rfl
        clear h5 hap4 hmk
        have HF5 := Lib.hid (HF4.out.trans hf5)
        have HO5 := Lib.hid ho5
        have HFS5 := Lib.hid hfs5
        clear hf5 ho5 hfs5
        simp only [] at HFS5 ⊢
        go_wp2
        clear hzq hnq
        go_loopw [77] (fun i wr => ∃ (j : Nat), j ≤ qs.length ∧ i = .int .i64 (j : Int) ∧ Fresh w5 wr) (fun i _ => qs.length - (intOf i).toNat)
        case atStart => exact ⟨0, Nat.zero_le _, rfl, Fresh.refl _⟩
        case round =>
          obtain ⟨j, hj, rfl, hfv⟩ := hrel
          have HFV := Lib.hid hfv
          clear hfv
          by_cases hltj : j < qs.length
          · obtain ⟨q, hq⟩ : ∃ q, qs[j]? = some q := ⟨_, List.getElem?_eq_getElem hltj⟩
            have hjx : j < xs.length := by have := HQS.out; have := HKX.out; omega
            obtain ⟨f, hf⟩ : ∃ f, xs[j]? = some f := ⟨_, List.getElem?_eq_getElem hjx⟩
            obtain ⟨A7, hp⟩ : ∃ A7, fs[j]? = some (q, A7) := by
              have e := HFS5.out
              rw [← e, List.getElem?_map] at hq
              cases hq' : fs[j]? with
              | none => rw [hq'] at hq; simp at hq
              | some p => rw [hq'] at hq; simp at hq; exact ⟨p.2, by rw [← hq]⟩
            have hpay := (HO5.out.2 _ (List.mem_of_getElem? hp)).1
            obtain ⟨g, rfl, hg, hgb, c0, c1', c2', c3'⟩ := HO5.out.cells j _ hp
            obtain ⟨b, o, rfl, hbw, k0, k1, k2, k3⟩ := HROWS.out.at_ j f hf
            have hfo := HOK.out f (List.mem_of_getElem? hf)
            obtain ⟨qx, qy, qs', ql, hqs31, hq200⟩ := HM.out j f q hf hq
            obtain ⟨ty, fl, st, A2, c2, l⟩ := f
            simp only [FrV.cells, List.getElem?_cons_zero, List.getElem?_cons_succ] at k0 k1 k2 k3 qx qy qs' ql c0 c1' c2' c3' hpay
            subst qx qy qs' ql
            have hA := hfo.bs
            simp only [] at hA
            have HA := Lib.hid hA
            have HE := Lib.hid (fun W (h : Fresh w W) (h' : Fresh w5 W) => fequal_at (q.x.toNat : Int) (q.y.toNat : Int) (q.st : Int) A7 q.pl.length q.pl q.pl.length (q.x.toNat : Int) (q.y.toNat : Int) (q.st : Int) A2 q.pl.length q.pl c2 W true rfl rfl (hpay.bs.fresh h') (HA.out.fresh h) (by simp [frEq]))
            have hbw5 : b < w5.heap.size := by have := HF5.out.size; omega
            have kk := fun o => (HFV.out.cell (p := ⟨b, o, none⟩) hbw5).trans (HF5.out.cell (p := ⟨b, o, none⟩) hbw)
            have gg := fun o => HFV.out.cell (p := ⟨g, o, none⟩) hg
            have HS8 : Hid (EightS wr g (j * 4) b (o + j * 4) (.int .i64 (q.x.toNat : Int)) (.int .i64 (q.y.toNat : Int)) (.int .i64 (q.st : Int)) (.slice A7 q.pl.length q.pl.length) (.int .i64 (q.x.toNat : Int)) (.int .i64 (q.y.toNat : Int)) (.int .i64 (q.st : Int)) (.slice A2 q.pl.length c2) wr.drew) :=
              ⟨(gg _).trans c0, (gg _).trans c1', (gg _).trans c2', (gg _).trans c3', (kk _).trans k0, (kk _).trans k1, (kk _).trans k2, (kk _).trans k3, by have := HFV.out.size; simp; omega, by have := HFV.out.size; simp; omega, Fresh.drew _⟩
            have i1 : (j : Int) < (xs.length : Int) := by omega
            have i2 : (j : Int) < (qs.length : Int) := by omega
            have i3 : (0 : Int) ≤ (j : Int) := by omega
            clear c0 c1' c2' c3' k0 k1 k2 k3 kk gg hfo hA hpay hf hp hq
            go_wp2_with fail
            go_region_held3 (fun w' => w'.cell? ⟨g, j * 4, none⟩ = some (.int .i64 (q.x.toNat : Int)) ∧ w'.cell? ⟨g, j * 4 + 1, none⟩ = some (.int .i64 (q.y.toNat : Int)) ∧ w'.cell? ⟨g, j * 4 + 2, none⟩ = some (.int .i64 (q.st : Int)) ∧ w'.cell? ⟨g, j * 4 + 3, none⟩ = some (.slice A7 q.pl.length q.pl.length) ∧
                w'.cell? ⟨b, o + j * 4, none⟩ = some (.int .i64 (q.x.toNat : Int)) ∧ w'.cell? ⟨b, o + j * 4 + 1, none⟩ = some (.int .i64 (q.y.toNat : Int)) ∧ w'.cell? ⟨b, o + j * 4 + 2, none⟩ = some (.int .i64 (q.st : Int)) ∧ w'.cell? ⟨b, o + j * 4 + 3, none⟩ = some (.slice A2 q.pl.length c2) ∧
                g < w'.heap.size ∧ b < w'.heap.size ∧ Fresh wr w')
              (first | assumption | exact HS8.out | exact EightS.fresh (by assumption) hfk)
              (first | (go_at_call 14; have hFr := EightS.fr (by assumption : EightS wr g (j * 4) b (o + j * 4) (.int .i64 (q.x.toNat : Int)) (.int .i64 (q.y.toNat : Int)) (.int .i64 (q.st : Int)) (.slice A7 q.pl.length q.pl.length) (.int .i64 (q.x.toNat : Int)) (.int .i64 (q.y.toNat : Int)) (.int .i64 (q.st : Int)) (.slice A2 q.pl.length c2) _); with_reducible refine (HE.out _ (HF5.out.trans (HFV.out.trans hFr)) (HFV.out.trans hFr)).mono ?_; rintro e w6 ⟨rfl, hfk⟩))
            have HF6 := Lib.hid (HFV.out.trans (hFr.trans hfk))
            go_wp2
            go_roundw
            case rel => exact ⟨j + 1, by omega, by go_num, HF6.out⟩
            case measure => simp [intOf]; omega
          · have hltj' : ¬ (j : Int) < (qs.length : Int) := by omega
            go_wp2_with fail
            with_reducible refine (HW.out _).mono ?_
            rintro e w6 ⟨rfl, hf6⟩
            have HF6 := Lib.hid (HF5.out.trans (HFV.out.trans hf6))
            clear hf6
            go_wp2
            go_ret
            exact ⟨rfl, HF6.out⟩
      · subst hc
        have hmk := run_makeZ (P := Try.prog) Try.underlying22 u8_info rfl 8 (8 : Int) (by omega) (by omega) (by omega)
        obtain ⟨T, hT⟩ : ∃ T, T = (rowB qs).length + 8 := ⟨_, rfl⟩
        have hbk : Blk (wr.alloc (.cells (madeCells #[.int .u8 0] 8) 5)) wr.heap.size 5 (bytesA (List.replicate 8 0)) := by rw [← madeCells_zero]; exact Blk.new _ _ _
        have hap := Own.moreN (P := Try.prog) Try.underlying22 u8_info 22 (HO.out.fresh (Fresh.alloc wr (.cells (madeCells #[.int .u8 0] 8) 5))) (HF.out.trans (Fresh.alloc wr (.cells (madeCells #[.int .u8 0] 8) 5))) (Nat.le_refl _) (some ⟨wr.heap.size, 0, none⟩) 8 (List.replicate 8 0) 8 T (by simp) hT.symm (BS.row hbk) (Nat.le_refl _) (by omega)
        obtain ⟨A4, c4, w4, hap4, ho4, hbl4, _⟩ := hap
        have HO4 := Lib.hid ho4
        have HF4 : Hid (Fresh w w4) := hbl4
        have hZ : (List.replicate 8 (0 : UInt8)).length = 8 := by simp
        have hAL : allF 200 T (rowB qs ++ List.replicate 8 0) = some (qs, List.replicate 8 0) := allF_row qs HQ8.out _ (by simp; try omega) _ (by simp; omega)
        have hLn : (rowB qs ++ List.replicate 8 (0 : UInt8)).length = T := by simp; omega
        generalize List.replicate 8 (0 : UInt8) = Z at *
        have hzq : ((Z.length : Int) != (8 : Int)) = false := by rw [hZ]; simp
        have hnq : (((qs.length : Nat) : Int) != (xs.length : Int)) = false := by rw [HQS.out, hkx]; simp
        obtain ⟨A4', c4', e4, hc4, hm4, _⟩ := HO4.out.slice
        cases e4
        have HAL := Lib.hid hAL
        have HLn := Lib.hid hLn
        have HKX := Lib.hid hkx
        have HT4 := Lib.hid hT
        clear ho4 hbl4 hZ hAL hLn hkx hT hbk
        go_wp2_with (at_builtin; with_reducible refine wp_app rfl (.tmp 52) (.tmp 53) _ rfl hap4 rfl rfl rfl ?_)
        with_reducible refine (fall_at A4 T c4 _ 200 _ w4 HLn.out hc4 hm4 HO4.out.bytes.1 (by have := HT4.out; omega) HAL.out).mono ?_
        rintro e w5 ⟨h5, _⟩
        obtain ⟨A5, n5, c5, fs, A6, rfl, rfl, ho5, hfs5, _, hf5⟩ := h5 _ rfl
        clear h5 hap4 hmk
        have HF5 := Lib.hid (HF4.out.trans hf5)
        have HO5 := Lib.hid ho5
        have HFS5 := Lib.hid hfs5
        clear hf5 ho5 hfs5
        simp only [] at HFS5 ⊢
        go_wp2
        clear hzq hnq
        go_loopw [77] (fun i wr => ∃ (j : Nat), j ≤ qs.length ∧ i = .int .i64 (j : Int) ∧ Fresh w5 wr) (fun i _ => qs.length - (intOf i).toNat)
        case atStart => exact ⟨0, Nat.zero_le _, rfl, Fresh.refl _⟩
        case round =>
          obtain ⟨j, hj, rfl, hfv⟩ := hrel
          have HFV := Lib.hid hfv
          clear hfv
          by_cases hltj : j < qs.length
          · obtain ⟨q, hq⟩ : ∃ q, qs[j]? = some q := ⟨_, List.getElem?_eq_getElem hltj⟩
            have hjx : j < xs.length := by have := HQS.out; have := HKX.out; omega
            obtain ⟨f, hf⟩ : ∃ f, xs[j]? = some f := ⟨_, List.getElem?_eq_getElem hjx⟩
            obtain ⟨A7, hp⟩ : ∃ A7, fs[j]? = some (q, A7) := by
              have e := HFS5.out
              rw [← e, List.getElem?_map] at hq
              cases hq' : fs[j]? with
              | none => rw [hq'] at hq; simp at hq
              | some p => rw [hq'] at hq; simp at hq; exact ⟨p.2, by rw [← hq]⟩
            have hpay := (HO5.out.2 _ (List.mem_of_getElem? hp)).1
            obtain ⟨g, rfl, hg, hgb, c0, c1', c2', c3'⟩ := HO5.out.cells j _ hp
            obtain ⟨b, o, rfl, hbw, k0, k1, k2, k3⟩ := HROWS.out.at_ j f hf
            have hfo := HOK.out f (List.mem_of_getElem? hf)
            obtain ⟨qx, qy, qs', ql, hqs31, hq200⟩ := HM.out j f q hf hq
            obtain ⟨ty, fl, st, A2, c2, l⟩ := f
            simp only [FrV.cells, List.getElem?_cons_zero, List.getElem?_cons_succ] at k0 k1 k2 k3 qx qy qs' ql c0 c1' c2' c3' hpay
            subst qx qy qs' ql
            have hA := hfo.bs
            simp only [] at hA
            have HA := Lib.hid hA
            have HE := Lib.hid (fun W (h : Fresh w W) (h' : Fresh w5 W) => fequal_at (q.x.toNat : Int) (q.y.toNat : Int) (q.st : Int) A7 q.pl.length q.pl q.pl.length (q.x.toNat : Int) (q.y.toNat : Int) (q.st : Int) A2 q.pl.length q.pl c2 W true rfl rfl (hpay.bs.fresh h') (HA.out.fresh h) (by simp [frEq]))
            have hbw5 : b < w5.heap.size := by have := HF5.out.size; omega
            have kk := fun o => (HFV.out.cell (p := ⟨b, o, none⟩) hbw5).trans (HF5.out.cell (p := ⟨b, o, none⟩) hbw)
            have gg := fun o => HFV.out.cell (p := ⟨g, o, none⟩) hg
            have HS8 : Hid (EightS wr g (j * 4) b (o + j * 4) (.int .i64 (q.x.toNat : Int)) (.int .i64 (q.y.toNat : Int)) (.int .i64 (q.st : Int)) (.slice A7 q.pl.length q.pl.length) (.int .i64 (q.x.toNat : Int)) (.int .i64 (q.y.toNat : Int)) (.int .i64 (q.st : Int)) (.slice A2 q.pl.length c2) wr.drew) :=
              ⟨(gg _).trans c0, (gg _).trans c1', (gg _).trans c2', (gg _).trans c3', (kk _).trans k0, (kk _).trans k1, (kk _).trans k2, (kk _).trans k3, by have := HFV.out.size; simp; omega, by have := HFV.out.size; simp; omega, Fresh.drew _⟩
            have i1 : (j : Int) < (xs.length : Int) := by omega
            have i2 : (j : Int) < (qs.length : Int) := by omega
            have i3 : (0 : Int) ≤ (j : Int) := by omega
            clear c0 c1' c2' c3' k0 k1 k2 k3 kk gg hfo hA hpay hf hp hq
            go_wp2_with fail
            go_region_held3 (fun w' => w'.cell? ⟨g, j * 4, none⟩ = some (.int .i64 (q.x.toNat : Int)) ∧ w'.cell? ⟨g, j * 4 + 1, none⟩ = some (.int .i64 (q.y.toNat : Int)) ∧ w'.cell? ⟨g, j * 4 + 2, none⟩ = some (.int .i64 (q.st : Int)) ∧ w'.cell? ⟨g, j * 4 + 3, none⟩ = some (.slice A7 q.pl.length q.pl.length) ∧
                w'.cell? ⟨b, o + j * 4, none⟩ = some (.int .i64 (q.x.toNat : Int)) ∧ w'.cell? ⟨b, o + j * 4 + 1, none⟩ = some (.int .i64 (q.y.toNat : Int)) ∧ w'.cell? ⟨b, o + j * 4 + 2, none⟩ = some (.int .i64 (q.st : Int)) ∧ w'.cell? ⟨b, o + j * 4 + 3, none⟩ = some (.slice A2 q.pl.length c2) ∧
                g < w'.heap.size ∧ b < w'.heap.size ∧ Fresh wr w')
              (first | assumption | exact HS8.out | exact EightS.fresh (by assumption) hfk)
              (first | (go_at_call 14; have hFr := EightS.fr (by assumption : EightS wr g (j * 4) b (o + j * 4) (.int .i64 (q.x.toNat : Int)) (.int .i64 (q.y.toNat : Int)) (.int .i64 (q.st : Int)) (.slice A7 q.pl.length q.pl.length) (.int .i64 (q.x.toNat : Int)) (.int .i64 (q.y.toNat : Int)) (.int .i64 (q.st : Int)) (.slice A2 q.pl.length c2) _); with_reducible refine (HE.out _ (HF5.out.trans (HFV.out.trans hFr)) (HFV.out.trans hFr)).mono ?_; rintro e w6 ⟨rfl, hfk⟩))
            have HF6 := Lib.hid (HFV.out.trans (hFr.trans hfk))
            go_wp2
            go_roundw
            case rel => exact ⟨j + 1, by omega, by go_num, HF6.out⟩
            case measure => simp [intOf]; omega
          · have hltj' : ¬ (j : Int) < (qs.length : Int) := by omega
            go_wp2_with fail
            with_reducible refine (HW.out _).mono ?_
            rintro e w6 ⟨rfl, hf6⟩
            have HF6 := Lib.hid (HF5.out.trans (HFV.out.trans hf6))
            clear hf6
            go_wp2
            go_ret
            exact ⟨rfl, HF6.out⟩
      · have hn0' : (0 : Int) < n := by omega
        have hn8' : (8 : Int) < n := by omega
        have hmk := run_makeZ (P := Try.prog) Try.underlying22 u8_info rfl 8 (8 : Int) (by omega) (by omega) (by omega)
        obtain ⟨T, hT⟩ : ∃ T, T = (rowB qs).length + 8 := ⟨_, rfl⟩
        have hbk : Blk (wr.alloc (.cells (madeCells #[.int .u8 0] 8) 5)) wr.heap.size 5 (bytesA (List.replicate 8 0)) := by rw [← madeCells_zero]; exact Blk.new _ _ _
        have hap := Own.moreN (P := Try.prog) Try.underlying22 u8_info 22 (HO.out.fresh (Fresh.alloc wr (.cells (madeCells #[.int .u8 0] 8) 5))) (HF.out.trans (Fresh.alloc wr (.cells (madeCells #[.int .u8 0] 8) 5))) (Nat.le_refl _) (some ⟨wr.heap.size, 0, none⟩) 8 (List.replicate 8 0) 8 T (by simp) hT.symm (BS.row hbk) (Nat.le_refl _) (by omega)
        obtain ⟨A4, c4, w4, hap4, ho4, hbl4, _⟩ := hap
        have HO4 := Lib.hid ho4
        have HF4 : Hid (Fresh w w4) := hbl4
        have hZ : (List.replicate 8 (0 : UInt8)).length = 8 := by simp
        have hAL : allF 200 T (rowB qs ++ List.replicate 8 0) = some (qs, List.replicate 8 0) := allF_row qs HQ8.out _ (by simp; try omega) _ (by simp; omega)
        have hLn : (rowB qs ++ List.replicate 8 (0 : UInt8)).length = T := by simp; omega
        generalize List.replicate 8 (0 : UInt8) = Z at *
        have hzq : ((Z.length : Int) != (8 : Int)) = false := by rw [hZ]; simp
        have hnq : (((qs.length : Nat) : Int) != (xs.length : Int)) = false := by rw [HQS.out, hkx]; simp
        obtain ⟨A4', c4', e4, hc4, hm4, _⟩ := HO4.out.slice
        cases e4
        have HAL := Lib.hid hAL
        have HLn := Lib.hid hLn
        have HKX := Lib.hid hkx
        have HT4 := Lib.hid hT
        clear ho4 hbl4 hZ hAL hLn hkx hT hbk
        go_wp2_with (at_builtin; with_reducible refine wp_app rfl (.tmp 52) (.tmp 53) _ rfl hap4 rfl rfl rfl ?_)
        with_reducible refine (fall_at A4 T c4 _ 200 _ w4 HLn.out hc4 hm4 HO4.out.bytes.1 (by have := HT4.out; omega) HAL.out).mono ?_
        rintro e w5 ⟨h5, _⟩
        obtain ⟨A5, n5, c5, fs, A6, rfl, rfl, ho5, hfs5, _, hf5⟩ := h5 _ rfl
        clear h5 hap4 hmk
        have HF5 := Lib.hid (HF4.out.trans hf5)
        have HO5 := Lib.hid ho5
        have HFS5 := Lib.hid hfs5
        clear hf5 ho5 hfs5
        simp only [] at HFS5 ⊢
        go_wp2
        clear hzq hnq
        go_loopw [77] (fun i wr => ∃ (j : Nat), j ≤ qs.length ∧ i = .int .i64 (j : Int) ∧ Fresh w5 wr) (fun i _ => qs.length - (intOf i).toNat)
        case atStart => exact ⟨0, Nat.zero_le _, rfl, Fresh.refl _⟩
        case round =>
          obtain ⟨j, hj, rfl, hfv⟩ := hrel
          have HFV := Lib.hid hfv
          clear hfv
          by_cases hltj : j < qs.length
          · obtain ⟨q, hq⟩ : ∃ q, qs[j]? = some q := ⟨_, List.getElem?_eq_getElem hltj⟩
            have hjx : j < xs.length := by have := HQS.out; have := HKX.out; omega
            obtain ⟨f, hf⟩ : ∃ f, xs[j]? = some f := ⟨_, List.getElem?_eq_getElem hjx⟩
            obtain ⟨A7, hp⟩ : ∃ A7, fs[j]? = some (q, A7) := by
              have e := HFS5.out
              rw [← e, List.getElem?_map] at hq
              cases hq' : fs[j]? with
              | none => rw [hq'] at hq; simp at hq
              | some p => rw [hq'] at hq; simp at hq; exact ⟨p.2, by rw [← hq]⟩
            have hpay := (HO5.out.2 _ (List.mem_of_getElem? hp)).1
            obtain ⟨g, rfl, hg, hgb, c0, c1', c2', c3'⟩ := HO5.out.cells j _ hp
            obtain ⟨b, o, rfl, hbw, k0, k1, k2, k3⟩ := HROWS.out.at_ j f hf
            have hfo := HOK.out f (List.mem_of_getElem? hf)
            obtain ⟨qx, qy, qs', ql, hqs31, hq200⟩ := HM.out j f q hf hq
            obtain ⟨ty, fl, st, A2, c2, l⟩ := f
            simp only [FrV.cells, List.getElem?_cons_zero, List.getElem?_cons_succ] at k0 k1 k2 k3 qx qy qs' ql c0 c1' c2' c3' hpay
            subst qx qy qs' ql
            have hA := hfo.bs
            simp only [] at hA
            have HA := Lib.hid hA
            have HE := Lib.hid (fun W (h : Fresh w W) (h' : Fresh w5 W) => fequal_at (q.x.toNat : Int) (q.y.toNat : Int) (q.st : Int) A7 q.pl.length q.pl q.pl.length (q.x.toNat : Int) (q.y.toNat : Int) (q.st : Int) A2 q.pl.length q.pl c2 W true rfl rfl (hpay.bs.fresh h') (HA.out.fresh h) (by simp [frEq]))
            have hbw5 : b < w5.heap.size := by have := HF5.out.size; omega
            have kk := fun o => (HFV.out.cell (p := ⟨b, o, none⟩) hbw5).trans (HF5.out.cell (p := ⟨b, o, none⟩) hbw)
            have gg := fun o => HFV.out.cell (p := ⟨g, o, none⟩) hg
            have HS8 : Hid (EightS wr g (j * 4) b (o + j * 4) (.int .i64 (q.x.toNat : Int)) (.int .i64 (q.y.toNat : Int)) (.int .i64 (q.st : Int)) (.slice A7 q.pl.length q.pl.length) (.int .i64 (q.x.toNat : Int)) (.int .i64 (q.y.toNat : Int)) (.int .i64 (q.st : Int)) (.slice A2 q.pl.length c2) wr.drew) :=
              ⟨(gg _).trans c0, (gg _).trans c1', (gg _).trans c2', (gg _).trans c3', (kk _).trans k0, (kk _).trans k1, (kk _).trans k2, (kk _).trans k3, by have := HFV.out.size; simp; omega, by have := HFV.out.size; simp; omega, Fresh.drew _⟩
            have i1 : (j : Int) < (xs.length : Int) := by omega
            have i2 : (j : Int) < (qs.length : Int) := by omega
            have i3 : (0 : Int) ≤ (j : Int) := by omega
            clear c0 c1' c2' c3' k0 k1 k2 k3 kk gg hfo hA hpay hf hp hq
            go_wp2_with fail
            go_region_held3 (fun w' => w'.cell? ⟨g, j * 4, none⟩ = some (.int .i64 (q.x.toNat : Int)) ∧ w'.cell? ⟨g, j * 4 + 1, none⟩ = some (.int .i64 (q.y.toNat : Int)) ∧ w'.cell? ⟨g, j * 4 + 2, none⟩ = some (.int .i64 (q.st : Int)) ∧ w'.cell? ⟨g, j * 4 + 3, none⟩ = some (.slice A7 q.pl.length q.pl.length) ∧
                w'.cell? ⟨b, o + j * 4, none⟩ = some (.int .i64 (q.x.toNat : Int)) ∧ w'.cell? ⟨b, o + j * 4 + 1, none⟩ = some (.int .i64 (q.y.toNat : Int)) ∧ w'.cell? ⟨b, o + j * 4 + 2, none⟩ = some (.int .i64 (q.st : Int)) ∧ w'.cell? ⟨b, o + j * 4 + 3, none⟩ = some (.slice A2 q.pl.length c2) ∧
                g < w'.heap.size ∧ b < w'.heap.size ∧ Fresh wr w')
              (first | assumption | exact HS8.out | exact EightS.fresh (by assumption) hfk)
              (first | (go_at_call 14; have hFr := EightS.fr (by assumption : EightS wr g (j * 4) b (o + j * 4) (.int .i64 (q.x.toNat : Int)) (.int .i64 (q.y.toNat : Int)) (.int .i64 (q.st : Int)) (.slice A7 q.pl.length q.pl.length) (.int .i64 (q.x.toNat : Int)) (.int .i64 (q.y.toNat : Int)) (.int .i64 (q.st : Int)) (.slice A2 q.pl.length c2) _); with_reducible refine (HE.out _ (HF5.out.trans (HFV.out.trans hFr)) (HFV.out.trans hFr)).mono ?_; rintro e w6 ⟨rfl, hfk⟩))
            have HF6 := Lib.hid (HFV.out.trans (hFr.trans hfk))
            go_wp2
            go_roundw
            case rel => exact ⟨j + 1, by omega, by go_num, HF6.out⟩
            case measure => simp [intOf]; omega
          · have hltj' : ¬ (j : Int) < (qs.length : Int) := by omega
            go_wp2_with fail
            with_reducible refine (HW.out _).mono ?_
            rintro e w6 ⟨rfl, hf6⟩
            have HF6 := Lib.hid (HF5.out.trans (HFV.out.trans hf6))
            clear hf6
            go_wp2
            go_ret
            exact ⟨rfl, HF6.out⟩
end Go.Proofs.Ytplpaobbgfdinaa
