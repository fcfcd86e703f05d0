/-
  Texts laid together: LitB LitC LitD LitE PrefixL LitF.
-/
import Derived.Test.YtginhebfjbhmnaaGreatG23
import Derived.Test.YtginhebfjbhmnaaGreatG03
import Derived.Test.YtginhebfjbhmnaaGreatG01
import Derived.Test.YtginhebfjbhmnaaGreatG02
import Derived.Test.YtginhebfjbhmnaaGreatG22
/-
  Package lit: lay, Encode, Len, Short.
-/
namespace Go.Proofs.YtginhebfjbhmnaaGreat
set_option maxRecDepth 100000
set_option linter.unusedVariables false
set_option linter.unusedSimpArgs false
open Go.RowKit
theorem u8_sizeL : ∀ W : World, (Go.sizeOf 5).run Tryz.prog W = .ok 1 W := fun W => by kernel_rfl
theorem over_twoL (z : Nat) (l m : List UInt8) (h : l.length + m.length = z) : over (over (bytesA (List.replicate z 0)) 0 (l.map byteV)) l.length (m.map byteV) = bytesA (l ++ m) := by
  apply Array.toList_inj.1
  unfold over bytesA
  simp only [List.take_zero, List.nil_append, Nat.zero_add, List.length_map, List.map_append]
  rw [List.take_left' (by simp)]
  rw [List.drop_eq_nil_of_le (by simp; omega), List.append_nil]
theorem Own.full {w : World} {base g : Nat} {P : List UInt8} (h : Blk w g 5 (bytesA P)) (hb : base ≤ g) (hm : P.length ≤ maxLen) : Own w base 5 1 (.slice (some ⟨g, 0, none⟩) P.length P.length) P.length (P.map byteV) :=
  ⟨by simp, .inr ⟨g, P.length, bytesA P, rfl, hb, h, Nat.le_refl _, hm, by simp [bytesA_size], by simp only [bytesA, List.toList_toArray]; exact List.take_of_length_le (by simp)⟩⟩
/-- Bytes told in new memory. -/
def OwnP (P : List UInt8) (w : World) (e : Ending) (w' : World) : Prop := ∃ (A : Option Addr) (c : Nat), e = .returned (.slice A P.length c) ∧ Own w' w.heap.size 5 1 (.slice A P.length c) P.length (P.map byteV) ∧ Fresh w w'
end Go.Proofs.YtginhebfjbhmnaaGreat

/-
  Package lit: Encode, Len, Short.
-/
namespace Go.Proofs.YtginhebfjbhmnaaGreat
set_option maxRecDepth 100000
set_option linter.unusedVariables false
set_option linter.unusedSimpArgs false
open Go.RowKit
def LitP (l : List UInt8) (cd : Bool) (w : World) (e : Ending) (w' : World) : Prop := ∃ (P : List UInt8) (A : Option Addr) (c : Nat), e = .returned (.tuple #[.slice A P.length c, .int .i64 0]) ∧ IsLit l cd P ∧ Own w' w.heap.size 5 1 (.slice A P.length c) P.length (P.map byteV) ∧ Fresh w w'
/-- The shorter bytes of a text. -/
def ShortP (l : List UInt8) (w : World) (e : Ending) (w' : World) : Prop := ∃ (P : List UInt8) (A : Option Addr) (c : Nat), e = .returned (.slice A P.length c) ∧ IsLit l (decide (litN l true < litN l false)) P ∧ Own w' w.heap.size 5 1 (.slice A P.length c) P.length (P.map byteV) ∧ Fresh w w'
end Go.Proofs.YtginhebfjbhmnaaGreat

/-
  Package lit: text, Decode.
-/
namespace Go.Proofs.YtginhebfjbhmnaaGreat
set_option maxRecDepth 100000
set_option linter.unusedVariables false
set_option linter.unusedSimpArgs false
open Go.RowKit
def LTextP (b : List UInt8) (cd : Bool) (lim : Int) (w : World) (e : Ending) (w' : World) : Prop := ∃ (A : Option Addr) (c n : Nat), e = .returned (.tuple #[.slice A n c, .int .i64 ((textR b cd lim).1 : Int)]) ∧
  ((textR b cd lim).1 = 0 → n = (textR b cd lim).2.length ∧ Own w' w.heap.size 5 1 (.slice A n c) n ((textR b cd lim).2.map byteV)) ∧ Fresh w w'
theorem LTextP.no {b : List UInt8} {cd : Bool} {lim : Int} {w w' : World} {A : Option Addr} {c n er : Nat} {O : List UInt8} (h : textR b cd lim = (er, O)) (he : er ≠ 0) (hf : Fresh w w') : LTextP b cd lim w (.returned (.tuple #[.slice A n c, .int .i64 (er : Int)])) w' :=
  ⟨A, c, n, by rw [h], fun h2 => by rw [h] at h2; exact absurd h2 he, hf⟩
theorem LTextP.yes {b : List UInt8} {cd : Bool} {lim : Int} {w w' : World} {A : Option Addr} {c n : Nat} {O : List UInt8} (h : textR b cd lim = (0, O)) (hn : n = O.length) (ho : Own w' w.heap.size 5 1 (.slice A n c) n (O.map byteV)) (hf : Fresh w w') : LTextP b cd lim w (.returned (.tuple #[.slice A n c, .int .i64 0])) w' :=
  ⟨A, c, n, by rw [h]; rfl, fun h2 => by rw [h]; exact ⟨hn, ho⟩, hf⟩
set_option maxRecDepth 100000 in
set_option maxHeartbeats 1600000 in
theorem lit_text (A : Option Addr) (c : Nat) (b : List UInt8) (cd : Bool) (lim : Int) (w : World) (hl : b.length ≤ 100000000) (hB : BS w A b) :
    Calls Tryz.prog 97 #[.slice A b.length c, .bool cd, .int .i64 lim] w (LTextP b cd lim w) := by
  cases cd with
  | true =>
    have HD := Lib.hid (huff_decode A c b w hB hl)
    have hcs := decE_cases (bitsL b)
    obtain ⟨er, O, hde⟩ : ∃ er O, decE (bitsL b) = (er, O) := ⟨_, _, rfl⟩
    have HDF : Hid (∀ e W, DecF (bitsL b) w e W → ∃ (A : Option Addr) (c : Nat), e = .returned (.tuple #[.slice A O.length c, .int .i64 (er : Int)]) ∧ Own W w.heap.size 5 1 (.slice A O.length c) O.length (O.map byteV) ∧ Fresh w W) := Lib.hid (fun e W h => by
      obtain ⟨A1, c1, he, ho, hf⟩ := h
      rw [hde] at he ho
      exact ⟨A1, c1, he, ho, hf⟩)
    have hR : textR b true lim = if er = 0 then (if lim < (O.length : Int) then (22, []) else (0, O)) else (er, []) := by
      unfold textR
      simp only [if_true, hde]
      by_cases h : er = 0
      · subst h; simp
      · simp [h]
    rw [hde] at hcs
    have HR := Lib.hid hR
    have HO : Hid (∀ (w' : World) (A : Option Addr) (c n er : Nat) (O : List UInt8), textR b true lim = (er, O) → er ≠ 0 → Fresh w w' → LTextP b true lim w (.returned (.tuple #[.slice A n c, .int .i64 (er : Int)])) w') := Lib.hid (fun _ _ _ _ _ _ h1 h2 h3 => LTextP.no h1 h2 h3)
    have HY : Hid (∀ (w' : World) (A : Option Addr) (c n : Nat) (O : List UInt8), textR b true lim = (0, O) → n = O.length → Own w' w.heap.size 5 1 (.slice A n c) n (O.map byteV) → Fresh w w' → LTextP b true lim w (.returned (.tuple #[.slice A n c, .int .i64 0])) w') := Lib.hid (fun _ _ _ _ _ h1 h2 h3 h4 => LTextP.yes h1 h2 h3 h4)
    clear hR hde hB
    generalize LTextP b true lim w = TP at *
    generalize b.length = n at *
    go_enter Tryz.func97, Tryz.ntmps97
    go_wp2_with fail
    with_reducible refine HD.out.mono ?_
    rintro e w1 hd
    obtain ⟨A1, c1, rfl, ho1, hf1⟩ := HDF.out _ _ hd
    have HO1 := Lib.hid ho1
    have HF1 := Lib.hid hf1
    clear hd ho1 hf1 HD HDF
    obtain ⟨m, hm⟩ : ∃ m, O.length = m := ⟨_, rfl⟩
    rw [hm] at HO1 HR ⊢
    by_cases h0 : er = 0
    · subst h0
      rw [show ((0 : Nat) : Int) = 0 from rfl]
      rw [if_pos rfl] at HR
      by_cases hlim : lim < (m : Int)
      · have HR2 := Lib.hid (HR.out.trans (if_pos hlim))
        have hlimd : decide (lim < (m : Int)) = true := by simpa using hlim
        clear hcs HR
        go_wp2
        exact HO.out _ _ _ _ 22 _ HR2.out (by omega) HF1.out
      · have HR2 := Lib.hid (HR.out.trans (if_neg hlim))
        have hlimd : decide (lim < (m : Int)) = false := by simpa using hlim
        clear hcs HR
        go_wp2
        exact HY.out _ _ _ _ _ HR2.out hm.symm HO1.out HF1.out
    · have HR2 := Lib.hid (HR.out.trans (if_neg h0))
      clear HR
      have hcase2 : er = 20 ∨ er = 21 := by rcases hcs with h | h | h <;> simp_all
      clear hcs
      rcases hcase2 with rfl | rfl
      · rw [show ((20 : Nat) : Int) = 20 from rfl]
        go_wp2
        exact HO.out _ _ _ _ _ _ HR2.out (by omega) HF1.out
      · rw [show ((21 : Nat) : Int) = 21 from rfl]
        go_wp2
        exact HO.out _ _ _ _ _ _ HR2.out (by omega) HF1.out
  | false =>
    have hR : textR b false lim = if lim < (b.length : Int) then (22, []) else (0, b) := textR_ok (O := b) (cd := false) rfl
    by_cases hlim : lim < (b.length : Int)
    · rw [if_pos hlim] at hR
      have HFIN := Lib.hid (LTextP.no (A := none) (c := 0) (n := 0) hR (by omega) (Fresh.refl w))
      clear hR
      generalize b.length = n at *
      generalize LTextP b false lim w = TP at *
      go_enter Tryz.func97, Tryz.ntmps97
      go_wp2
      exact HFIN.out
    · rw [if_neg hlim] at hR
      have hmk := run_makeZ (P := Tryz.prog) Tryz.underlying28 u8_infoH rfl b.length (b.length : Int) rfl (by omega) (by omega)
      have hb0 : BS (w.alloc (.cells (madeCells #[.int .u8 0] b.length) 5)) A b := hB.fresh (Fresh.alloc _ _)
      have hn0 : Blk (w.alloc (.cells (madeCells #[.int .u8 0] b.length) 5)) w.heap.size 5 (madeCells #[.int .u8 0] b.length) := Blk.new _ _ _
      obtain ⟨W2, hcp, hb2, ho2, hsz⟩ := run_copy_bs (P := Tryz.prog) hb0 28 5 3 Tryz.underlying28 (by kernel_rfl) w.heap.size 0 b.length b.length c _ _ hn0 (Nat.le_refl _) (by rw [size_madeCells]; omega) (some ⟨w.heap.size, 0, none⟩) (fun _ => rfl)
      rw [over_all _ _ (by rw [size_madeCells]; simp)] at hb2
      have hF2 : Fresh w W2 := ((Only.of_fresh (Fresh.alloc _ _)).trans ho2).fresh (fun k hk e => by omega)
      have HFIN := Lib.hid (LTextP.yes hR rfl (Own.full (base := w.heap.size) hb2 (Nat.le_refl _) (by unfold maxLen; omega)) hF2)
      clear hb0 hn0 hb2 ho2 hsz hB hR hF2
      generalize madeCells #[.int .u8 0] b.length = Z at *
      generalize b.length = n at *
      generalize LTextP b false lim w = TP at *
      go_enter Tryz.func97, Tryz.ntmps97
      go_wp2
      exact HFIN.out
def LitDP (l : List UInt8) (lim : Int) (w : World) (e : Ending) (w' : World) : Prop := ∃ (A : Option Addr) (c : Nat), e = .returned (.tuple #[.slice A (litR l lim).1.length c, .int .i64 ((litR l lim).2.1 : Int), .int .i64 ((litR l lim).2.2 : Int)]) ∧
  Own w' w.heap.size 5 1 (.slice A (litR l lim).1.length c) (litR l lim).1.length ((litR l lim).1.map byteV) ∧ Fresh w w'
theorem LitDP.no {l : List UInt8} {lim : Int} {w w' : World} {er : Nat} (h : litR l lim = ([], 0, er)) (hf : Fresh w w') : LitDP l lim w (.returned (.tuple #[.slice none 0 0, .int .i64 0, .int .i64 (er : Int)])) w' :=
  ⟨none, 0, by rw [h]; rfl, by rw [h]; exact Own.nil _ _ _ _, hf⟩
theorem LitDP.yes {l : List UInt8} {lim : Int} {w w' : World} {O : List UInt8} {A : Option Addr} {c u : Nat} (h : litR l lim = (O, u, 0)) (ho : Own w' w.heap.size 5 1 (.slice A O.length c) O.length (O.map byteV)) (hf : Fresh w w') : LitDP l lim w (.returned (.tuple #[.slice A O.length c, .int .i64 (u : Int), .int .i64 0])) w' :=
  ⟨A, c, by rw [h]; rfl, by rw [h]; exact ho, hf⟩
set_option maxRecDepth 100000 in
set_option maxHeartbeats 1600000 in
theorem lit_decode (A : Option Addr) (c : Nat) (l : List UInt8) (lim : Int) (w : World) (hl : l.length ≤ 100000000) (hlc : l.length ≤ c) (hcm : c ≤ maxLen) (hB : BS w A l) :
    Calls Tryz.prog 93 #[.slice A l.length c, .int .i64 lim] w (LitDP l lim w) := by
  unfold maxLen at hcm
  have HPD := Lib.hid (dec_any A c 7 l w (by omega) (by omega) (by omega) hB)
  rcases decL_cases l with h | h | ⟨N, u, h, hu1, hul, hN⟩
  · have HFIN : Hid (∀ W, Fresh w W → LitDP l lim w (.returned (.tuple #[.slice none 0 0, .int .i64 0, .int .i64 22])) W) := Lib.hid (fun W hf => LitDP.no (er := 22) (by unfold litR; rw [h]; rfl) hf)
    rw [h] at HPD
    clear h hB
    generalize l.length = n at *
    go_enter Tryz.func93, Tryz.ntmps93
    go_wp2_with fail
    refine HPD.out.mono ?_
    rintro e w1 ⟨rfl, hf1⟩
    unfold decV
    go_wp2
    go_ret3
    exact HFIN.out _ hf1
  · have HFIN : Hid (∀ W, Fresh w W → LitDP l lim w (.returned (.tuple #[.slice none 0 0, .int .i64 0, .int .i64 16])) W) := Lib.hid (fun W hf => LitDP.no (er := 16) (by unfold litR; rw [h]; rfl) hf)
    rw [h] at HPD
    clear h hB
    generalize l.length = n at *
    go_enter Tryz.func93, Tryz.ntmps93
    go_wp2_with fail
    refine HPD.out.mono ?_
    rintro e w1 ⟨rfl, hf1⟩
    unfold decV
    go_wp2
    go_ret3
    exact HFIN.out _ hf1
  · by_cases hsh : l.length < u + N
    · have HFIN : Hid (∀ W, Fresh w W → LitDP l lim w (.returned (.tuple #[.slice none 0 0, .int .i64 0, .int .i64 16])) W) := Lib.hid (fun W hf => LitDP.no (er := 16) (by
        unfold litR
        rw [h]
        simp only
        rw [if_neg (by simp), if_pos (by omega)]) hf)
      rw [h] at HPD
      clear h hB
      generalize l.length = n at *
      have h1 : (n : Int) - (u : Int) < (N : Int) := by omega
      go_enter Tryz.func93, Tryz.ntmps93
      go_wp2_with fail
      refine HPD.out.mono ?_
      rintro e w1 ⟨rfl, hf1⟩
      unfold decV
      go_wp2
      go_ret3
      exact HFIN.out _ hf1
    · have hl0 : 0 < l.length := by omega
      obtain ⟨M, hM⟩ : ∃ M, l[0].toNat / 128 = M := ⟨_, rfl⟩
      have hh : l.headD 0 = l[0] := by
        have := headD_app l [] hl0
        rwa [List.append_nil] at this
      obtain ⟨cd, hcd⟩ : ∃ cd, decide (1 ≤ M) = cd := ⟨_, rfl⟩
      have hM1 : M ≤ 1 := by have := UInt8.toNat_lt l[0]; omega
      have hMd : ((M : Int) == 1) = cd := by
        rw [← hcd, Bool.eq_iff_iff]
        simp
        omega
      have HMK : Hid (∀ W, Fresh w W → Calls Tryz.prog 96 #[.slice A l.length c, .int .i64 7] W fun e w' => e = .returned (.tuple #[.int .i64 (M : Int), .bool true]) ∧ Fresh W w') := Lib.hid (fun W hf => by
        have := mark_yes A c 7 l W (by omega) (by omega) hl0 (hB.fresh hf)
        rw [show 2 ^ 7 = 128 from rfl, hM] at this
        exact this)
      have hBc : BS w (cutA A u c) ((l.drop u).take N) := (hB.cut u c hlc).take N
      obtain ⟨b, hb⟩ : ∃ b, (l.drop u).take N = b := ⟨_, rfl⟩
      have hbl : b.length = N := by rw [← hb, List.length_take, List.length_drop]; omega
      rw [hb] at hBc
      have HT : Hid (∀ W, Fresh w W → Calls Tryz.prog 97 #[.slice (cutA A u c) N (c - u), .bool cd, .int .i64 lim] W (LTextP b cd lim W)) := Lib.hid (fun W hf => by
        have := lit_text (cutA A u c) (c - u) b cd lim W (by omega) (hBc.fresh hf)
        rwa [hbl] at this)
      have hct := run_cut_mid (P := Tryz.prog) Tryz.underlying28 u8_sizeL A l.length c u (u + N) (by omega) (by omega)
      rw [show u + N - u = N by omega] at hct
      have hLR : litR l lim = if (textR b cd lim).1 = 0 then ((textR b cd lim).2, u + N, 0) else ([], 0, (textR b cd lim).1) := by
        unfold litR
        rw [h]
        simp only
        rw [if_neg (by simp), if_neg (by omega), hh, hM, hcd]
        simp only [Int.toNat_natCast]
        rw [hb]
        rfl
      have HLR := Lib.hid hLR
      rw [h] at HPD
      clear h hB hBc hM hh hcd hb hbl hLR
      generalize l.length = n at *
      have h1 : ¬ (n : Int) - (u : Int) < (N : Int) := by omega
      have h2 : (u : Int) ≤ (u : Int) + (N : Int) := by omega
      have h3 : (u : Int) + (N : Int) ≤ (c : Int) := by omega
      have e2 : ((u + N : Nat) : Int) = (u : Int) + (N : Int) := by omega
      rw [e2] at hct
      have HY : Hid (∀ (w' : World) (A : Option Addr) (c : Nat), (textR b cd lim).1 = 0 → Own w' w.heap.size 5 1 (.slice A (textR b cd lim).2.length c) (textR b cd lim).2.length ((textR b cd lim).2.map byteV) → Fresh w w' → LitDP l lim w (.returned (.tuple #[.slice A (textR b cd lim).2.length c, .int .i64 ((u : Int) + (N : Int)), .int .i64 0])) w') := Lib.hid (fun w' A c h1 h2 h3 => by
        have := LitDP.yes (HLR.out.trans (if_pos h1)) h2 h3
        rwa [e2] at this)
      have HNO : Hid (∀ (w' : World), (textR b cd lim).1 ≠ 0 → Fresh w w' → LitDP l lim w (.returned (.tuple #[.slice none 0 0, .int .i64 0, .int .i64 ((textR b cd lim).1 : Int)])) w') := Lib.hid (fun w' h1 h3 => LitDP.no (HLR.out.trans (if_neg h1)) h3)
      clear HLR
      generalize LitDP l lim w = LP at *
      go_enter Tryz.func93, Tryz.ntmps93
      go_wp2_with fail
      refine HPD.out.mono ?_
      rintro e w1 ⟨rfl, hf1⟩
      have HF1 := Lib.hid hf1
      clear hf1
      unfold decV
      go_wp2_with fail
      with_reducible refine (HMK.out _ HF1.out).mono ?_
      rintro e w2 ⟨rfl, hf2⟩
      have HF2 := Lib.hid (HF1.out.trans hf2)
      clear hf2
      go_wp2_with fail
      with_reducible refine (HT.out _ HF2.out).mono ?_
      rintro e w3 ⟨A3, c3, n3, rfl, hyes, hf3⟩
      have HF3 := Lib.hid (HF2.out.trans hf3)
      by_cases h0 : (textR b cd lim).1 = 0
      · obtain ⟨rfl, ho3⟩ := hyes h0
        have HFIN := Lib.hid (HY.out _ _ _ h0 (ho3.base_le HF2.out.size) HF3.out)
        rw [h0, show ((0 : Nat) : Int) = 0 from rfl]
        clear hyes ho3 h0 hf3 HY HNO
        generalize (textR b cd lim).2.length = m at *
        go_wp2
        exact HFIN.out
      · have HFIN := Lib.hid (HNO.out _ h0 HF3.out)
        clear hyes hf3 HY HNO
        obtain ⟨er, her⟩ : ∃ er, (textR b cd lim).1 = er := ⟨_, rfl⟩
        rw [her] at HFIN h0 ⊢
        clear her
        have h0' : ¬ (er : Int) = 0 := by omega
        have h0d : ((er : Int) != 0) = true := by simpa using h0'
        go_wp2
        exact HFIN.out
end Go.Proofs.YtginhebfjbhmnaaGreat

/-
  The document's answers for layer 4: bytes; that every text has a code.
-/
namespace Go.Proofs.YtginhebfjbhmnaaGreat
set_option maxRecDepth 100000
set_option linter.unusedVariables false
set_option linter.unusedSimpArgs false
open Go.RowKit
theorem bits_ex : ∀ D : List Bool, ∃ v, v < 2 ^ D.length ∧ bitsOf v D.length = D
  | [] => ⟨0, by simp, rfl⟩
  | x :: r => by
    obtain ⟨u, hu, he⟩ := bits_ex r
    have hc := bitsOf_cat x.toNat u 1 r.length hu
    refine ⟨x.toNat * 2 ^ r.length + u, ?_, ?_⟩
    · rw [List.length_cons, Nat.pow_succ]
      cases x
      · simp; omega
      · simp; omega
    · rw [List.length_cons, Nat.add_comm r.length 1, hc, he]
      cases x <;> rfl
theorem byte_ex {D : List Bool} (h : D.length = 8) : ∃ c : UInt8, bb c = D := by
  obtain ⟨v, hv, he⟩ := bits_ex D
  rw [h] at hv he
  refine ⟨UInt8.ofNat v, ?_⟩
  unfold bb
  rw [show (UInt8.ofNat v).toNat = v by simp; omega]
  exact he
theorem bits_pack : ∀ (k : Nat) (D : List Bool), D.length = 8 * k → ∃ O, bitsL O = D
  | 0, D, h => ⟨[], by rw [List.length_eq_zero_iff.1 (by omega : D.length = 0)]; rfl⟩
  | k + 1, D, h => by
    obtain ⟨c, hc⟩ := byte_ex (D := D.take 8) (by rw [List.length_take]; omega)
    obtain ⟨O, hO⟩ := bits_pack k (D.drop 8) (by rw [List.length_drop]; omega)
    exact ⟨c :: O, by rw [bitsL_cons, hc, hO, List.take_append_drop]⟩
theorem enc_ex (l : List UInt8) : ∃ O, IsEnc l O := by
  obtain ⟨p, hp, h8, _⟩ := pads (hszB l)
  obtain ⟨O, hO⟩ := bits_pack ((hszB l + p) / 8) (encB l ++ ones p) (by rw [List.length_append, ones, List.length_replicate]; unfold hszB at *; omega)
  exact ⟨O, p, hp, hO⟩
theorem lit_ex (l : List UInt8) (cd : Bool) : ∃ P, IsLit l cd P := by
  cases cd with
  | true =>
    obtain ⟨O, hO⟩ := enc_ex l
    exact ⟨_, O, hO, rfl⟩
  | false => exact ⟨_, l, rfl, rfl⟩
theorem bitsL_at {O : List UInt8} {k j : Nat} (hk : k < O.length) (hj : j < 8) (h : 8 * k + j < (bitsL O).length) : (bitsL O)[8 * k + j] = O[k].toNat.testBit (7 - j) := by
  have e : bitsL O = bitsL (O.take k) ++ (bb O[k] ++ bitsL (O.drop (k + 1))) := by
    rw [← bitsL_cons, ← bitsL_append, ← List.drop_eq_getElem_cons hk, List.take_append_drop]
  have hl : (bitsL (O.take k)).length = 8 * k := by rw [bitsL_length, List.length_take]; omega
  have hb := bb_length O[k]
  have h2 : 8 * k + j < (bitsL (O.take k) ++ (bb O[k] ++ bitsL (O.drop (k + 1)))).length := by rw [← e]; exact h
  have e2 : (bitsL O)[8 * k + j] = (bitsL (O.take k) ++ (bb O[k] ++ bitsL (O.drop (k + 1))))[8 * k + j] := by congr 1
  rw [e2, List.getElem_append_right (by omega), List.getElem_append_left (by omega)]
  rw [bb_get]
  congr 1
  omega
end Go.Proofs.YtginhebfjbhmnaaGreat

/-
  The document's answers for layer 3.
-/
namespace Go.Proofs.YtginhebfjbhmnaaGreat
set_option maxRecDepth 100000
set_option linter.unusedVariables false
open Go.RowKit

theorem okP_yes {n b m : Int} (h : okP n b m) : ∃ n' b' m' : Nat, n = n' ∧ b = b' ∧ m = m' ∧ 1 ≤ b' ∧ b' ≤ 8 ∧ n' ≤ 2147483647 ∧ m' < 2 ^ (8 - b') := by
  obtain ⟨h1, h2, h3, h4, h5, h6⟩ := h
  obtain ⟨b', rfl⟩ : ∃ b' : Nat, b = b' := ⟨b.toNat, by omega⟩
  refine ⟨n.toNat, b', m.toNat, by omega, rfl, by omega, by omega, by omega, by omega, ?_⟩
  have : m < ((2 ^ (8 - b') : Nat) : Int) := by simpa using h6
  omega

theorem u8_mod (x : Nat) : UInt8.ofNat (((x : Nat) : Int) % 256).toNat = UInt8.ofNat x := by
  have : (((x : Nat) : Int) % 256).toNat = x % 256 := by omega
  rw [this]
  exact UInt8.toNat_inj.1 (by simp)

end Go.Proofs.YtginhebfjbhmnaaGreat

/-
  The document's answers for layer 4: Encode, Decode.
-/
namespace Go.Proofs.YtginhebfjbhmnaaGreat
set_option maxRecDepth 100000
set_option linter.unusedVariables false
set_option linter.unusedSimpArgs false
open Go.RowKit
theorem mark_cast (cd : Bool) : (if cd then (1 : Int) else 0) = ((if cd then 1 else 0 : Nat) : Int) := by cases cd <;> rfl
theorem strB_cutM (l : List UInt8) (a m : Nat) (h : a + m ≤ l.length) : (strB l).extract a (a + m) = strB ((l.drop a).take m) := by
  apply ByteArray.ext
  apply Array.ext'
  simp only [ByteArray.data_extract, Array.toList_extract, strB_data, List.extract_eq_take_drop]
  congr 1
  omega
theorem textR_coded {b O : List UInt8} {er : Nat} (lim : Int) (hde : decE (bitsL b) = (er, O)) : textR b true lim = if er = 0 then (if lim < (O.length : Int) then (22, []) else (0, O)) else (er, []) := by
  unfold textR
  simp only [if_true, hde]
  by_cases h : er = 0
  · subst h; simp
  · simp [h]
def Lit4P (l : List UInt8) (lim : Int) (w : World) (e : Ending) (w' : World) : Prop := e = .returned (.tuple #[.string (strB (litR l lim).1), .int .i64 ((litR l lim).2.1 : Int), .int .i64 ((litR l lim).2.2 : Int)]) ∧ Fresh w w'
theorem Lit4P.mk {l : List UInt8} {lim : Int} {w w' : World} {O : List UInt8} {u er : Nat} (h : litR l lim = (O, u, er)) (hf : Fresh w w') : Lit4P l lim w (.returned (.tuple #[.string (strB O), .int .i64 (u : Int), .int .i64 (er : Int)])) w' := ⟨by rw [h], hf⟩
end Go.Proofs.YtginhebfjbhmnaaGreat

