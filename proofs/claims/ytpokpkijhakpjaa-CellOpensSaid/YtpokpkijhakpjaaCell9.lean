/-
  Contract of cell.Frames.
-/
import Derived.Test.YtpokpkijhakpjaaCell8
import Derived.Test.YtpokpkijhakpjaaFrIn
namespace Go.Proofs.Ytpokpkijhakpjaa
set_option linter.unusedVariables false
open Go.RowKit

def rtF (f : FrV) : Bool := frR f.ty f.fl f.st f.l.length
def toFr (f : FrV) : Fr := ⟨UInt8.ofNat f.ty.toNat, UInt8.ofNat f.fl.toNat, f.st.toNat, f.l⟩
theorem toFr_ok {f : FrV} (h : rtF f = true) : f.ty = ((toFr f).x.toNat : Int) ∧ f.fl = ((toFr f).y.toNat : Int) ∧ f.st = ((toFr f).st : Int) ∧ (toFr f).pl = f.l ∧ (toFr f).st ≤ 2147483647 ∧ f.l.length ≤ 16777215 := by
  have := of_decide_eq_true h
  refine ⟨by simp [toFr]; omega, by simp [toFr]; omega, by simp [toFr]; omega, rfl, by simp [toFr]; omega, by omega⟩
def szN (xs : List FrV) : Nat := (xs.map fun f => 9 + f.l.length).sum
theorem szN_snoc (xs : List FrV) (f : FrV) : szN (xs ++ [f]) = szN xs + (9 + f.l.length) := by simp [szN]
theorem szN_take {xs : List FrV} {k : Nat} {f : FrV} (h : xs[k]? = some f) : szN (xs.take (k + 1)) = szN (xs.take k) + (9 + f.l.length) := by
  have hk := (List.getElem?_eq_some_iff.1 h).1
  have he := (List.getElem?_eq_some_iff.1 h).2
  rw [List.take_succ_eq_append_getElem hk, szN_snoc, he]
theorem szN_cons (f : FrV) (xs : List FrV) : szN (f :: xs) = (9 + f.l.length) + szN xs := by simp [szN]
theorem szN_le : ∀ (xs : List FrV) (k : Nat), szN (xs.take k) ≤ szN xs
  | [], k => by simp [szN]
  | f :: xs, 0 => by simp [szN]
  | f :: xs, k + 1 => by have := szN_le xs k; rw [List.take_succ_cons, szN_cons, szN_cons]; omega
theorem szN_len : ∀ (xs : List FrV), xs.length * 9 ≤ szN xs
  | [] => by simp [szN]
  | f :: xs => by have := szN_len xs; rw [szN_cons, List.length_cons]; omega
theorem rowB_sz (xs : List FrV) : (rowB (xs.map toFr)).length = szN xs := by
  induction xs with
  | nil => rfl
  | cons f xs ih =>
    have e : rowB ((f :: xs).map toFr) = frB2 (toFr f).x (toFr f).y (toFr f).st (toFr f).pl ++ rowB (xs.map toFr) := by simp [rowB]
    rw [e, List.length_append, frB2_length, ih]
    simp [szN, toFr]
theorem map_take {xs : List FrV} {k : Nat} {f : FrV} (h : xs[k]? = some f) : (xs.take (k + 1)).map toFr = (xs.take k).map toFr ++ [toFr f] := by
  have hk := (List.getElem?_eq_some_iff.1 h).1
  have he := (List.getElem?_eq_some_iff.1 h).2
  rw [List.take_succ_eq_append_getElem hk, List.map_append, he]; rfl
def RNo (r : Int) (w : World) (e : Ending) (w' : World) : Prop := e = .returned (.tuple #[.slice none 0 0, .int .i64 r]) ∧ Fresh w w'
/-- Where the loop stands. -/
def SentR (w : World) (xs : List FrV) (k : Nat) (v : Value) (wr : World) : Prop :=
  ∃ A c, v = .slice A (rowB ((xs.take k).map toFr)).length c ∧ Own wr w.heap.size 5 1 (.slice A (rowB ((xs.take k).map toFr)).length c) (rowB ((xs.take k).map toFr)).length ((rowB ((xs.take k).map toFr)).map byteV) ∧ Fresh w wr ∧ ∀ j f, j < k → xs[j]? = some f → rtF f = true
set_option maxHeartbeats 3200000 in
/-- A row of frames: the first wrong one, or what is filled. -/
theorem frames_any (s : FrsV) (n : Int) (w : World) (hs : s.Ok w) (hsz : szN s.xs ≤ 1500) (Q : World → Ending → World → Prop)
    (hQ : ∀ w1 w2 e w', Fresh w1 w2 → Q w2 e w' → Q w1 e w')
    (hno : (∃ f ∈ s.xs, rtF f = false) → ∀ w1 w', Fresh w1 w' → Q w1 (.returned (.tuple #[.slice none 0 0, .int .i64 10])) w')
    (hyes : (∀ f ∈ s.xs, rtF f = true) → ∀ (A : Option Addr) (c : Nat) (w1 : World), BS w1 A (rowB (s.xs.map toFr)) → (rowB (s.xs.map toFr)).length ≤ c → Calls Try.prog 10 #[.slice A (rowB (s.xs.map toFr)).length c, .int .i64 n] w1 fun e w' => ∃ v r, e = .returned (.tuple #[v, .int .i64 r]) ∧ Q w1 e w') :
    Calls Try.prog 16 #[.slice s.A s.xs.length s.c, .int .i64 n] w (Q w) := by
  obtain ⟨A, c, xs⟩ := s
  have hle := hs.le
  have hmax := hs.max
  have hn9 := szN_len xs
  have HROWS := Lib.hid hs.rows
  have HOK := Lib.hid hs.ok
  simp only [] at hle hmax HROWS HOK hsz hno hyes hn9 ⊢
  have HQ := Lib.hid hQ
  have HNO := Lib.hid hno
  have HYES := Lib.hid hyes
  clear hs hQ hno hyes
  unfold maxLen at hmax
  have HSt : Hid (SentR w xs 0 (.slice none 0 0) w) := Lib.hid ⟨none, 0, rfl, Own.nil _ _ _ _, Fresh.refl _, fun j f h => by omega⟩
  go_enter Try.func16, Try.ntmps16
  go_wp2_with fail
  go_loopw [6, 13] (fun v i wr => ∃ k : Nat, k ≤ xs.length ∧ i = .int .i64 k ∧ SentR w xs k v wr) (fun _ i _ => xs.length - (intOf i).toNat)
  case atStart => exact ⟨0, by omega, rfl, HSt.out⟩
  case round =>
    obtain ⟨k, hk, rfl, A1, c1, rfl, ho, hf, hrt⟩ := hrel
    clear HSt
    have HO := Lib.hid ho
    have HF := Lib.hid hf
    have HRT := Lib.hid hrt
    clear ho hf hrt
    by_cases hlt : k < xs.length
    · obtain ⟨f, hxk⟩ : ∃ f, xs[k]? = some f := ⟨_, List.getElem?_eq_getElem hlt⟩
      obtain ⟨b, o, rfl, hbw, k0, k1, k2, k3⟩ := HROWS.out.at_ k f hxk
      have hfo := HOK.out f (List.mem_of_getElem? hxk)
      have HXK := Lib.hid hxk
      have HSZ := Lib.hid (szN_take hxk)
      have hz := szN_le xs (k + 1)
      have HRS := Lib.hid (rowB_sz (xs.take k))
      have HMT := Lib.hid (map_take hxk)
      have HFM := Lib.hid (List.mem_of_getElem? hxk)
      have hz2 : (rowB ((xs.take k).map toFr)).length + (9 + f.l.length) ≤ 1500 := by rw [HRS.out]; have := HSZ.out; omega
      have kk := fun o => HF.out.cell (p := ⟨b, o, none⟩) hbw
      have j0 := (kk _).trans k0
      have j1 := (kk _).trans k1
      have j2 := (kk _).trans k2
      have j3 := (kk _).trans k3
      have hbw2 : b < wr.heap.size := by have := HF.out.size; omega
      have HA := Lib.hid (hfo.bs.fresh HF.out)
      have hl2 := hfo.le
      obtain ⟨ty, fl, st, A2, c2, l⟩ := f
      simp only [FrV.cells, List.getElem?_cons_zero, List.getElem?_cons_succ] at j0 j1 j2 j3 HA hl2 hz2
      clear k0 k1 k2 k3 kk hfo hxk hz
      obtain ⟨X, hX⟩ : ∃ X, rowB ((xs.take k).map toFr) = X := ⟨_, rfl⟩
      rw [hX] at HO hz2 ⊢
      have HX := Lib.hid hX
      clear hX
      have hlt' : (k : Int) < (xs.length : Int) := by omega
      cases hr : rtF ⟨ty, fl, st, A2, c2, l⟩ with
      | false =>
        have HB := Lib.hid (fun W => fbytes_no ty fl st A2 l.length c2 W hr)
        have HEX : Hid (∃ f ∈ xs, rtF f = false) := Lib.hid ⟨_, HFM.out, hr⟩
        clear hr
        go_wp2_with fail
        refine (HB.out _).mono ?_
        rintro e w3 ⟨rfl, hf3⟩
        have HF3 := Lib.hid ((HF.out.allocS _).trans hf3)
        clear hf3
        go_wp2_with fail
        exact HNO.out HEX.out _ _ HF3.out
      | true =>
        obtain ⟨e1, e2, e3, e4, e5, e6⟩ := toFr_ok hr
        have HR := Lib.hid hr
        have HB := Lib.hid (fun W (h : Fresh wr W) => fbytes_at ty fl st _ _ _ A2 l.length (9 + l.length) c2 l _ W e1 e2 e3 rfl rfl (frB2_length _ _ _ l) e5 e6 (HA.out.fresh h) hl2)
        clear hr e1 e2 e3 e4 e5 e6
        go_wp2_with fail
        refine (HB.out _ (Fresh.alloc _ _)).mono ?_
        rintro e w3 ⟨A3, c3, rfl, hn3, hm3, ho3, hf3⟩
        have HF3 := Lib.hid ((HF.out.allocS _).trans hf3)
        have hL3 : (frB2 (toFr ⟨ty, fl, st, A2, c2, l⟩).x (toFr ⟨ty, fl, st, A2, c2, l⟩).y (toFr ⟨ty, fl, st, A2, c2, l⟩).st l).length = 9 + l.length := frB2_length _ _ _ l
        obtain ⟨A4, c4, w4, hap, ho4, hbl4, _⟩ := Own.moreN (P := Try.prog) (w0 := w) Try.underlying22 u8_info 22 ((HO.out.fresh (Fresh.alloc _ _)).fresh hf3) HF3.out (Nat.le_refl _) A3 c3 _ (9 + l.length) (X.length + (9 + l.length)) hL3 rfl ho3.bytes.1 hn3 (by omega)
        have HS4 : Hid (SentR w xs (k + 1) (.slice A4 (X.length + (9 + l.length)) c4) w4) := Lib.hid (by
          have e : rowB ((xs.take (k + 1)).map toFr) = X ++ frB2 (toFr ⟨ty, fl, st, A2, c2, l⟩).x (toFr ⟨ty, fl, st, A2, c2, l⟩).y (toFr ⟨ty, fl, st, A2, c2, l⟩).st l := by rw [HMT.out, rowB_snoc, HX.out]; rfl
          have eL : (rowB ((xs.take (k + 1)).map toFr)).length = X.length + (9 + l.length) := by rw [e, List.length_append, hL3]
          refine ⟨A4, c4, by rw [eL], ?_, hbl4, fun j f hj hx => ?_⟩
          · rw [eL, e]; exact ho4
          · by_cases ej : j = k
            · subst ej; rw [HXK.out] at hx; cases hx; exact HR.out
            · exact HRT.out j f (by omega) hx)
        clear hf3 ho3 hm3 hL3 ho4 hbl4 hn3
        go_wp2_with (at_builtin; with_reducible refine wp_app rfl (.tmp 25) (.tmp 26) _ rfl hap rfl (by simp [Act.eval, Act.put]) (by simp [Act.eval, Act.put]) ?_)
        go_roundw
        case rel => exact ⟨k + 1, by omega, by go_num, HS4.out⟩
        case measure => simp [intOf]; omega
    · obtain rfl : k = xs.length := by omega
      rw [List.take_length] at HO ⊢
      have HALL : Hid (∀ f ∈ xs, rtF f = true) := Lib.hid (fun f hf => by
        obtain ⟨j, hj⟩ := List.getElem?_of_mem hf
        exact HRT.out j f (List.getElem?_eq_some_iff.1 hj).1 hj)
      have HFI := Lib.hid (fun h => HYES.out HALL.out A1 c1 wr HO.out.bytes.1 h)
      have hc1 : (rowB (xs.map toFr)).length ≤ c1 := by
        obtain ⟨A', c', e, h1, _⟩ := HO.out.slice
        cases e; exact h1
      clear HO HRT
      go_wp2_with fail
      refine (HFI.out hc1).mono ?_
      rintro e w5 ⟨v, r, rfl, hq⟩
      have HQ5 := Lib.hid hq
      clear hq
      go_wp2_with fail
      exact HQ.out _ _ _ _ HF.out HQ5.out
end Go.Proofs.Ytpokpkijhakpjaa
