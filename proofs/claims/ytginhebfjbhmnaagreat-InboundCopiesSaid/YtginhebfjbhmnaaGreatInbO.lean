/-
  Layer 23: small frames; what the chunks' first loop keeps.
-/
import Derived.Test.YtginhebfjbhmnaaGreatG42
import Derived.Test.YtginhebfjbhmnaaGreatInbR
import Derived.Test.YtginhebfjbhmnaaGreatFrIn
namespace Go.Proofs.YtginhebfjbhmnaaGreat
set_option maxRecDepth 100000
set_option linter.unusedVariables false
set_option linter.unusedSimpArgs false
open Go.RowKit
def totG (xs : List FrV) : Nat := (xs.map fun x => 10 + x.l.length).sum
theorem totG_snoc (ls : List FrV) (b : FrV) : totG (ls ++ [b]) = totG ls + (10 + b.l.length) := by simp [totG]
theorem totG_append (a b : List FrV) : totG (a ++ b) = totG a + totG b := by simp [totG]
theorem totG_take (ls : List FrV) (k : Nat) (b : FrV) (h : ls[k]? = some b) : totG (ls.take (k + 1)) = totG (ls.take k) + (10 + b.l.length) := by
  obtain ⟨hk, rfl⟩ := List.getElem?_eq_some_iff.1 h
  rw [List.take_succ_eq_append_getElem hk, totG_snoc]
theorem totG_le (ls : List FrV) (k : Nat) : totG (ls.take k) ≤ totG ls := by
  have h := totG_append (ls.take k) (ls.drop k)
  rw [List.take_append_drop] at h
  omega
theorem totG_each {ls : List FrV} (h : totG ls ≤ 600) : ∀ x ∈ ls, x.l.length ≤ 600 := fun x hx => by
  obtain ⟨k, hk⟩ := List.getElem?_of_mem hx
  have h1 := totG_take ls k x hk
  have h2 := totG_le ls (k + 1)
  omega
theorem totG_len (ls : List FrV) : ls.length * 10 ≤ totG ls := by
  induction ls with
  | nil => simp [totG]
  | cons a r ih => simp [totG] at ih ⊢; omega
/-- The frames may be gone through. -/
def SmallG (xs : List FrV) : Prop := totG xs ≤ 600 ∧ ∀ x ∈ xs, frR x.ty x.fl x.st x.l.length = true
def SmallGP (xs : List FrV) (w : World) (e : Ending) (w' : World) : Prop := ∃ b : Bool, e = .returned (.bool b) ∧ (b = true → SmallG xs) ∧ Fresh w w'
set_option maxHeartbeats 6400000 in
theorem small23 (s : FrsV) (w : World) (hs : s.OkW w) : Calls Tryz.prog 8 #[.slice s.A s.xs.length s.c] w (SmallGP s.xs w) := by
  obtain ⟨A, c, xs⟩ := s
  have hle := hs.ok.le
  have hmax := hs.ok.max
  have HROWS := Lib.hid hs.ok.rows
  have HOK := Lib.hid hs.ok.ok
  have HSZ := Lib.hid hs.sz
  simp only [] at hle hmax HROWS HOK HSZ ⊢
  unfold maxLen at hmax
  clear hs
  obtain ⟨m, hm⟩ : ∃ m, xs.length = m := ⟨_, rfl⟩
  have HM := Lib.hid hm
  rw [hm] at hle ⊢
  have HNO : Hid (∀ W, Fresh w W → SmallGP xs w (.returned (.bool false)) W) := Lib.hid (fun W h => ⟨false, rfl, (fun h => by cases h), h⟩)
  have HYES : Hid (∀ W, SmallG xs → Fresh w W → SmallGP xs w (.returned (.bool true)) W) := Lib.hid (fun W h1 h => ⟨true, rfl, fun _ => h1, h⟩)
  clear hm
  generalize SmallGP xs w = PP at *
  go_enter Tryz.func8, Tryz.ntmps8
  go_wp2
  go_loopw [3, 8] (fun t i wr => ∃ (k T : Nat), k ≤ m ∧ i = .int .i64 (k : Int) ∧ t = .int .i64 (T : Int) ∧ totG (xs.take k) = T ∧ T ≤ 600 ∧ (∀ x ∈ xs.take k, frR x.ty x.fl x.st x.l.length = true) ∧ Fresh w wr) (fun _ i _ => m - (intOf i).toNat)
  case atStart => exact ⟨0, 0, by omega, rfl, rfl, by simp [totG], by omega, by simp, Fresh.refl _⟩
  case round =>
    obtain ⟨k, T, hk, rfl, rfl, hT, hT6, hall, hfr⟩ := hrel
    have HT := Lib.hid hT
    have HALL := Lib.hid hall
    have HF := Lib.hid hfr
    clear hT hall hfr
    by_cases hlt : k < m
    · have hlt' : (k : Int) < (m : Int) := by omega
      obtain ⟨z, hz⟩ : ∃ z, xs[k]? = some z := ⟨_, List.getElem?_eq_getElem (by rw [HM.out]; exact hlt)⟩
      obtain ⟨b, o, rfl, hbw, k0, k1, k2, k3⟩ := HROWS.out.at_ k z hz
      simp only [FrV.cells, List.getElem?_cons_zero, List.getElem?_cons_succ] at k0 k1 k2 k3
      have j0 := (HF.out.cell (p := ⟨b, o + k * 4, none⟩) hbw).trans k0
      have j1 := (HF.out.cell (p := ⟨b, o + k * 4 + 1, none⟩) hbw).trans k1
      have j2 := (HF.out.cell (p := ⟨b, o + k * 4 + 2, none⟩) hbw).trans k2
      have j3 := (HF.out.cell (p := ⟨b, o + k * 4 + 3, none⟩) hbw).trans k3
      have hzs := HSZ.out z (List.mem_of_getElem? hz)
      have htt := totG_take xs k z hz
      have HZ : Hid (xs[k]? = some z) := Lib.hid hz
      obtain ⟨ty, fl, st, ZA, zc, zl⟩ := z
      simp only at j0 j1 j2 j3 hzs htt
      obtain ⟨n, hn⟩ : ∃ n, zl.length = n := ⟨_, rfl⟩
      have HN := Lib.hid hn
      have HFRI := Lib.hid (fun W => fright ty fl st ZA n zc W)
      rw [hn] at j3 hzs htt
      rw [HT.out] at htt
      have HTT := Lib.hid htt
      clear hz k0 k1 k2 k3 hn htt
      go_upto_region 5 with (first | (refine wp_storeB (ds := #[.int .i64 ty, .int .i64 fl, .int .i64 st, .slice ZA n zc]) rfl (.tmp 5) (.tmp 11) _ rfl rfl rfl (Blk.new _ _ _) (by kernel_rfl) rfl (by simp [Value.oneCell']) ?_) | fail)
      intro W2 hb2 ho2
      have hf2 : Fresh wr W2 := Only.fresh ((Only.of_fresh (Fresh.alloc _ _)).trans ho2) (fun i hi e => by omega)
      have HB2 := Lib.hid hb2
      have HF2 := Lib.hid (HF.out.trans hf2)
      obtain ⟨b5, hb5⟩ : ∃ b, wr.heap.size = b := ⟨_, rfl⟩
      rw [hb5] at HB2 ⊢
      clear hb2 ho2 hf2 hb5 j0 j1 j2 j3 hbw
      obtain ⟨c0, c1, c2, c3⟩ := HB2.out.c4
      by_cases h6 : T + (10 + n) ≤ 600
      · have d6 : ¬ (600 : Int) < (T : Int) + (10 + (n : Int)) := by omega
        go_wp2_with fail
        with_reducible refine (HFRI.out _).mono ?_
        rintro e W3 ⟨rfl, hf3⟩
        have HF3 := Lib.hid (HF2.out.trans hf3)
        clear hf3
        cases hR : frR ty fl st n with
        | true =>
          go_wp2_with fail
          go_roundw
          case rel => exact ⟨k + 1, T + (10 + n), by omega, by go_num, by go_num, HTT.out, by omega, fun x hx => (by
            obtain ⟨hk', he⟩ := List.getElem?_eq_some_iff.1 HZ.out
            rw [List.take_succ_eq_append_getElem hk', he] at hx
            rcases List.mem_append.1 hx with hx | hx
            · exact HALL.out x hx
            · rw [List.mem_singleton] at hx
              subst hx
              simp only
              rw [HN.out]
              exact hR), HF3.out⟩
          case measure => simp [intOf]; omega
        | false =>
          go_wp2
          exact HNO.out _ HF3.out
      · have d6 : (600 : Int) < (T : Int) + (10 + (n : Int)) := by omega
        go_wp2
        exact HNO.out _ HF2.out
    · have hkm : k = m := by omega
      subst hkm
      go_wp2
      refine HYES.out _ ⟨?_, ?_⟩ HF.out
      · have := HT.out
        rw [List.take_of_length_le (by rw [HM.out]; exact Nat.le_refl _)] at this
        omega
      · have := HALL.out
        rwa [List.take_of_length_le (by rw [HM.out]; exact Nat.le_refl _)] at this
/-- A frame as it lies, as the wire has it. -/
def frOf (x : FrV) : Fr := ⟨UInt8.ofNat x.ty.toNat, UInt8.ofNat x.fl.toNat, x.st.toNat, x.l⟩
theorem frOf_ok {x : FrV} (h : frR x.ty x.fl x.st x.l.length = true) : x.ty = ((frOf x).x.toNat : Int) ∧ x.fl = ((frOf x).y.toNat : Int) ∧ x.st = ((frOf x).st : Int) ∧ (frOf x).st ≤ 2147483647 ∧ (frOf x).pl = x.l := by
  simp only [frR, decide_eq_true_eq] at h
  obtain ⟨h1, h2, h3, h4, h5, h6, h7⟩ := h
  have e : ∀ z : Int, 0 ≤ z → z ≤ 255 → z = ((UInt8.ofNat z.toNat).toNat : Int) := fun z a b => by
    rw [UInt8.toNat_ofNat']
    omega
  exact ⟨e _ h1 h2, e _ h3 h4, by simp only [frOf]; omega, by simp only [frOf]; omega, rfl⟩
/-- A frame's bytes. -/
theorem fb_of {x : FrV} {n : Nat} (hn : x.l.length = n) (h : frR x.ty x.fl x.st x.l.length = true) (hl : n ≤ 600) (w : World) (hx : x.Ok w) :
    Calls Tryz.prog 10 #[.agg #[.int .i64 x.ty, .int .i64 x.fl, .int .i64 x.st, .slice x.A n x.c]] w (BytesN (frB2 (frOf x).x (frOf x).y (frOf x).st (frOf x).pl) (9 + n) w) := by
  obtain ⟨e1, e2, e3, e4, e5⟩ := frOf_ok h
  have hle := hx.le
  exact fbytes_at x.ty x.fl x.st (frOf x).x (frOf x).y (frOf x).st x.A n (9 + n) x.c (frOf x).pl _ w e1 e2 e3 (by rw [e5]; exact hn) rfl (by rw [frB2_length, e5, hn]) e4 (by omega) (by rw [e5]; exact hx.bs) (by omega)
/-- Feed of one whole frame to a reader that waits for none. -/
theorem feed_one {f : Fr} (hst : f.st ≤ 2147483647) (hl : f.pl.length ≤ 600) (s : Option Part) (bg : Bool) : feedQ [] s bg (frB2 f.x f.y f.st f.pl) = (if (readP s bg f.x.toNat f.y.toNat f.st f.pl).1 = 0 then ((if (readP s bg f.x.toNat f.y.toNat f.st f.pl).2.2.k ≠ 0 then [(readP s bg f.x.toNat f.y.toNat f.st f.pl).2.2] else []), 0, some ([], (readP s bg f.x.toNat f.y.toNat f.st f.pl).2.1, true)) else ([], (readP s bg f.x.toNat f.y.toNat f.st f.pl).1, none)) := by
  rw [feedQ_one f hst (by omega), feedR_one f s bg _ rfl]
end Go.Proofs.YtginhebfjbhmnaaGreat

