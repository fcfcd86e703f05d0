/-
  Package decode: block.
-/
import Derived.Test.YtginhebfjbhmnaaGreatG33
namespace Go.Proofs.YtginhebfjbhmnaaGreat
set_option maxRecDepth 100000
set_option maxRecDepth 100000
set_option linter.unusedVariables false
set_option linter.unusedSimpArgs false
open Go.RowKit
def lenD (v : Value) : Nat := match v with
  | .slice _ n _ => n
  | _ => 0
/-- A decoder and its lines, in a block. -/
structure BkAt (w wr : World) (base d p : Nat) (v v' ov : Value) (fs : List FldT) (lim most bound : Int) (dead : Bool) (out : List LnD) : Prop where
  dec : DecAt wr base d p v' fs lim most bound dead
  own : Own wr w.heap.size 64 3 ov out.length (rowL out)
  only : DecOnly d p v w wr
  grow : ∀ k, v'.ownBlock = some k → v.ownBlock = some k ∨ w.heap.size ≤ k
  sep : ∀ k, v'.ownBlock = some k → ov.ownBlock ≠ some k
  hd : d < w.heap.size
  hp : p < w.heap.size
  dp : d ≠ p
  dv : ∀ k, v'.ownBlock = some k → k ≠ d
section
variable {w wr W : World} {base d p : Nat} {v v' ov : Value} {fs : List FldT} {lim most bound : Int} {dead : Bool} {out : List LnD}
theorem BkAt.fresh (h : BkAt w wr base d p v v' ov fs lim most bound dead out) (hf : Fresh wr W) : BkAt w W base d p v v' ov fs lim most bound dead out :=
  { h with dec := h.dec.fresh hf, own := h.own.fresh hf, only := Only.trans h.only (Only.of_fresh hf) }
theorem BkAt.tab (h : BkAt w wr base d p v v' ov fs lim most bound dead out) {v2 : Value} {gs : List FldT} {lm : Int} (h2 : DecAt W base d p v2 gs lm most bound dead) (hv : ∀ k, v2.ownBlock = some k → v'.ownBlock = some k ∨ wr.heap.size ≤ k) (ho : DecOnly d p v' wr W) : BkAt w W base d p v v2 ov gs lm most bound dead out := by
  have hsz : w.heap.size ≤ wr.heap.size := h.only.size
  have hlt : ∀ k, ov.ownBlock = some k → w.heap.size ≤ k ∧ k < wr.heap.size := fun k hk => ⟨(h.own.lt k hk).1, (h.own.lt k hk).2⟩
  refine ⟨h2, h.own.only ho ?_, Only.trans' h.only ho ?_, ?_, ?_, h.hd, h.hp, h.dp, ?_⟩
  · rintro k hk (e | e)
    · have := hlt k hk; have := h.hp; omega
    · exact h.sep k e hk
  · rintro k hk (e | e)
    · exact .inl e
    · rcases h.grow k e with e | e
      · exact .inr e
      · omega
  · intro k hk
    rcases hv k hk with e | e
    · exact h.grow k e
    · exact .inr (by omega)
  · intro k hk e2
    rcases hv k hk with e | e
    · exact h.sep k e e2
    · have := hlt k e2; omega
  · intro k hk
    rcases hv k hk with e | e
    · exact h.dv k e
    · have := h.hd; omega
theorem BkAt.push (h : BkAt w wr base d p v v' ov fs lim most bound dead out) {A' : Option Addr} {c' : Nat} {x : LnD} (h2 : Own W w.heap.size 64 3 (.slice A' (out.length + 1) c') (out ++ [x]).length (rowL (out ++ [x]))) (ho : Only (fun k => ov.ownBlock = some k) wr W) (hv : ∀ k, (Value.slice A' (out.length + 1) c').ownBlock = some k → ov.ownBlock = some k ∨ wr.heap.size < k) : BkAt w W base d p v v' (.slice A' (out.length + 1) c') fs lim most bound dead (out ++ [x]) := by
  have hsz : w.heap.size ≤ wr.heap.size := h.only.size
  have hlt : ∀ k, ov.ownBlock = some k → w.heap.size ≤ k := fun k hk => (h.own.lt k hk).1
  refine ⟨h.dec.only ho ?_ ?_ ?_, h2, Only.trans' h.only ho ?_, h.grow, ?_, h.hd, h.hp, h.dp, h.dv⟩
  · intro e; have := hlt _ e; have := h.hd; omega
  · intro e; have := hlt _ e; have := h.hp; omega
  · intro k hk e; exact h.sep k hk e
  · intro k hk e; have := hlt _ e; omega
  · intro k hk e
    rcases hv k e with e | e
    · exact h.sep k hk e
    · have := (h.dec.tab.ne k hk).2; omega
end
/-- What block does. -/
def BlockP (w : World) (base d p : Nat) (v : Value) (most bound : Int) (dead : Bool) (R : Nat × List LnD × List FldT × Int) (e : Ending) (W : World) : Prop :=
  (∃ v' A' c', R.1 = 0 ∧ e = .returned (.tuple #[.slice A' R.2.1.length c', .int .i64 0]) ∧ BkAt w W base d p v v' (.slice A' R.2.1.length c') R.2.2.1 R.2.2.2 most bound dead R.2.1) ∨
  (∃ v' ov out, R.1 ≠ 0 ∧ e = .returned (.tuple #[.slice none 0 0, .int .i64 (R.1 : Int)]) ∧ BkAt w W base d p v v' ov R.2.2.1 R.2.2.2 most bound dead out)
def NotIn (p : Nat) (v : Value) (A : Option Addr) (l : List UInt8) : Prop := 0 < l.length → ∀ b o, A = some ⟨b, o, none⟩ → ¬ (b = p ∨ v.ownBlock = some b)
theorem NotIn.cut {p : Nat} {v : Value} {A : Option Addr} {l : List UInt8} {w : World} (h : NotIn p v A l) (hb : BS w A l) (u c : Nat) (hc : l.length ≤ c) : NotIn p v (cutA A u c) (l.drop u) := fun hn b o e => by
  rw [List.length_drop] at hn
  obtain ⟨b', o', rfl, _, _⟩ := hb (by omega)
  rw [cutA_some _ _ _ _ (by omega)] at e
  injection e with e
  injection e with e1 e2
  subst e1
  exact h (by omega) _ _ rfl
theorem BS.only3 {w w' : World} {S : Nat → Prop} {A : Option Addr} {l : List UInt8} (h : BS w A l) (hf : Only S w w') (hs : 0 < l.length → ∀ b o, A = some ⟨b, o, none⟩ → ¬ S b) : BS w' A l := fun hn => by
  obtain ⟨b, o, e, hb, hc⟩ := h hn
  exact ⟨b, o, e, by have := hf.size; omega, fun j hj => (hf.cell (p := ⟨b, _, none⟩) hb (hs hn b o e)).trans (hc j hj)⟩
theorem bk_push {ol sz : Nat} {bound : Int} (h1 : ol * 32 ≤ sz) (h2 : (sz : Int) ≤ bound) (h3 : bound ≤ 16384) : (ol + 1) * 40 ≤ 140737488355328 := by omega
theorem bk_rest {a l2 us c2 n : Nat} (h : a = l2 - us) (h1 : l2 < n) (h2 : l2 ≤ c2) (h3 : c2 ≤ maxLen) (h4 : l2 ≤ 100000000) (h5 : us ≤ l2) : a < n ∧ a ≤ c2 - us ∧ c2 - us ≤ maxLen ∧ a ≤ 100000000 := ⟨by omega, by omega, by omega, by omega⟩
theorem bk_size {ol sz z : Nat} {bound : Int} (h1 : ol * 32 ≤ sz) (h2 : 32 ≤ z) (h3 : ¬ bound < (sz : Int) + (z : Int)) : (ol + 1) * 32 ≤ sz + z ∧ ((sz + z : Nat) : Int) ≤ bound ∧ ((sz + z : Nat) : Int) = (sz : Int) + (z : Int) := ⟨by omega, by omega, by omega⟩
theorem tz_gone_nat (gs : List FldT) (N : Nat) : (tz (gs.drop (goneN gs N)) : Int) ≤ (N : Int) := tz_goneD gs N (by omega)
theorem blockR_fuel (most bound : Int) : ∀ (a : Nat) (m : Nat) (fs : List FldT) (lim : Int) (size : Nat) (out : List LnD) (l : List UInt8), l.length ≤ a → l.length ≤ m → blockR most bound a fs lim size out l = blockR most bound m fs lim size out l
  | _, m, fs, lim, size, out, [], _, _ => by rw [blockR_nil, blockR_nil]
  | 0, m, fs, lim, size, out, c :: r, h, _ => by simp at h
  | a + 1, 0, fs, lim, size, out, c :: r, _, h => by simp at h
  | a + 1, m + 1, fs, lim, size, out, c :: r, h1, h2 => by
    rcases decL_casesB (bitsR c.toNat) (by have := bitsR_bd c.toNat; omega) (c :: r) with he | he | ⟨N, u, he, hu1, hu2, _⟩
    · rw [blockR_num (e := 22) he (by omega), blockR_num (e := 22) he (by omega)]
    · rw [blockR_num (e := 16) he (by omega), blockR_num (e := 16) he (by omega)]
    · simp only [List.length_cons] at h1 h2 hu2
      have hdl : ((c :: r).drop u).length ≤ r.length := by rw [List.length_drop, List.length_cons]; omega
      by_cases hk : kindR c.toNat = 2
      · by_cases hno : 0 < out.length ∨ most < (N : Int)
        · rw [blockR_lim_no he hk hno, blockR_lim_no he hk hno]
        · rw [blockR_lim he hk hno, blockR_lim he hk hno]
          exact blockR_fuel most bound a m _ _ _ _ _ (by omega) (by omega)
      · rw [blockR_line he _ rfl hk _ rfl, blockR_line he _ rfl hk _ rfl]
        split
        · rfl
        split
        · rfl
        · exact blockR_fuel most bound a m _ _ _ _ _ (by rw [List.length_drop]; omega) (by rw [List.length_drop]; omega)
theorem tz_fsL (fs : List FldT) (lim : Int) (k n : Nat) (l : List UInt8) (h0 : 0 ≤ lim) (h : (tz fs : Int) ≤ lim) : (tz (fsL fs lim k n l) : Int) ≤ lim := by
  unfold fsL
  split
  · exact tz_addD _ _ _ h0
  · exact h
set_option maxHeartbeats 12800000 in
theorem de_block (base d p : Nat) (v : Value) (fs : List FldT) (lim most bound : Int) (dead : Bool) (A : Option Addr) (c : Nat) (l : List UInt8) (w : World) (h : DecAt w base d p v fs lim most bound dead) (hbase : base ≤ w.heap.size) (h0 : 0 ≤ lim) (h1 : lim ≤ most) (hmx : most ≤ 65536) (htz : (tz fs : Int) ≤ lim) (hdp : d ≠ p) (hdv : ∀ k, v.ownBlock = some k → k ≠ d) (hb0 : 0 ≤ bound) (hb1 : bound ≤ 16384) (hl : l.length ≤ 100000000) (hlc : l.length ≤ c) (hcm : c ≤ maxLen) (hB : BS w A l) (hNI : NotIn p v A l) :
    Calls Tryz.prog 74 #[.pointer (some ⟨d, 0, none⟩), .slice A l.length c] w (BlockP w base d p v most bound dead (blockR most bound l.length fs lim 0 [] l)) := by
  have HBASE := Lib.hid hbase
  have HMX := Lib.hid hmx
  have HYES : Hid (∀ (W : World) (v' : Value) (A' : Option Addr) (c' : Nat) (out : List LnD) (gs : List FldT) (lm : Int), blockR most bound l.length fs lim 0 [] l = (0, out, gs, lm) → BkAt w W base d p v v' (.slice A' out.length c') gs lm most bound dead out → BlockP w base d p v most bound dead (blockR most bound l.length fs lim 0 [] l) (.returned (.tuple #[.slice A' out.length c', .int .i64 0])) W) := Lib.hid (fun W v' A' c' out gs lm hr hk => by
    rw [hr]
    exact .inl ⟨v', A', c', rfl, rfl, hk⟩)
  have HNO : Hid (∀ (W : World) (v' ov : Value) (er : Nat) (o2 out : List LnD) (gs : List FldT) (lm : Int), er ≠ 0 → blockR most bound l.length fs lim 0 [] l = (er, o2, gs, lm) → BkAt w W base d p v v' ov gs lm most bound dead out → BlockP w base d p v most bound dead (blockR most bound l.length fs lim 0 [] l) (.returned (.tuple #[.slice none 0 0, .int .i64 (er : Int)])) W) := Lib.hid (fun W v' ov er o2 out gs lm h0 hr hk => by
    rw [hr]
    exact .inr ⟨v', ov, out, h0, rfl, hk⟩)
  have HST : Hid (BkAt w w base d p v v (.slice none 0 0) fs lim most bound dead []) := Lib.hid ⟨h, Own.nil _ _ _ _, Only.of_fresh (Fresh.refl _), fun k hk => .inl hk, fun k hk e => (by cases e), h.blk.lt, h.tab.blk.lt, hdp, hdv⟩
  have HBS := Lib.hid hB
  have HNI := Lib.hid hNI
  obtain ⟨FR, hFR⟩ : ∃ FR, blockR most bound l.length fs lim 0 [] l = FR := ⟨_, rfl⟩
  have HFR := Lib.hid hFR
  rw [hFR] at HYES HNO ⊢
  generalize BlockP w base d p v most bound dead FR = BP at *
  have HL := Lib.hid hl
  have HLC := Lib.hid hlc
  have HCM := Lib.hid hcm
  have HLIM := Lib.hid (show 0 ≤ lim ∧ lim ≤ most ∧ (tz fs : Int) ≤ lim from ⟨h0, h1, htz⟩)
  clear h hB hNI hFR hl hlc hcm h0 h1 htz hbase hdv hmx
  go_enter Tryz.func74, Tryz.ntmps74
  go_wp2
  go_loopw [1, 6, 7] (fun bx ox sx wr => ∃ (A' : Option Addr) (r : List UInt8) (c' : Nat) (O' : Option Addr) (out : List LnD) (oc : Nat) (sz : Nat) (gs : List FldT) (lm : Int) (v' : Value), bx = .slice A' r.length c' ∧ ox = .slice O' out.length oc ∧ sx = .int .i64 (sz : Int) ∧ r.length ≤ 100000000 ∧ r.length ≤ c' ∧ c' ≤ maxLen ∧ BS w A' r ∧ NotIn p v A' r ∧ (sz : Int) ≤ bound ∧ out.length * 32 ≤ sz ∧ 0 ≤ lm ∧ lm ≤ most ∧ (tz gs : Int) ≤ lm ∧ FR = blockR most bound r.length gs lm sz out r ∧ BkAt w wr base d p v v' (.slice O' out.length oc) gs lm most bound dead out) (fun bx _ _ _ => lenD bx)
  case atStart => exact ⟨A, l, c, none, [], 0, 0, fs, lim, v, rfl, rfl, rfl, HL.out, HLC.out, HCM.out, HBS.out, HNI.out, hb0, by simp, HLIM.out.1, HLIM.out.2.1, HLIM.out.2.2, HFR.out.symm, HST.out⟩
  case round =>
    obtain ⟨A', r, c', O', out, oc, sz, gs, lm, v', rfl, rfl, rfl, hr1, hr2, hr3, hbs, hni, hsb, hos, hl0, hl1, hl2', hfr, hbk⟩ := hrel
    have HFQ := Lib.hid hfr
    have HBK := Lib.hid hbk
    have HBR := Lib.hid (hbs.only3 hbk.only hni)
    have HBW := Lib.hid hbs
    have HNI := Lib.hid hni
    clear hfr hbk hbs hni
    cases r with
    | nil =>
      simp only [List.length_nil] at hr1 hr2 ⊢
      have h00 : (([] : List UInt8).length : Int) = 0 := rfl
      have HF2 := HFQ.out
      rw [blockR_nil] at HF2
      have HFIN := Lib.hid (HYES.out _ v' O' oc out gs lm HF2 HBK.out)
      clear HF2
      go_wp2
      exact HFIN.out
    | cons x r =>
      obtain ⟨b, o, rfl, hbl, hcs⟩ := HBR.out.addr (by simp)
      have e0 := hcs 0 (by simp)
      simp only [List.getElem_cons_zero, Nat.add_zero] at e0
      obtain ⟨n, hn⟩ : ∃ n, (x :: r).length = n := ⟨_, rfl⟩
      have HN := Lib.hid hn
      have hnp : 0 < n := by rw [← hn]; simp
      have hgt : (0 : Int) < (n : Int) := by omega
      have h00 : (0 : Int) ≤ 0 := Int.le_refl _
      have hbd := bitsR_bd x.toNat
      have HW := Lib.hid (fun W => de_which x W)
      have HPX := Lib.hid (fun W (hf : Fresh wr W) => dec_any (some ⟨b, o, none⟩) c' (bitsR x.toNat) (x :: r) W (by omega) (by omega) (by omega) (HBR.out.fresh hf))
      have HCT : Hid (∀ u : Nat, u ≤ n → ∀ W, (Instr.slice 28 (.slice (some ⟨b, o, none⟩) n c') (some (.int .i64 (u : Int))) none none).run Tryz.prog W = .ok (.slice (cutA (some ⟨b, o, none⟩) u c') (n - u) (c' - u)) W) := Lib.hid (fun u hu => run_cut_from (P := Tryz.prog) Tryz.underlying28 u8_sizeL (some ⟨b, o, none⟩) n c' u hu)
      rw [hn] at hr1 hr2 HPX ⊢
      clear hcs hn
      have hdc := decL_casesB (bitsR x.toNat) (by omega) (x :: r)
      have hnum : ∀ e : Nat, e ≠ 0 → decL (x :: r) (bitsR x.toNat) = (0, 0, (e : Int)) → ∀ W, Fresh wr W → BP (.returned (.tuple #[.slice none 0 0, .int .i64 (e : Int)])) W := fun e he hd W hf => HNO.out W v' _ e [] out gs lm he (by
        have := HFQ.out
        rw [List.length_cons, blockR_num hd he] at this
        exact this) (HBK.out.fresh hf)
      have HNUM := Lib.hid hnum
      clear hnum
      have hxb := UInt8.toNat_lt x
      unfold byteV at e0
      by_cases hde : ∃ N u : Nat, decL (x :: r) (bitsR x.toNat) = ((N : Int), (u : Int), 0) ∧ 1 ≤ u ∧ u ≤ (x :: r).length ∧ N ≤ 2147483647
      · obtain ⟨N, u, hd, hu1, hu2, hN⟩ := hde
        rw [HN.out] at hu2
        rw [hd] at HPX
        unfold decV at HPX
        simp only at HPX
        obtain ⟨l2, hl2⟩ : ∃ l2, (x :: r).drop u = l2 := ⟨_, rfl⟩
        have hlen2 : l2.length = n - u := by rw [← hl2, List.length_drop, HN.out]
        have hcu := HCT.out u hu2
        have HB2W : Hid (BS w (cutA (some ⟨b, o, none⟩) u c') l2) := Lib.hid (by rw [← hl2]; exact HBW.out.cut u c' (by rw [HN.out]; exact hr2))
        have HNI2 : Hid (NotIn p v (cutA (some ⟨b, o, none⟩) u c') l2) := Lib.hid (by rw [← hl2]; exact HNI.out.cut HBW.out u c' (by rw [HN.out]; exact hr2))
        have hc2a : l2.length ≤ c' - u := by omega
        have hc2b : c' - u ≤ maxLen := by omega
        have hln2 : l2.length ≤ 100000000 := by omega
        rw [← hlen2] at hcu
        generalize cutA (some ⟨b, o, none⟩) u c' = A2 at *
        generalize c' - u = c2 at *
        have HLT : Hid (l2.length < n) := Lib.hid (by omega)
        obtain ⟨kd, hkd⟩ : ∃ kd, kindR x.toNat = kd := ⟨_, rfl⟩
        rw [hkd] at HW
        clear HCT HNUM hdc hlen2
        by_cases hk2 : kd = 2
        · rw [hk2] at hkd HW
          rw [show ((2 : Nat) : Int) = 2 from rfl] at HW
          by_cases hno : 0 < out.length ∨ most < (N : Int)
          · have HRZ := Lib.hid (fun W (hf : Fresh wr W) => de_resize_no d N out.length _ most W (HBK.out.dec.blk.fresh hf) rfl hno.symm.symm)
            have hf2 := HFQ.out
            rw [List.length_cons, blockR_lim_no hd hkd hno] at hf2
            have HFIN := Lib.hid (fun W (hf : Fresh wr W) => HNO.out W v' _ 24 [] out gs lm (by omega) hf2 (HBK.out.fresh hf))
            rw [show ((24 : Nat) : Int) = 24 from rfl] at HFIN
            clear hf2 hd hkd hno hl2
            generalize bitsR x.toNat = bt at *
            generalize x.toNat = xn at *
            go_wp2_with fail
            with_reducible refine (HW.out _).mono ?_
            rintro e5 w5 ⟨rfl, rfl⟩
            go_wp2_with fail
            with_reducible refine (HPX.out _ (Fresh.refl _)).mono ?_
            rintro e5 w5 ⟨rfl, hf5⟩
            have HF5 := Lib.hid hf5
            clear hf5
            go_wp2_with fail
            with_reducible refine (HRZ.out _ HF5.out).mono ?_
            rintro e6 w6 ⟨rfl, hf6⟩
            have HFIN2 := Lib.hid (HFIN.out _ (HF5.out.trans hf6))
            clear hf6
            go_wp2
            exact HFIN2.out
          · have hol : out.length = 0 := by omega
            have hNm : (N : Int) ≤ most := by omega
            have htz : tz gs ≤ 4503599627370496 := by have := HMX.out; omega
            have HRZ : Hid (∀ W, Fresh wr W → Calls Tryz.prog 81 #[.pointer (some ⟨d, 0, none⟩), .int .i64 (N : Int), .int .i64 (out.length : Int)] W fun e w' => e = .returned (.int .i64 0) ∧ ∃ v2, DecAt w' base d p v2 (gs.drop (goneN gs N)) N most bound dead ∧ v2.ownBlock = v'.ownBlock ∧ Only (fun k => k = p ∨ v'.ownBlock = some k) W w') := Lib.hid (fun W hf => by
              rw [hol]
              exact de_resize base d p v' gs lm most bound dead N W (HBK.out.dec.fresh hf) htz hNm HMX.out hdp HBK.out.dv)
            have hf2 := HFQ.out
            rw [List.length_cons, blockR_lim hd hkd hno, hl2] at hf2
            have hrl : r.length = l2.length + (u - 1) := by
              have h1 := congrArg List.length hl2
              have h2 := HN.out
              simp at h1 h2
              omega
            have HGO : Hid (FR = blockR most bound l2.length (gs.drop (goneN gs N)) N sz out l2) := Lib.hid (by rw [hf2]; exact blockR_fuel _ _ r.length l2.length _ _ _ _ _ (by omega) (Nat.le_refl _))
            have HZ : Hid ((tz (gs.drop (goneN gs N)) : Int) ≤ (N : Int)) := Lib.hid (tz_gone_nat gs N)
            clear hf2 hd hkd hno hl2 hol hrl htz
            generalize bitsR x.toNat = bt at *
            generalize x.toNat = xn at *
            go_wp2_with fail
            with_reducible refine (HW.out _).mono ?_
            rintro e5 w5 ⟨rfl, rfl⟩
            go_wp2_with fail
            with_reducible refine (HPX.out _ (Fresh.refl _)).mono ?_
            rintro e5 w5 ⟨rfl, hf5⟩
            have HF5 := Lib.hid hf5
            clear hf5
            go_wp2_with fail
            with_reducible refine (HRZ.out _ HF5.out).mono ?_
            rintro e6 w6 ⟨rfl, v2, hd2, hv2, ho2⟩
            have HK2 := Lib.hid ((HBK.out.fresh HF5.out).tab hd2 (fun k hk => .inl (by rw [← hv2]; exact hk)) ho2)
            clear hd2 hv2 ho2
            go_wp2
            exact ⟨⟨A2, l2, c2, O', out, oc, sz, gs.drop (goneN gs N), N, v2, rfl, rfl, rfl, hln2, hc2a, hc2b, HB2W.out, HNI2.out, hsb, hos, by omega, hNm, HZ.out, HGO.out, HK2.out⟩, by simp only [lenD]; exact HLT.out⟩
        · have hf2 := HFQ.out
          rw [List.length_cons, blockR_line hd kd hkd hk2 l2 hl2] at hf2
          have hrl : r.length = l2.length + (u - 1) := by
            have h1 := congrArg List.length hl2
            have h2 := HN.out
            simp at h1 h2
            omega
          have hus := lineR_used gs kd N l2
          have htz5 : tz gs ≤ 65536 := by have := HMX.out; omega
          have hfz := lineR_fz gs kd N l2 htz5
          have hzG := tz_fsL gs lm kd N l2 hl0 hl2'
          have HLN : Hid (∀ W, Fresh wr W → Calls Tryz.prog 82 #[.pointer (some ⟨d, 0, none⟩), .int .i64 (kd : Int), .int .i64 (N : Int), .slice A2 l2.length c2] W (LineP W base d p v' gs lm most bound dead kd N l2)) := Lib.hid (fun W hf => de_line base d p v' gs lm most bound dead kd N A2 c2 l2 W (HBK.out.dec.fresh hf) hk2 (by omega) (by have := HBASE.out; have := HBK.out.only.size; have := hf.size; omega) hl0 (by have := HMX.out; omega) (by have := tz_lenD gs; omega) hdp HBK.out.dv hN hln2 hc2a hc2b (HB2W.out.only3 ((HBK.out.fresh hf).only) HNI2.out))
          have HCU2 := Lib.hid (fun (us : Nat) (hu : us ≤ l2.length) => run_cut_from (P := Tryz.prog) Tryz.underlying28 u8_sizeL A2 l2.length c2 us hu)
          unfold LineP at HLN
          generalize fsL gs lm kd N l2 = G at *
          obtain ⟨R, hR⟩ : ∃ R, lineR gs kd N l2 = R := ⟨_, rfl⟩
          rw [hR] at hf2 hus hfz HLN
          obtain ⟨er, f, us⟩ := R
          unfold lineE at HLN
          simp only at hf2 hus hfz HLN
          have HFQ2 := Lib.hid hf2
          clear hf2 hR hd hkd hl2
          by_cases her : er ≠ 0
          · have hf3 := HFQ2.out
            rw [if_pos her] at hf3
            have HFIN := Lib.hid (fun W (v2 : Value) h => HNO.out W v2 (.slice O' out.length oc) er [] out G lm her hf3 h)
            have h0d : ((er : Int) != 0) = true := by simp; omega
            have h0i : ¬ (er : Int) = 0 := by omega
            have k2i : ¬ (kd : Int) = 2 := by omega
            generalize decide (kd = 3 ∧ er = 0) = nv at *
            clear hf3 HFQ2 HCU2
            generalize bitsR x.toNat = bt at *
            generalize x.toNat = xn at *
            go_wp2_with fail
            with_reducible refine (HW.out _).mono ?_
            rintro e5 w5 ⟨rfl, rfl⟩
            go_wp2_with fail
            with_reducible refine (HPX.out _ (Fresh.refl _)).mono ?_
            rintro e5 w5 ⟨rfl, hf5⟩
            have HF5 := Lib.hid hf5
            clear hf5
            go_wp2_with fail
            with_reducible refine (HLN.out _ HF5.out).mono ?_
            rintro e6 w6 ⟨rfl, v2, hd2, hv2, ho2⟩
            have HFIN2 := Lib.hid (HFIN.out _ v2 ((((HBK.out.fresh HF5.out).tab hd2 hv2 ho2)).fresh (Fresh.alloc w6 (.cells #[.string f.1, .string f.2, .bool nv] 64))))
            clear hd2 hv2 ho2
            go_wp2
            exact HFIN2.out
          · have her0 : er = 0 := by omega
            subst her0
            have hnv : decide (kd = 3 ∧ 0 = 0) = decide (kd = 3) := by simp
            rw [hnv] at HLN
            have hf3 := HFQ2.out
            rw [if_neg her] at hf3
            have HFQ3 := Lib.hid hf3
            clear hf3 HFQ2 her hnv
            generalize decide (kd = 3) = nv at *
            have k2i : ¬ (kd : Int) = 2 := by omega
            have hct2 := HCU2.out us hus
            have hwz : IntKind.i64.wrap ((sz : Int) + (fz f : Int)) = (sz : Int) + (fz f : Int) := IntWalk.i64_in _ (by omega)
            have hwz64 : wrap64 ((sz : Int) + (fz f : Int)) = (sz : Int) + (fz f : Int) := (wrap_eq64 _).symm.trans hwz
            have HSZ := Lib.hid (fun W => dy_size f W (by omega))
            have hf1s : 32 ≤ fz f := by unfold fz; omega
            rw [show ((0 : Nat) : Int) = 0 from rfl] at HLN
            generalize bitsR x.toNat = bt at *
            generalize x.toNat = xn at *
            go_wp2_with fail
            with_reducible refine (HW.out _).mono ?_
            rintro e5 w5 ⟨rfl, rfl⟩
            go_wp2_with fail
            with_reducible refine (HPX.out _ (Fresh.refl _)).mono ?_
            rintro e5 w5 ⟨rfl, hf5⟩
            have HF5 := Lib.hid hf5
            clear hf5
            go_wp2_with fail
            with_reducible refine (HLN.out _ HF5.out).mono ?_
            rintro e6 w6 ⟨rfl, v2, hd2, hv2, ho2⟩
            have HK2 := Lib.hid ((HBK.out.fresh HF5.out).tab hd2 hv2 ho2)
            clear hd2 hv2 ho2
            go_upto_region 14 with fail
            refine wp_gen (fun W => BkAt w W base d p v v2 (.slice O' out.length oc) G lm most bound dead out ∧ Blk W w6.heap.size 64 #[.string f.1, .string f.2, .bool nv]) ⟨HK2.out.fresh (Fresh.alloc _ _), Blk.new w6 _ _⟩ ?_
            rintro W1 ⟨hk3, hb3⟩
            have HK3 := Lib.hid hk3
            have HB3 := Lib.hid hb3
            obtain ⟨y0, y1, y2⟩ := hb3.c3
            clear hk3 hb3 HK2
            generalize w6.heap.size = g6 at *
            obtain ⟨f1, f2⟩ := f
            simp only at *
            go_wp2_with fail
            with_reducible refine (HSZ.out _).mono ?_
            rintro e7 w7 ⟨rfl, hf7⟩
            have HK7 := Lib.hid (HK3.out.fresh hf7)
            obtain ⟨x0, x1, x2⟩ := (HB3.out.fresh hf7).c3
            obtain ⟨q0, q1, q2, q3⟩ := HK7.out.dec.blk.c4
            clear hf7 y0 y1 y2
            generalize fz (f1, f2) = fzz at *
            by_cases hbg : bound < (sz : Int) + (fzz : Int)
            · have hf3 := HFQ3.out
              rw [if_pos hbg] at hf3
              have HFIN := Lib.hid (HNO.out w7 v2 (.slice O' out.length oc) 22 [] out G lm (by omega) hf3 HK7.out)
              rw [show ((22 : Nat) : Int) = 22 from rfl] at HFIN
              clear hf3
              have hbgd : decide (bound < (sz : Int) + (fzz : Int)) = true := decide_eq_true hbg
              go_wp2
              exact HFIN.out
            · have hf3 := HFQ3.out
              rw [if_neg hbg] at hf3
              have hbgd : decide (bound < (sz : Int) + (fzz : Int)) = false := decide_eq_false hbg
              have hld : (l2.drop us).length = l2.length - us := List.length_drop ..
              have HRS := Lib.hid (bk_rest hld HLT.out hc2a hc2b hln2 hus)
              have HSS := Lib.hid (bk_size hos hf1s hbg)
              have HGO : Hid (FR = blockR most bound (l2.drop us).length G lm (sz + fzz) (out ++ [((f1, f2), nv)]) (l2.drop us)) := Lib.hid (hf3.trans (blockR_fuel _ _ r.length _ _ _ _ _ _ (by have := HRS.out.1; omega) (Nat.le_refl _)))
              obtain ⟨A7, c7, w8, hap, hO7, hF7, hat7⟩ := ln_push (w := w7) HK7.out.own HK7.out.only.size ((f1, f2), nv) (bk_push hos hsb hb1) w7.heap.size rfl
              have HK8 := Lib.hid (HK7.out.push hO7 hF7 hat7)
              have HB3W : Hid (BS w (cutA A2 us c2) (l2.drop us)) := Lib.hid (HB2W.out.cut us c2 hc2a)
              have HNI3 : Hid (NotIn p v (cutA A2 us c2) (l2.drop us)) := Lib.hid (HNI2.out.cut HB2W.out us c2 hc2a)
              have HLD := Lib.hid hld
              have HLO : Hid ((out ++ [((f1, f2), nv)]).length = out.length + 1) := Lib.hid (by simp)
              clear hf3 hO7 hF7 hat7 hld HFQ3 HSZ
              generalize l2.drop us = l3 at *
              go_wp2_with (at_builtin; with_reducible refine wp_app rfl _ _ _ rfl hap rfl rfl rfl ?_)
              exact ⟨⟨cutA A2 us c2, l3, c2 - us, A7, out ++ [((f1, f2), nv)], c7, sz + fzz, G, lm, v2, by rw [HLD.out], by rw [HLO.out], by rw [HSS.out.2.2], HRS.out.2.2.2, HRS.out.2.1, HRS.out.2.2.1, HB3W.out, HNI3.out, HSS.out.2.1, by rw [HLO.out]; exact HSS.out.1, hl0, hl1, hzG, HGO.out, by rw [HLO.out]; exact HK8.out⟩, by simp only [lenD]; rw [← HLD.out]; exact HRS.out.1⟩
      · obtain ⟨e, he, hd⟩ : ∃ e : Nat, e ≠ 0 ∧ decL (x :: r) (bitsR x.toNat) = (0, 0, (e : Int)) := by
          rcases hdc with h | h | h
          · exact ⟨22, by omega, h⟩
          · exact ⟨16, by omega, h⟩
          · exact absurd h hde
        have HFIN := Lib.hid (HNUM.out e he hd)
        rw [hd] at HPX
        unfold decV at HPX
        have h0d : ((e : Int) != 0) = true := by simp; omega
        have h0i : ¬ (e : Int) = 0 := by omega
        clear hde hdc hd HNUM HCT
        generalize bitsR x.toNat = bt at *
        generalize kindR x.toNat = kd at *
        generalize x.toNat = xn at *
        go_wp2_with fail
        with_reducible refine (HW.out _).mono ?_
        rintro e5 w5 ⟨rfl, rfl⟩
        go_wp2_with fail
        with_reducible refine (HPX.out _ (Fresh.refl _)).mono ?_
        rintro e5 w5 ⟨rfl, hf5⟩
        have HFIN2 := Lib.hid (HFIN.out _ hf5)
        clear hf5
        go_wp2
        exact HFIN2.out
end Go.Proofs.YtginhebfjbhmnaaGreat

