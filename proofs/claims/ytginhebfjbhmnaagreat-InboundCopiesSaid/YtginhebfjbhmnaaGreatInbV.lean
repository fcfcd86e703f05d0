/-
  Package inbound: read.
-/
import Derived.Test.YtginhebfjbhmnaaGreatInbU
import Derived.Deep.CutRange
namespace Go.Proofs.YtginhebfjbhmnaaGreat
set_option maxRecDepth 100000
set_option linter.unusedVariables false
set_option linter.unusedSimpArgs false
open Go.RowKit
def readO (s : Option Part) (ty st f0 : Int) (r : PR) (R : Option Part × Option Part × Bool) : Int × Option Part × Ev :=
  if R.2.2 = true then (101, s, Ev0)
  else match R.2.1 with
    | some (a, t, e) => if (rd7 0 16384 false [] 0 t).1 ≠ 0 then (109, s, Ev0) else (0, R.1, ⟨1, a, (rd7 0 16384 false [] 0 t).2.1, [], [], e, 0, 0⟩)
    | none => (0, R.1, evP ty st f0 r)
def readQ (s : Option Part) (ty st f0 : Int) (Q : PR × Int × Bool) : Int × Option Part × Ev :=
  if Q.2.1 ≠ 0 then
    if Q.2.2 = true ∨ ty = 1 then (Q.2.1, s, Ev0) else (0, s, ⟨10, st, [], [], [], false, f0, Q.2.1⟩)
  else readO s ty st f0 Q.1 (onS 16384 s ty st Q.1.l Q.1.en Q.1.eh)
theorem readP_eq (s : Option Part) (bg : Bool) (ty fl st : Int) (l : List UInt8) : readP s bg ty fl st l = if decide (bg = false ∧ (ty ≠ 4 ∨ hasB fl 1 = true)) = true then (101, s, Ev0) else if decide (s.isSome = true ∧ (ty ≠ 9 ∨ st ≠ atS s)) = true then (101, s, Ev0) else readQ s ty st (flowN ty l.length) (prsF ty fl st l (fkOf ty fl st l)) := by
  simp only [decide_eq_true_eq]
  rfl
def blkA (o : Option Part) (v : Value) : Array Value := match o with
  | none => #[.int .i64 0, .slice none 0 0, .bool false]
  | some (st, l, b) => #[.int .i64 st, v, .bool b]
def fltA (f : Bool) : Array Value := if f then #[.int .i64 101, .bool true] else #[.int .i64 0, .bool false]
theorem blkV_eq (o : Option Part) (v : Value) : blkV o v = .agg (blkA o v) := by
  cases o with
  | none => rfl
  | some y => obtain ⟨a, l, b⟩ := y; rfl
theorem fltV_eq (f : Bool) : fltV f = .agg (fltA f) := by cases f <;> rfl
theorem evHead_in {w : World} {base : Nat} {xs : List LnD} {LA : Option Addr} {lc : Nat} (h : Lns w LA lc xs) (st : Int) (en : Bool) : EvIn w base (evHead st xs en LA lc) ∧ ∀ S, (evHead st xs en LA lc).off S :=
  ⟨⟨h, BS.nil _ _, Many.nil _ _ _ _, Nat.le_refl _, by simp [maxLen, evHead], fun h => absurd h (by simp [evHead]), fun h => absurd h (by simp [evHead])⟩, fun S => ⟨fun h => absurd h (by simp [evHead]), fun h => absurd h (by simp [evHead])⟩⟩
theorem blkA_size (o : Option Part) (v : Value) : (blkA o v).size = 3 := by
  cases o with
  | none => rfl
  | some y => obtain ⟨a, l, b⟩ := y; rfl
theorem fltA_size (f : Bool) : (fltA f).size = 2 := by cases f <;> rfl
theorem fltA_one (f : Bool) : (fltA f).all (·.oneCell') = true := by cases f <;> simp [fltA, Value.oneCell']
theorem evArr_one (x : EvV) : x.arr.all (·.oneCell') = true := by simp [EvV.arr, Value.oneCell']
theorem itArr_one (x : ItV) : x.cells.toArray.all (·.oneCell') = true := by simp [ItV.cells, Value.oneCell']
theorem run_loadOp {P : Program} {w : World} {ρ : Operand → Value} {o : Oper} {x : Operand} {t : TypeId} (ho : o.op = .load t x) {b : Nat} {t' : TypeId} {cs : Array Value} (hx : ρ x = .pointer (some ⟨b, 0, none⟩)) (hB : Blk w b t' cs) (hi : (P.info? t).map (·.size) = some cs.size) (ha : ∀ w, (isAgg t).run P w = .ok true w) : (execOp ρ o).run P w = .ok (.value (.agg cs)) w := by
  have hrun := run_loadVarB hB hi (ha w)
  simp [execOp, ho, hx, Instr.loadAt, Instr.sureAddr, hrun, Result.andThen]
/-- What the region of On reads. -/
def SK (B : InB) (x : ItV) (g8 : Nat) (w : World) : Prop := w.cell? ⟨B.p, 1, none⟩ = some (.pointer (some ⟨B.ap, 0, none⟩)) ∧ Blk w g8 98 x.cells.toArray
def OddT (t : TypeId) : Prop := t ≠ 54 ∧ t ≠ 81 ∧ t ≠ 85 ∧ t ≠ 90 ∧ t ≠ 111 ∧ t ≠ 62 ∧ t ≠ 5
instance (t : TypeId) : Decidable (OddT t) := by unfold OddT; infer_instance
theorem IbAt.odd {w0 w : World} {B : InB} {l : List UInt8} {s : Option Part} {bg : Bool} (h : IbAt w0 w B l s bg) {k : Nat} {t : TypeId} {cs : Array Value} (hb : Blk w k t cs) (ht : OddT t) : ¬ B.has k := by
  obtain ⟨t1, t2, t3, t4, t5, t6, t7⟩ := ht
  obtain ⟨cs', hcs⟩ := h.asm.blk5
  rintro (e | e | e | e | e | e | e | e)
  · exact hb.ne h.blk t1 e
  · exact hb.ne h.rs.blk t2 e
  · exact hb.ne hcs t3 e
  · exact hb.ne h.de.dec.blk t4 e
  · exact hb.ne h.de.dec.tab.blk t5 e
  · obtain ⟨cur, hc⟩ := h.rs.own.blk e
    exact hb.ne hc t7 rfl
  · obtain ⟨cur, hc⟩ := h.asm.own8 e
    exact hb.ne hc t7 rfl
  · obtain ⟨cur, hc⟩ := ownBlkD h.de.dec.tab.own e
    exact hb.ne hc t6 rfl
theorem ItV.Ok.only2 {S : Nat → Prop} {w w' : World} {x : ItV} (h : x.Ok w) (ho : Only S w w') (h1 : 0 < x.l.length → ∀ b o, x.A = some ⟨b, o, none⟩ → ¬ S b) (h2 : 0 < x.ps.length → ∀ b o, x.PA = some ⟨b, o, none⟩ → ¬ S b) : x.Ok w' := by
  refine ⟨h.le, h.max, ?_, h.ple, h.pmax, ?_⟩
  · by_cases h0 : 0 < x.l.length
    · exact h.bs.only ho (h1 h0)
    · rw [List.eq_nil_of_length_eq_zero (by omega : x.l.length = 0)]
      exact BS.nil _ _
  · by_cases h0 : 0 < x.ps.length
    · exact h.prs.only ho (h2 h0)
    · rw [List.eq_nil_of_length_eq_zero (by omega : x.ps.length = 0)]
      exact Many.nil _ _ _ _
/-- Behind On: the reader, the whole block's text, the cells of the frame's reading. -/
structure RdC (w0 w W : World) (B : InB) (l : List UInt8) (R : Option Part × Option Part × Bool) (x : ItV) (g8 b : Nat) (v' vb : Value) (W' : World) : Prop where
  ib : IbAt w0 W' { B with v2 := v' } l R.1 true
  gr : ∀ k, v'.ownBlock = some k → B.v2.ownBlock = some k ∨ W.heap.size ≤ k
  vb1 : ∀ st t e, R.2.1 = some (st, t, e) → Own W' 0 5 1 vb t.length (t.map byteV)
  vb2 : ∀ st t e, R.2.1 = some (st, t, e) → ∀ k, vb.ownBlock = some k → B.v2.ownBlock = some k ∨ W.heap.size ≤ k
  one : (blkA R.2.1 vb).all (·.oneCell') = true
  e : Blk W' (b + 1) 42 (Ev.bare Ev0).arr
  z : Blk W' (b + 1 + 1) 32 #[.int .i64 0, .bool false]
  i : Blk W' g8 98 x.cells.toArray
  xok : x.Ok W'
  xo : (0 < x.l.length → ∀ b o, x.A = some ⟨b, o, none⟩ → b < g8) ∧ (0 < x.ps.length → ∀ b o, x.PA = some ⟨b, o, none⟩ → b < g8)
  on : Only B.has w W'
  lt : g8 + 1 < W'.heap.size
  lo : w0.heap.size ≤ w.heap.size ∧ w.heap.size ≤ b ∧ b + 1 + 1 < g8 ∧ g8 + 1 < W.heap.size
theorem RdC.fresh {w0 w W : World} {B : InB} {l : List UInt8} {R : Option Part × Option Part × Bool} {x : ItV} {g8 b : Nat} {v' vb : Value} {W' W'' : World} (h : RdC w0 w W B l R x g8 b v' vb W') (hf : Fresh W' W'') : RdC w0 w W B l R x g8 b v' vb W'' :=
  ⟨h.ib.fresh hf, h.gr, fun a t e he => (h.vb1 a t e he).fresh hf, h.vb2, h.one, h.e.fresh hf, h.z.fresh hf, h.i.fresh hf, h.xok.fresh hf, h.xo, h.on.trans (Only.of_fresh hf), by have := h.lt; have := hf.size; omega, h.lo⟩
theorem RdC.only {w0 w W : World} {B : InB} {l : List UInt8} {R : Option Part × Option Part × Bool} {x : ItV} {g8 b : Nat} {v' vb : Value} {W' W'' : World} {k : Nat} {t : TypeId} {cs : Array Value} (h : RdC w0 w W B l R x g8 b v' vb W') (ho : Only (· = k) W' W'') (hk : g8 < k) (hb : Blk W' k t cs) (ht : OddT t) : RdC w0 w W B l R x g8 b v' vb W'' := by
  have hlo := h.lo
  refine ⟨h.ib.only ho (fun i hi e => by subst e; exact h.ib.odd hb ht hi) (fun i e => by omega), h.gr, fun a t' en he => (h.vb1 a t' en he).only ho (fun i hi e => ?_), h.vb2, h.one, h.e.only ho (by omega), h.z.only ho (by omega), h.i.only ho (by omega), h.xok.only2 ho (fun h0 i o e hi => by have := h.xo.1 h0 i o e; omega) (fun h0 i o e hi => by have := h.xo.2 h0 i o e; omega), h.xo, h.on.trans' ho (fun i hi e => by omega), by have := h.lt; have := ho.size; omega, h.lo⟩
  obtain ⟨cur, hc⟩ := (h.vb1 a t' en he).blk hi
  subst e
  exact hb.ne hc ht.2.2.2.2.2.2 rfl
theorem RdC.sk {w0 w W : World} {B : InB} {l : List UInt8} {R : Option Part × Option Part × Bool} {x : ItV} {g8 b : Nat} {v' vb : Value} {W' : World} (h : RdC w0 w W B l R x g8 b v' vb W') : SK B x g8 W' := ⟨h.ib.blk.cell 1, h.i⟩
/-- Behind the tests: the reader, the boxed frame, the results' cells. -/
structure RdM (w0 w : World) (B : InB) (l : List UInt8) (s : Option Part) (b : Nat) (fa : Array Value) (W : World) : Prop where
  ib : IbAt w0 W B l s true
  f : Blk W b 34 fa
  e : Blk W (b + 1) 42 (Ev.bare Ev0).arr
  z : Blk W (b + 1 + 1) 32 #[.int .i64 0, .bool false]
  on : Only (· = B.p) w W
theorem RdM.fresh {w0 w : World} {B : InB} {l : List UInt8} {s : Option Part} {b : Nat} {fa : Array Value} {W W' : World} (h : RdM w0 w B l s b fa W) (hf : Fresh W W') : RdM w0 w B l s b fa W' :=
  ⟨h.ib.fresh hf, h.f.fresh hf, h.e.fresh hf, h.z.fresh hf, h.on.trans (Only.of_fresh hf)⟩
set_option maxHeartbeats 12800000 in
theorem in_read (w0 w : World) (B : InB) (l : List UInt8) (s : Option Part) (bg : Bool) (ty fl st : Int) (A : Option Addr) (n c : Nat) (t : List UInt8) (h : IbAt w0 w B l s bg) (hA : BS w A t) (hn : t.length = n) (hlc : n ≤ c) (hcm : c ≤ maxLen) (hmx : n ≤ 1000000) (hoff : 0 < n → ∀ b o, A = some ⟨b, o, none⟩ → ¬ B.has b) (q : Int × Option Part × Ev) (hq : readP s bg ty fl st t = q) :
    Calls Tryz.prog 25 #[.pointer (some ⟨B.p, 0, none⟩), .agg #[.int .i64 ty, .int .i64 fl, .int .i64 st, .slice A n c]] w (InReadP w0 w B l q) := by
  have HIB := Lib.hid h
  have HHL : Hid (∀ k, B.has k → k < w.heap.size) := Lib.hid (fun k hk => (h.lt hk).1)
  have HPL : Hid (B.p < w.heap.size ∧ w0.heap.size ≤ w.heap.size) := Lib.hid ⟨h.blk.lt, h.de.fr.size⟩
  have HA : Hid (∀ W, Only (· = B.p) w W → BS W A t) := Lib.hid (fun W ho => by
    by_cases h0 : 0 < t.length
    · exact hA.only ho (fun b o e hb => hoff (by omega) b o e (.inl hb))
    · rw [List.eq_nil_of_length_eq_zero (by omega : t.length = 0)]
      exact BS.nil _ _)
  have HHAS := Lib.hid (fun (hx : Bool) (he : hasB fl 1 = hx) W => phas 4 fl st A n c 1 hx W (by decide) he)
  have HWI := Lib.hid (fun W (sb : Bool) (sa : Int) (h1 : s.isSome = sb) (h2 : atS s = sa) (h : AsAt W B.ap 16384 s B.v2) => (show Calls Tryz.prog 39 #[.pointer (some ⟨B.ap, 0, none⟩)] W fun e w' => e = .returned (.tuple #[.int .i64 sa, .bool sb]) ∧ Fresh W w' from by rw [← h1, ← h2]; exact asWithin B.ap 16384 s B.v2 W h))
  obtain ⟨k, hk⟩ : ∃ k, fkOf ty fl st t = k := ⟨_, rfl⟩
  obtain ⟨Q, hQ⟩ : ∃ Q, prsF ty fl st t k = Q := ⟨_, rfl⟩
  obtain ⟨f0, hf0⟩ : ∃ f0, flowN ty t.length = f0 := ⟨_, rfl⟩
  have HPRS : Hid (∀ W, BS W A t → Calls Tryz.prog 40 #[.agg #[.int .i64 ty, .int .i64 fl, .int .i64 st, .slice A n c]] W fun e w' => ∃ x : ItV, e = .returned (.tuple #[.agg x.cells.toArray, .agg #[.int .i64 Q.2.1, .bool Q.2.2]]) ∧ x.Ok w' ∧ Says x Q.1 ∧ (x.ty = ty ∧ x.st = st ∧ x.fl = f0) ∧ (∀ b o, x.A = some ⟨b, o, none⟩ → W.heap.size ≤ b) ∧ (∀ b o, x.PA = some ⟨b, o, none⟩ → W.heap.size ≤ b) ∧ Fresh W w') := Lib.hid (fun W hb => by
    have := pparse_at k ty fl st A c t W hb (by omega) hcm (by omega) (hk ▸ fkOf_first ty fl st t) Q hQ
    rw [hf0, hn] at this
    exact this)
  obtain ⟨c1, hc1⟩ : ∃ c1, decide (bg = false ∧ (ty ≠ 4 ∨ hasB fl 1 = true)) = c1 := ⟨_, rfl⟩
  obtain ⟨c2, hc2⟩ : ∃ c2, decide (s.isSome = true ∧ (ty ≠ 9 ∨ st ≠ atS s)) = c2 := ⟨_, rfl⟩
  rw [readP_eq, hk, hQ, hf0, hc1, hc2] at hq
  have HC1 := Lib.hid hc1
  have HC2 := Lib.hid hc2
  have HQ1 : Hid (c1 = true → q = (101, s, Ev0)) := Lib.hid (fun e => by rw [e, if_pos rfl] at hq; exact hq.symm)
  have HQ2 : Hid (c1 = false → c2 = true → q = (101, s, Ev0)) := Lib.hid (fun e e2 => by rw [e, e2, if_neg (by decide), if_pos rfl] at hq; exact hq.symm)
  have HQ3 : Hid (c1 = false → c2 = false → q = readQ s ty st f0 Q) := Lib.hid (fun e e2 => by rw [e, e2, if_neg (by decide), if_neg (by decide)] at hq; exact hq.symm)
  have HBAD : Hid (∀ co e W bg', q.1 = co → co ≠ 0 → Only B.has w W → Blk W B.p 54 (B.arr bg') → e = .returned (.tuple #[.agg (Ev.bare Ev0).arr, .agg #[.int .i64 co, .bool true]]) → InReadP w0 w B l q e W) := Lib.hid (fun co e W bg' h1 h2 h3 h6 h4 => ⟨h3, fun _ => ⟨by rw [h1]; exact h4, bg', h6⟩, fun h5 => absurd (h1 ▸ h5) h2⟩)
  have HGOOD : Hid (∀ e W B' (x : EvV), q.1 = 0 → Only B.has w W → e = .returned (.tuple #[.agg x.arr, .agg #[.int .i64 0, .bool false]]) → x.e = q.2.2 → RdOk w0 w B l q.2.1 x B' W → InReadP w0 w B l q e W) := Lib.hid (fun e W B' x h1 h2 h3 h4 h5 => ⟨h2, fun h6 => absurd h1 h6, fun _ => ⟨B', x, h3, h4, h5⟩⟩)
  have HK : Hid (Q.2.1 = 0 → Q.2.2 = false) := Lib.hid (fun h0 => by
    rw [← hQ] at h0 ⊢
    unfold prsF at h0 ⊢
    split at h0
    · exact absurd h0 (by simp only [lkC]; split <;> decide)
    · rename_i h6
      rw [if_neg h6])
  clear h hA hn hlc hcm hmx hoff hq hc1 hc2 hk hQ hf0
  generalize InReadP w0 w B l q = PP at *
  obtain ⟨r, co, cn⟩ := Q
  simp only at HPRS HK
  go_enter Tryz.func25, Tryz.ntmps25
  go_upto_region 1 with fail
  refine wp_gen (fun W => Blk W w.heap.size 34 #[.int .i64 ty, .int .i64 fl, .int .i64 st, .slice A n c] ∧ Blk W (w.heap.size + 1) 42 (Ev.bare Ev0).arr ∧ Blk W (w.heap.size + 1 + 1) 32 #[.int .i64 0, .bool false] ∧ Fresh w W) ⟨((Blk.new _ _ _).alloc _).alloc _, (Blk.mkAt (by simp)).alloc _, Blk.mkAt (by simp), ((Fresh.alloc _ _).allocS _).allocS _⟩ ?_
  rintro W1 ⟨hb1, hb2, hb3, hf1⟩
  obtain ⟨b, hb⟩ : ∃ b, w.heap.size = b := ⟨_, rfl⟩
  have HB := Lib.hid hb
  rw [hb] at hb1 hb2 hb3 ⊢
  have HX1 := Lib.hid hb1
  have HX2 := Lib.hid hb2
  have HX3 := Lib.hid hb3
  have HF1 := Lib.hid hf1
  clear hb1 hb2 hb3 hf1 hb
  have HIB1 := Lib.hid (HIB.out.fresh HF1.out)
  go_cut [25] from 12 to 25 (fun x25 wx => x25 = .bool c1 ∧ Fresh W1 wx)
  case first =>
    have x3 := HIB1.out.blk.cell 3
    have x3' : W1.cell? ⟨B.p, 3, none⟩ = some (.bool bg) := x3
    clear x3
    have hc := HC1.out
    cases bg with
    | true =>
      have hc' : c1 = false := by rw [← hc]; simp
      subst hc'
      clear hc
      go_wp2_with fail
      go_meet
      case rel => exact ⟨rfl, Fresh.refl _⟩
    | false =>
      obtain ⟨f0, f1, f2, f3⟩ := HX1.out.c4
      by_cases h4 : ty = 4
      · subst h4
        have hc' : c1 = hasB fl 1 := by rw [← hc]; cases hasB fl 1 <;> simp
        clear hc
        go_wp2_with fail
        with_reducible refine (HHAS.out c1 hc'.symm _).mono ?_
        rintro e W2 ⟨rfl, hf2⟩
        go_wp2_with fail
        go_meet
        case rel => exact ⟨congrArg Value.bool hc'.symm, hf2⟩
      · have hc' : c1 = true := by rw [← hc]; simp [h4]
        subst hc'
        have hd : (ty == 4) = false := by simpa using h4
        clear hc
        go_wp2_with fail
        go_meet
        case rel => exact ⟨rfl, Fresh.refl _⟩
  case rest =>
    obtain ⟨rfl, hfc⟩ := hcut
    have HX1 := Lib.hid (HX1.out.fresh hfc)
    have HX2 := Lib.hid (HX2.out.fresh hfc)
    have HX3 := Lib.hid (HX3.out.fresh hfc)
    have HF1 := Lib.hid (HF1.out.trans hfc)
    have HIB1 := Lib.hid (HIB1.out.fresh hfc)
    clear hfc
    cases c1 with
    | true =>
      have hq1 := HQ1.out (by first | rfl | trivial)
      subst hq1
      go_wp2_with fail
      with_reducible refine (in_ofConn 101 _).mono ?_
      rintro e W3 ⟨rfl, hf3⟩
      have HX2 := Lib.hid (HX2.out.fresh hf3)
      have HX3 := Lib.hid (HX3.out.fresh hf3)
      have HF3 := Lib.hid (HF1.out.trans hf3)
      have HFZ := Lib.hid hf3
      clear hf3
      go_wp2_with (first | (refine wp_storeB (ds := (Ev.bare Ev0).arr) rfl (.tmp 4) (.tmp 26) _ rfl rfl rfl HX2.out (by kernel_rfl) rfl (evArr_one _) ?_) | fail)
      intro W4 hb4 ho4
      have HX3 := Lib.hid (HX3.out.only ho4 (by omega))
      have HB4 := Lib.hid hb4
      have HO4 := Lib.hid ho4
      clear hb4 ho4
      go_wp2_with (first | (refine wp_storeB (ds := #[.int .i64 101, .bool true]) rfl (.tmp 5) (.tmp 27) _ rfl rfl rfl HX3.out (by kernel_rfl) rfl (by simp [Value.oneCell']) ?_) | fail)
      intro W5 hb5 ho5
      have HB5 := Lib.hid hb5
      have HB4 := Lib.hid (HB4.out.only ho5 (by omega))
      have HBP : Hid (Blk W5 B.p 54 (B.arr bg)) := Lib.hid (((HIB1.out.blk.fresh HFZ.out).only HO4.out (by have := HPL.out; have := HB.out; omega)).only ho5 (by have := HPL.out; have := HB.out; omega))
      have HO5 : Hid (Only B.has w W5) := Lib.hid (((Only.of_fresh HF3.out).trans' HO4.out (fun i hi e => by have := HB.out; omega)).trans' ho5 (fun i hi e => by have := HB.out; omega))
      clear hb5 ho5
      go_wp2
      refine bodyPost_ret (results_cc (fn := Tryz.f25) rfl rfl rfl HB4.out (by kernel_rfl) (fun w => by simp [isAgg, go_sem]) HB5.out (by kernel_rfl) (fun w => by simp [isAgg, go_sem])) rfl ?_
      exact HBAD.out 101 _ _ _ (by first | rfl | trivial) (by decide) HO5.out HBP.out rfl
    | false =>
      have x3 := HIB1.out.blk.cell 3
      have z3 := HIB1.out.blk.frozen 3
      have x3' : wc.cell? ⟨B.p, 3, none⟩ = some (.bool bg) := x3
      clear x3
      go_upto_region 4 with fail
      refine wp_gen (fun W => RdM w0 w B l s b #[.int .i64 ty, .int .i64 fl, .int .i64 st, .slice A n c] W) ⟨HIB1.out.begin, HX1.out.only (Only.setCell _ _ _) (by have := HPL.out; have := HB.out; simp only; omega), HX2.out.only (Only.setCell _ _ _) (by have := HPL.out; have := HB.out; simp only; omega), HX3.out.only (Only.setCell _ _ _) (by have := HPL.out; have := HB.out; simp only; omega), (Only.of_fresh HF1.out).trans (show Only (· = B.p) wc _ from Only.setCell wc ⟨B.p, 3, none⟩ (.bool true))⟩ ?_
      clear x3' z3 HX1 HX2 HX3 HF1 HIB1 HHAS HIB HC1
      rintro W4 hm4
      have HM4 := Lib.hid hm4
      clear hm4
      have x1 : W4.cell? ⟨B.p, 1, none⟩ = some (.pointer (some ⟨B.ap, 0, none⟩)) := HM4.out.ib.blk.cell 1
      obtain ⟨sb, hsb⟩ : ∃ sb, s.isSome = sb := ⟨_, rfl⟩
      obtain ⟨sa, hsa⟩ : ∃ sa, atS s = sa := ⟨_, rfl⟩
      have HC2 : Hid (decide (sb = true ∧ (ty ≠ 9 ∨ st ≠ sa)) = c2) := Lib.hid (by rw [← hsb, ← hsa]; exact HC2.out)
      go_wp2_with fail
      with_reducible refine (HWI.out _ sb sa hsb hsa HM4.out.ib.asm).mono ?_
      rintro e W5 ⟨rfl, hf5⟩
      have HM5 := Lib.hid (HM4.out.fresh hf5)
      clear hf5 x1 HM4 hsb hsa
      go_upto_region 5 with fail
      go_cut [50] from 39 to 50 (fun x50 wx => x50 = .bool c2 ∧ W5 = wx)
      case first =>
        have hc := HC2.out
        cases sb with
        | false =>
          have hc' : c2 = false := by rw [← hc]; simp
          subst hc'
          clear hc
          go_wp2_with fail
          go_meet
          case rel => exact ⟨rfl, rfl⟩
        | true =>
          obtain ⟨f0, f1, f2, f3⟩ := HM5.out.f.c4
          by_cases h9 : ty = 9
          · subst h9
            have hc' : c2 = (st != sa) := by rw [← hc]; by_cases e : st = sa <;> simp [e]
            subst hc'
            clear hc
            by_cases e : st = sa
            · subst e
              have hd : (st != st) = false := by simp
              go_wp2_with fail
              go_meet
              case rel => exact ⟨by simp, rfl⟩
            · have hd : (st != sa) = true := by simpa using e
              go_wp2_with fail
              go_meet
              case rel => exact ⟨by simp [hd], rfl⟩
          · have hc' : c2 = true := by rw [← hc]; simp [h9]
            subst hc'
            have hd : (ty != 9) = true := by simpa using h9
            clear hc
            go_wp2_with fail
            go_meet
            case rel => exact ⟨rfl, rfl⟩
      case rest =>
        obtain ⟨rfl, rfl⟩ := hcut
        cases c2 with
        | true =>
          have hq1 := HQ2.out (by first | rfl | trivial) (by first | rfl | trivial)
          subst hq1
          go_wp2_with fail
          with_reducible refine (in_ofConn 101 _).mono ?_
          rintro e W3 ⟨rfl, hf3⟩
          have HM3 := Lib.hid (HM5.out.fresh hf3)
          clear hf3
          go_wp2_with (first | (refine wp_storeB (ds := (Ev.bare Ev0).arr) rfl (.tmp 4) (.tmp 51) _ rfl rfl rfl HM3.out.e (by kernel_rfl) rfl (evArr_one _) ?_) | fail)
          intro W4 hb4 ho4
          have HX3 := Lib.hid (HM3.out.z.only ho4 (by omega))
          have HB4 := Lib.hid hb4
          have HO4 := Lib.hid ho4
          clear hb4 ho4
          go_wp2_with (first | (refine wp_storeB (ds := #[.int .i64 101, .bool true]) rfl (.tmp 5) (.tmp 52) _ rfl rfl rfl HX3.out (by kernel_rfl) rfl (by simp [Value.oneCell']) ?_) | fail)
          intro W5 hb5 ho5
          have HB5 := Lib.hid hb5
          have HB4 := Lib.hid (HB4.out.only ho5 (by omega))
          have HBP : Hid (Blk W5 B.p 54 (B.arr true)) := Lib.hid ((HM3.out.ib.blk.only HO4.out (by have := HPL.out; have := HB.out; omega)).only ho5 (by have := HPL.out; have := HB.out; omega))
          have HO5 : Hid (Only B.has w W5) := Lib.hid (((HM3.out.on.mono (fun i e => .inl e)).trans' HO4.out (fun i hi e => by have := HB.out; omega)).trans' ho5 (fun i hi e => by have := HB.out; omega))
          clear hb5 ho5
          go_wp2
          refine bodyPost_ret (results_cc (fn := Tryz.f25) rfl rfl rfl HB4.out (by kernel_rfl) (fun w => by simp [isAgg, go_sem]) HB5.out (by kernel_rfl) (fun w => by simp [isAgg, go_sem])) rfl ?_
          exact HBAD.out 101 _ _ _ (by first | rfl | trivial) (by decide) HO5.out HBP.out rfl
        | false =>
          have hq3 := HQ3.out (by first | rfl | trivial) (by first | rfl | trivial)
          clear HQ1 HQ2 HQ3 HC2 HWI
          go_wp2_with (first | (refine wp_loadB rfl (.tmp 3) _ rfl rfl HM5.out.f (by kernel_rfl) (fun w => by simp [isAgg, go_sem]) ?_) | fail)
          with_reducible refine (HPRS.out _ (HA.out _ HM5.out.on)).mono ?_
          rintro e W7 ⟨x, rfl, hxo, hsy, ⟨hx1, hx2, hx3⟩, hxa, hxp, hf7⟩
          have hz5 : b + 1 + 1 + 1 ≤ W5.heap.size := HM5.out.z.lt
          have HXA : Hid ((∀ b' o, x.A = some ⟨b', o, none⟩ → b + 1 + 1 + 1 ≤ b') ∧ (∀ b' o, x.PA = some ⟨b', o, none⟩ → b + 1 + 1 + 1 ≤ b')) := Lib.hid ⟨fun b' o e => Nat.le_trans hz5 (hxa b' o e), fun b' o e => Nat.le_trans hz5 (hxp b' o e)⟩
          have HXL : Hid ((0 < x.l.length → ∀ b o, x.A = some ⟨b, o, none⟩ → b < W7.heap.size) ∧ (0 < x.ps.length → ∀ b o, x.PA = some ⟨b, o, none⟩ → b < W7.heap.size)) := Lib.hid ⟨fun h0 b o e => by
              obtain ⟨b', o', e', hb, _⟩ := hxo.bs.addr h0
              rw [e'] at e
              cases e
              exact hb, fun h0 b o e => by
              obtain ⟨b', o', e', hb, _⟩ := hxo.prs h0
              rw [e'] at e
              cases e
              exact hb⟩
          have HM7 := Lib.hid (HM5.out.fresh hf7)
          have HXO := Lib.hid hxo
          have HSY := Lib.hid hsy
          have HXX : Hid (x.ty = ty ∧ x.st = st ∧ x.fl = f0) := Lib.hid ⟨hx1, hx2, hx3⟩
          have HSZ : Hid (b + 1 + 1 < W7.heap.size) := Lib.hid HM7.out.z.lt
          clear hxo hsy hx1 hx2 hx3 hxa hxp hf7 hz5 HPRS HA HM5
          go_wp2_with (first | (refine wp_storeB (ds := x.cells.toArray) rfl (.tmp 8) (.tmp 56) _ rfl rfl rfl ((Blk.new _ _ _).alloc _) (by kernel_rfl) rfl (itArr_one x) ?_) | fail)
          intro W8 hb8 ho8
          have hb9 : Blk W8 (W7.heap.size + 1) 32 #[.int .i64 0, .bool false] := (Blk.mkAt (by simp)).only ho8 (by omega)
          have hf8 : Fresh W7 W8 := Only.fresh ((Only.of_fresh ((Fresh.alloc _ _).allocS _)).trans ho8) (fun i hi e => by omega)
          obtain ⟨g8, hg8⟩ : ∃ g8, W7.heap.size = g8 := ⟨_, rfl⟩
          have HG8 := Lib.hid hg8
          rw [hg8] at hb8 hb9 ⊢
          have HB8 := Lib.hid hb8
          have HB9 := Lib.hid hb9
          have HF8 := Lib.hid hf8
          clear hb8 hb9 hf8 ho8 hg8
          go_wp2_with (first | (refine wp_storeB (ds := #[.int .i64 co, .bool cn]) rfl (.tmp 9) (.tmp 57) _ rfl rfl rfl HB9.out (by kernel_rfl) rfl (by simp [Value.oneCell']) ?_) | fail)
          intro W9 hb9 ho9
          have hf9 : Fresh W7 W9 := Only.fresh ((Only.of_fresh HF8.out).trans ho9) (fun i hi e => by have := HG8.out; omega)
          have HI := Lib.hid (HB8.out.only ho9 (by omega))
          have H9 := Lib.hid hb9
          have HM9 := Lib.hid (HM7.out.fresh hf9)
          have HXO := Lib.hid (HXO.out.fresh hf9)
          have HSZ : Hid (b + 1 + 1 < g8) := Lib.hid (by have := HSZ.out; have := HG8.out; omega)
          have HXL : Hid ((0 < x.l.length → ∀ b o, x.A = some ⟨b, o, none⟩ → b < g8) ∧ (0 < x.ps.length → ∀ b o, x.PA = some ⟨b, o, none⟩ → b < g8)) := Lib.hid (by rw [← HG8.out]; exact HXL.out)
          clear hb9 ho9 hf9 HB8 HB9 HF8 HM7 HG8
          by_cases h0 : co = 0
          · obtain rfl : cn = false := HK.out h0
            subst h0
            go_wp2_with (first | (refine wp_loadB rfl (.tmp 9) _ rfl rfl H9.out (by kernel_rfl) (fun w => by simp [isAgg, go_sem]) ?_) | fail)
            with_reducible refine (pok 0 false true (by decide) _).mono ?_
            rintro e WA ⟨rfl, hfa⟩
            have HI := Lib.hid (HI.out.fresh hfa)
            have H9 := Lib.hid (H9.out.fresh hfa)
            have HM := Lib.hid (HM9.out.fresh hfa)
            have HXO := Lib.hid (HXO.out.fresh hfa)
            clear hfa HM9
            obtain ⟨R, hR⟩ : ∃ R, onS 16384 s ty st r.l r.en r.eh = R := ⟨_, rfl⟩
            have HRQ : Hid (q = readO s ty st f0 r R) := Lib.hid (by rw [hq3, ← hR]; rfl)
            have HRE := Lib.hid hR
            have HR : Hid (onS 16384 s x.ty x.st x.l x.en x.eh = R) := Lib.hid (by
              obtain ⟨e1, ⟨e2, e3, _⟩, _⟩ := HSY.out
              rw [HXX.out.1, HXX.out.2.1, e1, e2, e3]
              exact hR)
            clear hq3 hR
            have HLO : Hid (w0.heap.size ≤ w.heap.size ∧ w.heap.size ≤ b ∧ b + 1 + 1 < g8 ∧ g8 + 1 < WA.heap.size) := Lib.hid ⟨HPL.out.2, Nat.le_of_eq HB.out, HSZ.out, H9.out.lt⟩
            have HON : Hid (∀ W1, Fresh WA W1 → Calls Tryz.prog 41 #[.pointer (some ⟨B.ap, 0, none⟩), .agg x.cells.toArray] W1 (fun e W2 => ∃ v' vb, e = .returned (.tuple #[.agg (blkA R.2.1 vb), .bool R.2.1.isSome, .agg (fltA R.2.2)]) ∧ RdC w0 w WA B l R x g8 b v' vb W2 ∧ Blk W2 (g8 + 1) 32 #[.int .i64 0, .bool false] ∧ ∀ k t cs, Blk W1 k t cs → t ≠ 85 → t ≠ 5 → Blk W2 k t cs)) := Lib.hid (fun W1 hf => by
              have hm := HM.out.fresh hf
              have hsz := hf.size
              refine (on_any B.ap 16384 s B.v2 x W1 R hm.ib.asm (HXO.out.fresh hf) (fun _ b' o e => by have := HXA.out.1 b' o e; have := HHL.out B.ap (.inr (.inr (.inl rfl))); have := HB.out; omega) HR.out).mono ?_
              rintro e W2 ⟨v', vb, he, has, ho, hg, hvb⟩
              have hkp : ∀ k t cs, Blk W1 k t cs → t ≠ 85 → t ≠ 5 → Blk W2 k t cs := fun k t cs hb h1 h2 => hb.only ho (by
                obtain ⟨cs', hcs⟩ := hm.ib.asm.blk5
                rintro (e | e)
                · exact hb.ne hcs h1 e
                · obtain ⟨cur, hc⟩ := hm.ib.asm.own8 e
                  exact hb.ne hc h2 rfl)
              refine ⟨v', vb, ?_, ⟨hm.ib.onned has ho hg, fun k hk => (hg k hk).imp id (fun e => by omega), fun a t e h => (hvb a t e h).1, fun a t e h k hk => ((hvb a t e h).2 k hk).imp id (fun e => by omega), ?one, hkp _ _ _ hm.e (by decide) (by decide), hkp _ _ _ hm.z (by decide) (by decide), hkp _ _ _ (HI.out.fresh hf) (by decide) (by decide), (HXO.out.fresh hf).only2 ho (fun _ b' o e hs => ?_) (fun _ b' o e hs => ?_), HXL.out, (hm.on.mono (fun i e => .inl e)).trans (ho.mono (fun k hk => InB.asm_has hk)), (hkp _ _ _ (H9.out.fresh hf) (by decide) (by decide)).lt, HLO.out⟩, hkp _ _ _ (H9.out.fresh hf) (by decide) (by decide), hkp⟩
              · rw [he, blkV_eq, fltV_eq]
              · obtain ⟨s', o, f⟩ := R
                cases o with
                | none => simp [blkA, Value.oneCell']
                | some y =>
                  obtain ⟨a, t, e⟩ := y
                  obtain ⟨vA, vc, rfl, _⟩ := (hvb a t e rfl).1.slice
                  simp [blkA, Value.oneCell']
              · have := HXA.out.1 b' o e
                have := HHL.out b' (InB.asm_has hs)
                have := HB.out
                omega
              · have := HXA.out.2 b' o e
                have := HHL.out b' (InB.asm_has hs)
                have := HB.out
                omega)
            have HSK : Hid (∀ W', Fresh WA W' → SK B x g8 W') := Lib.hid (fun W' h => ⟨(HM.out.fresh h).ib.blk.cell 1, HI.out.fresh h⟩)
            clear H9 HM HI HR
            go_upto_region 12 with fail
            go_cut [10, 11] from 81 to 90 (fun x10 x11 wx => ∃ g v' vb, x10 = .pointer (some ⟨g, 0, none⟩) ∧ x11 = .bool R.2.1.isSome ∧ RdC w0 w WA B l R x g8 b v' vb wx ∧ Blk wx (g8 + 1) 32 (fltA R.2.2) ∧ Blk wx g 83 (blkA R.2.1 vb) ∧ g8 + 1 < g)
            case first =>
              refine wp_region_held_drew (S := (fun w' => SK B x g8 w')) (by kernel_rfl) (HSK.out _ (Fresh.drew _)) (fun hHeld => ?_)
              refine wpAnyH_take (i := 0) (v := ?_) rfl (by kernel_rfl) (by kernel_rfl) (by kernel_rfl) (fun _ _ _ h => h) (Or.inl ⟨by rfl, ?_⟩) (by assumption) ?_; rotate_left; focus (intro w hSw; (try dsimp only at hSw); go_simp; (try with_reducible rfl); done)
              (try simp only [Act.put, List.getElem_toArray, List.getElem_cons_zero, List.getElem_cons_succ, List.setIfInBounds_toArray, List.set_cons_zero, List.set_cons_succ])
              refine wpAnyH_take (i := 1) (v := ?_) rfl (by kernel_rfl) (by kernel_rfl) (by kernel_rfl) (fun _ _ _ h => h) (Or.inl ⟨by rfl, ?_⟩) (by assumption) ?_; rotate_left; focus (intro w hSw; (try dsimp only at hSw); go_simp; (try with_reducible rfl); done)
              (try simp only [Act.put, List.getElem_toArray, List.getElem_cons_zero, List.getElem_cons_succ, List.setIfInBounds_toArray, List.set_cons_zero, List.set_cons_succ])
              refine wpAnyH_take (i := 2) (v := ?_) rfl (by kernel_rfl) (by kernel_rfl) (by kernel_rfl) (fun _ _ _ h => h) (Or.inl ⟨by rfl, ?_⟩) (by assumption) ?_; rotate_left; focus (intro w hSw; (try dsimp only at hSw); go_simp; (try with_reducible rfl); done)
              (try simp only [Act.put, List.getElem_toArray, List.getElem_cons_zero, List.getElem_cons_succ, List.setIfInBounds_toArray, List.set_cons_zero, List.set_cons_succ])
              refine wpAnyH_take (i := 3) (v := .pointer (some ⟨B.ap, 0, none⟩)) rfl (by kernel_rfl) (by kernel_rfl) (by kernel_rfl) (fun _ _ _ h => h) (Or.inl ⟨by rfl, ?_⟩) (by assumption) ?_; focus (intro w hSw; obtain ⟨hSw, _⟩ := hSw; go_simp; done)
              (try simp only [Act.put, List.getElem_toArray, List.getElem_cons_zero, List.getElem_cons_succ, List.setIfInBounds_toArray, List.set_cons_zero, List.set_cons_succ])
              refine wpAnyH_take (i := 4) (v := .agg x.cells.toArray) rfl (by kernel_rfl) (by kernel_rfl) (by kernel_rfl) (fun _ _ _ h => h) (Or.inl ⟨by rfl, ?_⟩) (by assumption) ?_; focus (intro w hSw; exact run_loadOp rfl rfl hSw.2 (by kernel_rfl) (fun w => by simp [isAgg, go_sem]))
              (try simp only [Act.put, List.getElem_toArray, List.getElem_cons_zero, List.getElem_cons_succ, List.setIfInBounds_toArray, List.set_cons_zero, List.set_cons_succ])
              refine wpAnyH_ready (rs := [5, 10]) (by kernel_rfl) (by simp) ?_
              refine AllReadyH.cons rfl (fun K hK => ?_) (AllReadyH.cons rfl (fun K hK => ?_) AllReadyH.nil)
              · skip
                go_simp
                go_at_call 41
                with_reducible refine (HON.out _ (Fresh.drew _)).mono ?_
                rintro e W2 ⟨v', vb, rfl, hrc, h9, hkp⟩
                refine hK.out _ _ (hrc.sk) (fun hHeld => ?_)
                clear hK K
                (try simp only [Act.put, List.getElem_toArray, List.getElem_cons_zero, List.getElem_cons_succ, List.setIfInBounds_toArray, List.set_cons_zero, List.set_cons_succ])
                refine wpAnyH_take (i := 6) (v := ?_) rfl (by kernel_rfl) (by kernel_rfl) (by kernel_rfl) (fun _ _ _ h => h) (Or.inl ⟨by rfl, ?_⟩) (by assumption) ?_; rotate_left; focus (intro w hSw; (try dsimp only at hSw); go_simp; (try with_reducible rfl); done)
                (try simp only [Act.put, List.getElem_toArray, List.getElem_cons_zero, List.getElem_cons_succ, List.setIfInBounds_toArray, List.set_cons_zero, List.set_cons_succ])
                refine wpAnyH_take (i := 7) (v := ?_) rfl (by kernel_rfl) (by kernel_rfl) (by kernel_rfl) (fun _ _ _ h => h) (Or.inl ⟨by rfl, ?_⟩) (by assumption) ?_; rotate_left; focus (intro w hSw; (try dsimp only at hSw); go_simp; (try with_reducible rfl); done)
                (try simp only [Act.put, List.getElem_toArray, List.getElem_cons_zero, List.getElem_cons_succ, List.setIfInBounds_toArray, List.set_cons_zero, List.set_cons_succ])
                refine wpAnyH_take (i := 8) (v := ?_) rfl (by kernel_rfl) (by kernel_rfl) (by kernel_rfl) (fun _ _ _ h => h) (Or.inl ⟨by rfl, ?_⟩) (by assumption) ?_; rotate_left; focus (intro w hSw; (try dsimp only at hSw); go_simp; (try with_reducible rfl); done)
                (try simp only [Act.put, List.getElem_toArray, List.getElem_cons_zero, List.getElem_cons_succ, List.setIfInBounds_toArray, List.set_cons_zero, List.set_cons_succ])
                refine wpAnyH_take (i := 9) (v := ?_) rfl (by kernel_rfl) (by kernel_rfl) (by kernel_rfl) (fun _ _ _ h => h) (Or.inl ⟨by rfl, ?_⟩) (by assumption) ?_; rotate_left; focus (intro w hSw; (try dsimp only at hSw); go_simp; (try with_reducible rfl); done)
                (try simp only [Act.put, List.getElem_toArray, List.getElem_cons_zero, List.getElem_cons_succ, List.setIfInBounds_toArray, List.set_cons_zero, List.set_cons_succ])
                refine wpAnyH_ready (rs := [10]) (by kernel_rfl) (by simp) ?_
                refine AllReadyH.cons rfl (fun K hK => ?_) AllReadyH.nil
                go_simp
                have h10 := Blk.new W2 83 #[.int .i64 0, .slice none 0 0, .bool false]
                replace h9 := h9.alloc (.cells #[.int .i64 0, .slice none 0 0, .bool false] 83)
                have hne : g8 + 1 < W2.heap.size := hrc.lt
                replace hrc := hrc.fresh (Fresh.alloc W2 (.cells #[.int .i64 0, .slice none 0 0, .bool false] 83))
                refine hK.out _ _ (hrc.sk) (fun hHeld => ?_)
                clear hK K
                (try simp only [Act.put, List.getElem_toArray, List.getElem_cons_zero, List.getElem_cons_succ, List.setIfInBounds_toArray, List.set_cons_zero, List.set_cons_succ])
                refine wpAnyH_ready (rs := [11]) (by kernel_rfl) (by simp) ?_
                refine AllReadyH.cons rfl (fun K hK => ?_) AllReadyH.nil
                refine op_storeB (ds := blkA R.2.1 vb) (.tmp 10) (.tmp 88) _ rfl rfl rfl h10 (by rw [blkA_size]; kernel_rfl) (blkA_size _ _) ((hrc.one)) ?_
                intro W6 h10' ho6
                replace hrc := hrc.only ho6 (by omega) h10 (by decide)
                refine hK.out _ _ (hrc.sk) (fun hHeld => ?_)
                clear hK K
                (try simp only [Act.put, List.getElem_toArray, List.getElem_cons_zero, List.getElem_cons_succ, List.setIfInBounds_toArray, List.set_cons_zero, List.set_cons_succ])
                replace h9 := h9.only ho6 (by omega)
                replace h10 := h10'
                clear h10' ho6
                refine wpAnyH_take (i := 12) (v := ?_) rfl (by kernel_rfl) (by kernel_rfl) (by kernel_rfl) (fun _ _ _ h => h) (Or.inl ⟨by rfl, ?_⟩) (by assumption) ?_; rotate_left; focus (intro w hSw; (try dsimp only at hSw); go_simp; (try with_reducible rfl); done)
                (try simp only [Act.put, List.getElem_toArray, List.getElem_cons_zero, List.getElem_cons_succ, List.setIfInBounds_toArray, List.set_cons_zero, List.set_cons_succ])
                refine wpAnyH_ready (rs := [13]) (by kernel_rfl) (by simp) ?_
                refine AllReadyH.cons rfl (fun K hK => ?_) AllReadyH.nil
                refine op_storeB (ds := fltA R.2.2) (.tmp 9) (.tmp 90) _ rfl rfl rfl h9 (by rw [fltA_size]; kernel_rfl) (fltA_size _) (fltA_one _) ?_
                intro W5 h9' ho5
                replace hrc := hrc.only ho5 (by omega) h9 (by decide)
                refine hK.out _ _ (hrc.sk) (fun hHeld => ?_)
                clear hK K
                (try simp only [Act.put, List.getElem_toArray, List.getElem_cons_zero, List.getElem_cons_succ, List.setIfInBounds_toArray, List.set_cons_zero, List.set_cons_succ])
                replace h10 := h10.only ho5 (by omega)
                replace h9 := h9'
                refine wpAnyH_done (by kernel_rfl) ?_ _
                go_wp2_with fail
                go_meet
                case rel => exact ⟨_, v', vb, rfl, rfl, hrc, h9, h10, hne⟩
              · skip
                go_simp
                have h10 := (Blk.new WA 83 #[.int .i64 0, .slice none 0 0, .bool false]).drew
                have hfa : Fresh WA (WA.alloc (.cells #[.int .i64 0, .slice none 0 0, .bool false] 83)).drew := (Fresh.alloc _ _).trans (Fresh.drew _)
                have hgd : g8 + 1 < WA.heap.size := HLO.out.2.2.2
                refine hK.out _ _ (HSK.out _ hfa) (fun hHeld => ?_)
                clear hK K
                (try simp only [Act.put, List.getElem_toArray, List.getElem_cons_zero, List.getElem_cons_succ, List.setIfInBounds_toArray, List.set_cons_zero, List.set_cons_succ])
                refine wpAnyH_ready (rs := [5]) (by kernel_rfl) (by simp) ?_
                refine AllReadyH.cons rfl (fun K hK => ?_) AllReadyH.nil
                go_simp
                go_at_call 41
                with_reducible refine (HON.out _ hfa).mono ?_
                rintro e W2 ⟨v', vb, rfl, hrc, h9, hkp⟩
                replace h10 := hkp _ _ _ (h10) (by decide) (by decide)
                have hne := hgd
                refine hK.out _ _ (hrc.sk) (fun hHeld => ?_)
                clear hK K
                (try simp only [Act.put, List.getElem_toArray, List.getElem_cons_zero, List.getElem_cons_succ, List.setIfInBounds_toArray, List.set_cons_zero, List.set_cons_succ])
                refine wpAnyH_take (i := 6) (v := ?_) rfl (by kernel_rfl) (by kernel_rfl) (by kernel_rfl) (fun _ _ _ h => h) (Or.inl ⟨by rfl, ?_⟩) (by assumption) ?_; rotate_left; focus (intro w hSw; (try dsimp only at hSw); go_simp; (try with_reducible rfl); done)
                (try simp only [Act.put, List.getElem_toArray, List.getElem_cons_zero, List.getElem_cons_succ, List.setIfInBounds_toArray, List.set_cons_zero, List.set_cons_succ])
                refine wpAnyH_take (i := 7) (v := ?_) rfl (by kernel_rfl) (by kernel_rfl) (by kernel_rfl) (fun _ _ _ h => h) (Or.inl ⟨by rfl, ?_⟩) (by assumption) ?_; rotate_left; focus (intro w hSw; (try dsimp only at hSw); go_simp; (try with_reducible rfl); done)
                (try simp only [Act.put, List.getElem_toArray, List.getElem_cons_zero, List.getElem_cons_succ, List.setIfInBounds_toArray, List.set_cons_zero, List.set_cons_succ])
                refine wpAnyH_take (i := 8) (v := ?_) rfl (by kernel_rfl) (by kernel_rfl) (by kernel_rfl) (fun _ _ _ h => h) (Or.inl ⟨by rfl, ?_⟩) (by assumption) ?_; rotate_left; focus (intro w hSw; (try dsimp only at hSw); go_simp; (try with_reducible rfl); done)
                (try simp only [Act.put, List.getElem_toArray, List.getElem_cons_zero, List.getElem_cons_succ, List.setIfInBounds_toArray, List.set_cons_zero, List.set_cons_succ])
                refine wpAnyH_take (i := 9) (v := ?_) rfl (by kernel_rfl) (by kernel_rfl) (by kernel_rfl) (fun _ _ _ h => h) (Or.inl ⟨by rfl, ?_⟩) (by assumption) ?_; rotate_left; focus (intro w hSw; (try dsimp only at hSw); go_simp; (try with_reducible rfl); done)
                (try simp only [Act.put, List.getElem_toArray, List.getElem_cons_zero, List.getElem_cons_succ, List.setIfInBounds_toArray, List.set_cons_zero, List.set_cons_succ])
                refine wpAnyH_ready (rs := [11]) (by kernel_rfl) (by simp) ?_
                refine AllReadyH.cons rfl (fun K hK => ?_) AllReadyH.nil
                refine op_storeB (ds := blkA R.2.1 vb) (.tmp 10) (.tmp 88) _ rfl rfl rfl h10 (by rw [blkA_size]; kernel_rfl) (blkA_size _ _) ((hrc.one)) ?_
                intro W6 h10' ho6
                replace hrc := hrc.only ho6 (by omega) h10 (by decide)
                refine hK.out _ _ (hrc.sk) (fun hHeld => ?_)
                clear hK K
                (try simp only [Act.put, List.getElem_toArray, List.getElem_cons_zero, List.getElem_cons_succ, List.setIfInBounds_toArray, List.set_cons_zero, List.set_cons_succ])
                replace h9 := h9.only ho6 (by omega)
                replace h10 := h10'
                clear h10' ho6
                refine wpAnyH_take (i := 12) (v := ?_) rfl (by kernel_rfl) (by kernel_rfl) (by kernel_rfl) (fun _ _ _ h => h) (Or.inl ⟨by rfl, ?_⟩) (by assumption) ?_; rotate_left; focus (intro w hSw; (try dsimp only at hSw); go_simp; (try with_reducible rfl); done)
                (try simp only [Act.put, List.getElem_toArray, List.getElem_cons_zero, List.getElem_cons_succ, List.setIfInBounds_toArray, List.set_cons_zero, List.set_cons_succ])
                refine wpAnyH_ready (rs := [13]) (by kernel_rfl) (by simp) ?_
                refine AllReadyH.cons rfl (fun K hK => ?_) AllReadyH.nil
                refine op_storeB (ds := fltA R.2.2) (.tmp 9) (.tmp 90) _ rfl rfl rfl h9 (by rw [fltA_size]; kernel_rfl) (fltA_size _) (fltA_one _) ?_
                intro W5 h9' ho5
                replace hrc := hrc.only ho5 (by omega) h9 (by decide)
                refine hK.out _ _ (hrc.sk) (fun hHeld => ?_)
                clear hK K
                (try simp only [Act.put, List.getElem_toArray, List.getElem_cons_zero, List.getElem_cons_succ, List.setIfInBounds_toArray, List.set_cons_zero, List.set_cons_succ])
                replace h10 := h10.only ho5 (by omega)
                replace h9 := h9'
                refine wpAnyH_done (by kernel_rfl) ?_ _
                go_wp2_with fail
                go_meet
                case rel => exact ⟨_, v', vb, rfl, rfl, hrc, h9, h10, hne⟩
            case rest =>
              obtain ⟨g, v', vb, rfl, rfl, hrc, h9, h10, hne⟩ := hcut
              have HRC := Lib.hid hrc
              have H9 := Lib.hid h9
              have H10 := Lib.hid h10
              clear hrc h9 h10 HON HSK
              obtain ⟨s', o, f⟩ := R
              cases f with
              | true =>
                have hq1 : q = (101, s, Ev0) := HRQ.out
                subst hq1
                have HT9 : Hid (Blk wc (g8 + 1) 32 #[.int .i64 101, .bool true]) := H9
                clear H9
                go_wp2_with (first | (refine wp_loadB rfl (.tmp 9) _ rfl rfl HT9.out (by kernel_rfl) (fun w => by simp [isAgg, go_sem]) ?_) | fail)
                with_reducible refine (pok 101 true false (by decide) _).mono ?_
                rintro e WD ⟨rfl, hfd⟩
                have HT9 := Lib.hid (HT9.out.fresh hfd)
                have HE := Lib.hid (HRC.out.e.fresh hfd)
                have HZ := Lib.hid (HRC.out.z.fresh hfd)
                have HOD : Hid (Only B.has w WD) := Lib.hid (HRC.out.on.trans (Only.of_fresh hfd))
                have HFZ := Lib.hid hfd
                clear hfd
                go_upto_region 14 with fail
                refine wp_region_held_drew (S := (fun w' => Blk w' (g8 + 1) 32 #[.int .i64 101, .bool true])) (by kernel_rfl) (HT9.out.drew) (fun hHeld => ?_)
                refine wpAnyH_take (i := 0) (v := ?_) rfl (by kernel_rfl) (by kernel_rfl) (by kernel_rfl) (fun _ _ _ h => h) (Or.inl ⟨by rfl, ?_⟩) (by assumption) ?_; rotate_left; focus (intro w hSw; (try dsimp only at hSw); go_simp; (try with_reducible rfl); done)
                (try simp only [Act.put, List.getElem_toArray, List.getElem_cons_zero, List.getElem_cons_succ, List.setIfInBounds_toArray, List.set_cons_zero, List.set_cons_succ])
                refine wpAnyH_take (i := 1) (v := .agg #[.int .i64 101, .bool true]) rfl (by kernel_rfl) (by kernel_rfl) (by kernel_rfl) (fun _ _ _ h => h) (Or.inl ⟨by rfl, ?_⟩) (by assumption) ?_; focus (intro w hSw; exact run_loadOp rfl rfl hSw (by kernel_rfl) (fun w => by simp [isAgg, go_sem]))
                (try simp only [Act.put, List.getElem_toArray, List.getElem_cons_zero, List.getElem_cons_succ, List.setIfInBounds_toArray, List.set_cons_zero, List.set_cons_succ])
                refine wpAnyH_ready (rs := [2]) (by kernel_rfl) (by simp) ?_
                refine AllReadyH.cons rfl (fun K hK => ?_) AllReadyH.nil
                refine op_storeB (ds := (Ev.bare Ev0).arr) (.tmp 4) (.tmp 94) _ rfl rfl rfl HE.out.drew (by kernel_rfl) rfl (evArr_one _) ?_
                intro W5 hb5 ho5
                refine hK.out _ _ (HT9.out.drew.only ho5 (by have := HLO.out; omega)) (fun hHeld => ?_)
                clear hK K
                (try simp only [Act.put, List.getElem_toArray, List.getElem_cons_zero, List.getElem_cons_succ, List.setIfInBounds_toArray, List.set_cons_zero, List.set_cons_succ])
                refine wpAnyH_ready (rs := [3]) (by kernel_rfl) (by simp) ?_
                refine AllReadyH.cons rfl (fun K hK => ?_) AllReadyH.nil
                refine op_storeB (ds := #[.int .i64 101, .bool true]) (.tmp 5) (.tmp 95) _ rfl rfl rfl (HZ.out.drew.only ho5 (by omega)) (by kernel_rfl) rfl (by simp [Value.oneCell']) ?_
                intro W6 hb6 ho6
                refine hK.out _ _ (hHeld.only ho6 (by have := HLO.out; omega)) (fun hHeld => ?_)
                clear hK K
                (try simp only [Act.put, List.getElem_toArray, List.getElem_cons_zero, List.getElem_cons_succ, List.setIfInBounds_toArray, List.set_cons_zero, List.set_cons_succ])
                refine wpAnyH_done (by kernel_rfl) ?_ _
                have HB5 := Lib.hid (hb5.only ho6 (by omega))
                have HB6 := Lib.hid hb6
                have HBP : Hid (Blk W6 B.p 54 (B.arr true)) := Lib.hid ((((show Blk wc B.p 54 (B.arr true) from HRC.out.ib.blk).fresh HFZ.out).drew.only ho5 (by have := HPL.out; have := HLO.out; omega)).only ho6 (by have := HPL.out; have := HLO.out; omega))
                have HO6 : Hid (Only B.has w W6) := Lib.hid (((HOD.out.trans (Only.of_fresh (Fresh.drew _))).trans' ho5 (fun i hi e => by have := HLO.out; omega)).trans' ho6 (fun i hi e => by have := HLO.out; omega))
                clear hb5 ho5 hb6 ho6 hHeld
                go_wp2
                refine bodyPost_ret (results_cc (fn := Tryz.f25) rfl rfl rfl HB5.out (by kernel_rfl) (fun w => by simp [isAgg, go_sem]) HB6.out (by kernel_rfl) (fun w => by simp [isAgg, go_sem])) rfl ?_
                exact HBAD.out 101 _ _ _ (by first | rfl | trivial) (by decide) HO6.out HBP.out rfl
              | false =>
                have HT9 : Hid (Blk wc (g8 + 1) 32 #[.int .i64 0, .bool false]) := H9
                clear H9
                cases o with
                | none =>
                  have hq1 : q = (0, s', evP ty st f0 r) := HRQ.out
                  subst hq1
                  go_wp2_with (first | (refine wp_loadB rfl (.tmp 9) _ rfl rfl HT9.out (by kernel_rfl) (fun w => by simp [isAgg, go_sem]) ?_) | fail)
                  with_reducible refine (pok 0 false true (by decide) _).mono ?_
                  rintro e WD ⟨rfl, hfd⟩
                  have HRC := Lib.hid (HRC.out.fresh hfd)
                  clear hfd HT9 H10
                  go_wp2_with (first | (refine wp_loadB rfl (.tmp 8) _ rfl rfl HRC.out.i (by kernel_rfl) (fun w => by simp [isAgg, go_sem]) ?_) | fail)
                  have hev : Calls Tryz.prog 43 #[.agg x.cells.toArray] WD fun e w' => e = .returned (.agg (evX x).arr) ∧ Fresh WD w' := in_event x WD
                  with_reducible refine hev.mono ?_
                  clear hev
                  rintro e WE ⟨rfl, hfe⟩
                  have HRC := Lib.hid (HRC.out.fresh hfe)
                  clear hfe
                  go_wp2_with (first | (refine wp_storeB (ds := (evX x).arr) rfl (.tmp 4) (.tmp 103) _ rfl rfl rfl HRC.out.e (by kernel_rfl) rfl (evArr_one _) ?_) | fail)
                  intro W4 hb4 ho4
                  have HX3 := Lib.hid (HRC.out.z.only ho4 (by omega))
                  have HB4 := Lib.hid hb4
                  have HO4 := Lib.hid ho4
                  clear hb4 ho4
                  go_wp2_with (first | (refine wp_storeB (ds := #[.int .i64 0, .bool false]) rfl (.tmp 5) (.tmp 104) _ rfl rfl rfl HX3.out (by kernel_rfl) rfl (by simp [Value.oneCell']) ?_) | fail)
                  intro W5 hb5 ho5
                  have HB5 := Lib.hid hb5
                  have HB4 := Lib.hid (HB4.out.only ho5 (by omega))
                  have HO5 : Hid (Only (fun k => k = b + 1 ∨ k = b + 1 + 1) WE W5) := Lib.hid ((HO4.out.mono (fun i e => .inl e)).trans (ho5.mono (fun i e => .inr e)))
                  clear hb5 ho5
                  go_wp2
                  refine bodyPost_ret (results_cc (fn := Tryz.f25) rfl rfl rfl HB4.out (by kernel_rfl) (fun w => by simp [isAgg, go_sem]) HB5.out (by kernel_rfl) (fun w => by simp [isAgg, go_sem])) rfl ?_
                  have hlo := HLO.out
                  have hbh : ∀ k, ({ B with v2 := v' } : InB).has k → ¬ (k = b + 1 ∨ k = b + 1 + 1) := fun k hk hh => by
                    rcases hh with rfl | rfl
                    · exact HRC.out.ib.odd HRC.out.e (by decide) hk
                    · exact HRC.out.ib.odd HRC.out.z (by decide) hk
                  have hin : EvIn WE (b + 1 + 1 + 1) (evX x) := evX_in HRC.out.xok HXA.out.1 HXA.out.2
                  have hinA : EvIn WA (b + 1 + 1 + 1) (evX x) := evX_in HXO.out HXA.out.1 HXA.out.2
                  have hoff : (evX x).off (fun k => k = b + 1 ∨ k = b + 1 + 1) := hin.low.mono (fun k hk => by omega)
                  refine HGOOD.out _ _ { B with v2 := v' } (evX x) (by first | rfl | trivial) (HRC.out.on.trans' HO5.out (fun i hi e => by omega)) rfl (by rw [evX_ev HSY.out, HXX.out.1, HXX.out.2.1, HXX.out.2.2]) ⟨HRC.out.ib.only HO5.out hbh (fun k hk => by omega), ⟨rfl, rfl, rfl⟩, fun k hk => (InB.has2 HRC.out.gr hk).imp id (fun e => by omega), (hin.base_le (by omega)).only HO5.out (fun g cs hg hh => by
                    rcases hh with rfl | rfl
                    · exact absurd rfl (hg.ne HRC.out.e (by decide))
                    · exact absurd rfl (hg.ne HRC.out.z (by decide))) hoff, (hinA.low.or hinA.lt).mono (fun k hk => (InB.has2 HRC.out.gr hk).imp (fun e => by have := HHL.out k e; omega) id)⟩
                | some y =>
                  obtain ⟨a, tt, en⟩ := y
                  have HQQ : Hid (q = if (rd7 0 16384 false [] 0 tt).1 ≠ 0 then (109, s, Ev0) else (0, s', ⟨1, a, (rd7 0 16384 false [] 0 tt).2.1, [], [], en, 0, 0⟩)) := HRQ
                  have hlen : (tt.length : Int) ≤ 16384 := onS_len HRE.out
                  have hov := HRC.out.vb1 a tt en rfl
                  have hvb2 := HRC.out.vb2 a tt en rfl
                  obtain ⟨vA, vc, rfl, hle, hmax, _⟩ := hov.slice
                  have HT10 : Hid (Blk wc g 83 #[.int .i64 a, .slice vA tt.length vc, .bool en]) := H10
                  clear H10
                  have HBS := Lib.hid hov.bytes.1
                  have HNI : Hid (NotIn B.pp B.v3 vA tt) := Lib.hid (fun h0 b' o e hh => by
                    subst e
                    obtain ⟨cur, hc⟩ := hov.blk (g := b') (by
                      rcases hov.form with ⟨e, h1, _⟩ | ⟨g', cap, e, _⟩
                      · omega
                      · injection e with e1
                        injection e1 with e1
                        cases e1
                        rfl)
                    exact own8 HRC.out.ib.de hc (by decide) (by decide) (by decide) (.inr hh))
                  clear hov hvb2
                  go_wp2_with (first | (refine wp_loadB rfl (.tmp 9) _ rfl rfl HT9.out (by kernel_rfl) (fun w => by simp [isAgg, go_sem]) ?_) | fail)
                  with_reducible refine (pok 0 false true (by decide) _).mono ?_
                  rintro e WD ⟨rfl, hfd⟩
                  have HRC := Lib.hid (HRC.out.fresh hfd)
                  have HT10 := Lib.hid (HT10.out.fresh hfd)
                  have HBS := Lib.hid (HBS.out.fresh hfd)
                  clear hfd HT9
                  have hhd : Calls Tryz.prog 42 #[.pointer (some ⟨B.p, 0, none⟩), .agg #[.int .i64 a, .slice vA tt.length vc, .bool en]] WD (HeadP w0 WD { B with v2 := v' } l s' true a en tt) := in_head w0 WD { B with v2 := v' } l s' true a en vA vc tt.length tt HRC.out.ib HBS.out rfl hle hmax (by omega) HNI.out
                  have HHD := Lib.hid hhd
                  clear hhd hle hmax
                  go_wp2_with (first | (refine wp_loadB rfl (.tmp 10) _ rfl rfl HT10.out (by kernel_rfl) (fun w => by simp [isAgg, go_sem]) ?_) | fail)
                  with_reducible refine HHD.out.mono ?_
                  clear HHD
                  rintro e WE ⟨hod, hbad, hgood⟩
                  have HE := Lib.hid (HRC.out.e.only hod (own8 HRC.out.ib.de HRC.out.e (by decide) (by decide) (by decide)))
                  have HZ := Lib.hid (HRC.out.z.only hod (own8 HRC.out.ib.de HRC.out.z (by decide) (by decide) (by decide)))
                  have HBQ : Hid (Blk WE B.p 54 (B.arr true)) := Lib.hid ((show Blk WD B.p 54 (B.arr true) from HRC.out.ib.blk).only hod (own8 HRC.out.ib.de HRC.out.ib.blk (by decide) (by decide) (by decide)))
                  have HOD : Hid (Only B.has w WE) := Lib.hid (HRC.out.on.trans (hod.mono (fun k hk => InB.dec_has (B := B) hk)))
                  clear hod
                  by_cases hz : (rd7 0 16384 false [] 0 tt).1 = 0
                  · have hq1 := HQQ.out
                    rw [if_neg (by simpa using hz)] at hq1
                    subst hq1
                    obtain ⟨v, LA, lc, rfl, hib, hln, hgr⟩ := hgood hz
                    have HIB2 := Lib.hid hib
                    have HLN := Lib.hid hln
                    have HGR := Lib.hid hgr
                    clear hgood hbad hib hln hgr
                    generalize (rd7 0 16384 false [] 0 tt).2.1 = xs at *
                    go_wp2_with (first | (refine wp_storeB (ds := (evHead a xs en LA lc).arr) rfl (.tmp 4) (.tmp 100) _ rfl rfl rfl HE.out (by kernel_rfl) rfl (evArr_one _) ?_) | fail)
                    intro W4 hb4 ho4
                    have HX3 := Lib.hid (HZ.out.only ho4 (by omega))
                    have HB4 := Lib.hid hb4
                    have HO4 := Lib.hid ho4
                    clear hb4 ho4
                    go_wp2_with (first | (refine wp_storeB (ds := #[.int .i64 0, .bool false]) rfl (.tmp 5) (.tmp 101) _ rfl rfl rfl HX3.out (by kernel_rfl) rfl (by simp [Value.oneCell']) ?_) | fail)
                    intro W5 hb5 ho5
                    have HB5 := Lib.hid hb5
                    have HB4 := Lib.hid (HB4.out.only ho5 (by omega))
                    have HO5 : Hid (Only (fun k => k = b + 1 ∨ k = b + 1 + 1) WE W5) := Lib.hid ((HO4.out.mono (fun i e => .inl e)).trans (ho5.mono (fun i e => .inr e)))
                    clear hb5 ho5
                    go_wp2
                    refine bodyPost_ret (results_cc (fn := Tryz.f25) rfl rfl rfl HB4.out (by kernel_rfl) (fun w => by simp [isAgg, go_sem]) HB5.out (by kernel_rfl) (fun w => by simp [isAgg, go_sem])) rfl ?_
                    have hlo := HLO.out
                    have hev := evHead_in (base := w.heap.size) HLN.out a en
                    have hwd : w.heap.size ≤ WD.heap.size := HRC.out.on.size
                    refine HGOOD.out _ _ { B with v2 := v', v3 := v } (evHead a xs en LA lc) (by first | rfl | trivial) (HOD.out.trans' HO5.out (fun i hi e => by omega)) rfl rfl ⟨HIB2.out.only HO5.out (fun k hk hh => ?_) (fun k hk => by omega), ⟨rfl, rfl, rfl⟩, fun k hk => ?_, hev.1.only HO5.out (fun g cs hg hh => ?_) (hev.2 _), hev.2 _⟩
                    · rcases hh with rfl | rfl
                      · exact HIB2.out.odd HE.out (by decide) hk
                      · exact HIB2.out.odd HZ.out (by decide) hk
                    · rcases InB.has3 (B := { B with v2 := v' }) HGR.out hk with e | e
                      · exact (InB.has2 HRC.out.gr e).imp id (fun e => by omega)
                      · exact .inr (by omega)
                    · rcases hh with rfl | rfl
                      · exact absurd rfl (hg.ne HE.out (by decide))
                      · exact absurd rfl (hg.ne HZ.out (by decide))
                  · have hq1 := HQQ.out
                    rw [if_pos hz] at hq1
                    subst hq1
                    obtain rfl := hbad hz
                    clear hgood hbad
                    go_wp2_with (first | (refine wp_storeB (ds := (Ev.bare Ev0).arr) rfl (.tmp 4) (.tmp 100) _ rfl rfl rfl HE.out (by kernel_rfl) rfl (evArr_one _) ?_) | fail)
                    intro W4 hb4 ho4
                    have HX3 := Lib.hid (HZ.out.only ho4 (by omega))
                    have HB4 := Lib.hid hb4
                    have HO4 := Lib.hid ho4
                    clear hb4 ho4
                    go_wp2_with (first | (refine wp_storeB (ds := #[.int .i64 109, .bool true]) rfl (.tmp 5) (.tmp 101) _ rfl rfl rfl HX3.out (by kernel_rfl) rfl (by simp [Value.oneCell']) ?_) | fail)
                    intro W5 hb5 ho5
                    have HB5 := Lib.hid hb5
                    have HB4 := Lib.hid (HB4.out.only ho5 (by omega))
                    have HBP : Hid (Blk W5 B.p 54 (B.arr true)) := Lib.hid ((HBQ.out.only HO4.out (by have := HPL.out; have := HLO.out; omega)).only ho5 (by have := HPL.out; have := HLO.out; omega))
                    have HO5 : Hid (Only B.has w W5) := Lib.hid ((HOD.out.trans' HO4.out (fun i hi e => by have := HLO.out; omega)).trans' ho5 (fun i hi e => by have := HLO.out; omega))
                    clear hb5 ho5
                    go_wp2
                    refine bodyPost_ret (results_cc (fn := Tryz.f25) rfl rfl rfl HB4.out (by kernel_rfl) (fun w => by simp [isAgg, go_sem]) HB5.out (by kernel_rfl) (fun w => by simp [isAgg, go_sem])) rfl ?_
                    exact HBAD.out 109 _ _ _ (by first | rfl | trivial) (by decide) HO5.out HBP.out rfl
          · have hok : decide (co = 0 ∧ cn = false) = false := by simp [h0]
            go_wp2_with (first | (refine wp_loadB rfl (.tmp 9) _ rfl rfl H9.out (by kernel_rfl) (fun w => by simp [isAgg, go_sem]) ?_) | fail)
            with_reducible refine (pok co cn false hok _).mono ?_
            rintro e WA ⟨rfl, hfa⟩
            have HI := Lib.hid (HI.out.fresh hfa)
            have H9 := Lib.hid (H9.out.fresh hfa)
            have HM := Lib.hid (HM9.out.fresh hfa)
            clear hfa HM9 hok
            obtain ⟨c3, hc3⟩ : ∃ c3, decide (cn = true ∨ ty = 1) = c3 := ⟨_, rfl⟩
            have HQQ : Hid (q = if c3 = true then (co, s, Ev0) else (0, s, ⟨10, st, [], [], [], false, f0, co⟩)) := Lib.hid (by
              rw [hq3, ← hc3]
              simp only [readQ, decide_eq_true_eq]
              rw [if_pos h0])
            have HC3 := Lib.hid hc3
            clear hq3 hc3
            obtain ⟨y0, y1⟩ := H9.out.c2
            have i0 : WA.cell? ⟨g8, 0, none⟩ = some (.int .i64 ty) := by have := HI.out.cell 0; rw [← HXX.out.1]; exact this
            have i1 : WA.cell? ⟨g8, 1, none⟩ = some (.int .i64 st) := by have := HI.out.cell 1; rw [← HXX.out.2.1]; exact this
            have i6 : WA.cell? ⟨g8, 6, none⟩ = some (.int .i64 f0) := by have := HI.out.cell 6; rw [← HXX.out.2.2]; exact this
            go_upto_region 10 with fail
            go_cut [69] from 70 to 76 (fun x69 wx => x69 = .bool c3 ∧ WA = wx)
            case first =>
              have hc := HC3.out
              cases cn with
              | true =>
                have hc' : c3 = true := by rw [← hc]; simp
                subst hc'
                clear hc
                go_wp2_with fail
                go_meet
                case rel => exact ⟨rfl, rfl⟩
              | false =>
                have hc' : c3 = (ty == 1) := by rw [← hc]; by_cases e : ty = 1 <;> simp [e]
                subst hc'
                clear hc
                go_wp2_with fail
                go_meet
                case rel => exact ⟨rfl, rfl⟩
            case rest =>
              obtain ⟨rfl, rfl⟩ := hcut
              cases c3 with
              | true =>
                have hq1 : q = (co, s, Ev0) := HQQ.out
                subst hq1
                go_wp2_with fail
                with_reducible refine (in_ofConn co _).mono ?_
                rintro e W3 ⟨rfl, hf3⟩
                have HM3 := Lib.hid (HM.out.fresh hf3)
                clear hf3
                go_wp2_with (first | (refine wp_storeB (ds := (Ev.bare Ev0).arr) rfl (.tmp 4) (.tmp 77) _ rfl rfl rfl HM3.out.e (by kernel_rfl) rfl (evArr_one _) ?_) | fail)
                intro W4 hb4 ho4
                have HX3 := Lib.hid (HM3.out.z.only ho4 (by omega))
                have HB4 := Lib.hid hb4
                have HO4 := Lib.hid ho4
                clear hb4 ho4
                go_wp2_with (first | (refine wp_storeB (ds := #[.int .i64 co, .bool true]) rfl (.tmp 5) (.tmp 80) _ rfl rfl rfl HX3.out (by kernel_rfl) rfl (by simp [Value.oneCell']) ?_) | fail)
                intro W5 hb5 ho5
                have HB5 := Lib.hid hb5
                have HB4 := Lib.hid (HB4.out.only ho5 (by omega))
                have HBP : Hid (Blk W5 B.p 54 (B.arr true)) := Lib.hid ((HM3.out.ib.blk.only HO4.out (by have := HPL.out; have := HB.out; omega)).only ho5 (by have := HPL.out; have := HB.out; omega))
                have HO5 : Hid (Only B.has w W5) := Lib.hid (((HM3.out.on.mono (fun i e => .inl e)).trans' HO4.out (fun i hi e => by have := HB.out; omega)).trans' ho5 (fun i hi e => by have := HB.out; omega))
                clear hb5 ho5
                go_wp2
                refine bodyPost_ret (results_cc (fn := Tryz.f25) rfl rfl rfl HB4.out (by kernel_rfl) (fun w => by simp [isAgg, go_sem]) HB5.out (by kernel_rfl) (fun w => by simp [isAgg, go_sem])) rfl ?_
                exact HBAD.out co _ _ _ (by first | rfl | trivial) h0 HO5.out HBP.out rfl
              | false =>
                have hq1 : q = (0, s, ⟨10, st, [], [], [], false, f0, co⟩) := HQQ.out
                subst hq1
                go_wp2_with (first | (refine wp_storeB (ds := (Ev.bare ⟨10, st, [], [], [], false, f0, co⟩).arr) rfl (.tmp 4) (.tmp 64) _ rfl rfl rfl HM.out.e (by kernel_rfl) rfl (evArr_one _) ?_) | fail)
                intro W4 hb4 ho4
                have HX3 := Lib.hid (HM.out.z.only ho4 (by omega))
                have HB4 := Lib.hid hb4
                have HO4 := Lib.hid ho4
                clear hb4 ho4
                go_wp2_with (first | (refine wp_storeB (ds := #[.int .i64 0, .bool false]) rfl (.tmp 5) (.tmp 65) _ rfl rfl rfl HX3.out (by kernel_rfl) rfl (by simp [Value.oneCell']) ?_) | fail)
                intro W5 hb5 ho5
                have HB5 := Lib.hid hb5
                have HB4 := Lib.hid (HB4.out.only ho5 (by omega))
                have HO5 : Hid (Only (fun k => k = b + 1 ∨ k = b + 1 + 1) WA W5) := Lib.hid ((HO4.out.mono (fun i e => .inl e)).trans (ho5.mono (fun i e => .inr e)))
                clear hb5 ho5
                go_wp2
                refine bodyPost_ret (results_cc (fn := Tryz.f25) rfl rfl rfl HB4.out (by kernel_rfl) (fun w => by simp [isAgg, go_sem]) HB5.out (by kernel_rfl) (fun w => by simp [isAgg, go_sem])) rfl ?_
                have hbi := fun W => bare_in W w.heap.size ⟨10, st, [], [], [], false, f0, co⟩ rfl rfl rfl
                refine HGOOD.out _ _ B (Ev.bare ⟨10, st, [], [], [], false, f0, co⟩) (by first | rfl | trivial) ((HM.out.on.mono (fun i e => .inl e)).trans' HO5.out (fun i hi e => by have := HB.out; omega)) rfl rfl ⟨HM.out.ib.only HO5.out (fun k hk hh => ?_) (fun k hk => by have := HB.out; have := HPL.out; omega), ⟨rfl, rfl, rfl⟩, fun k hk => .inl hk, (hbi _).1, (hbi WA).2 _⟩
                rcases hh with rfl | rfl
                · exact HM.out.ib.odd HM.out.e (by decide) hk
                · exact HM.out.ib.odd HM.out.z (by decide) hk
end Go.Proofs.YtginhebfjbhmnaaGreat

