/-
  The document's lists of streams: Find; appends to them.
-/
import Derived.Test.YtjediikcfhdgiaaDoorReg6
import Derived.Test.YtjediikcfhdgiaaDoorStateT
namespace Go.Proofs.YtjediikcfhdgiaaDoor
set_option maxRecDepth 100000
set_option linter.unusedVariables false
set_option linter.unusedSimpArgs false
open Go.RowKit
/-- The document's stream. -/
structure DSt where
  (id : Int) (o : Nat) (x : RS)
def dsD (d : DSt) : List Value := [.int .i64 d.id, .int .i64 (d.o : Int), .int .i64 d.x.b, .int .i64 d.x.w, .int .i64 d.x.t, .int .i64 d.x.r]
def rowD (l : List DSt) : List Value := l.flatMap dsD
theorem rowD_length (l : List DSt) : (rowD l).length = l.length * 6 := by
  induction l with
  | nil => rfl
  | cons x r ih => unfold rowD at *; rw [List.flatMap_cons, List.length_append, ih, List.length_cons]; simp [dsD]; omega
theorem rowD_one (l : List DSt) : ∀ u ∈ rowD l, u.oneCell' = true := by
  intro u hu
  simp only [rowD, List.mem_flatMap, dsD, List.mem_cons, List.not_mem_nil, or_false] at hu
  obtain ⟨p, _, rfl | rfl | rfl | rfl | rfl | rfl⟩ := hu <;> rfl
theorem rowD_drop (l : List DSt) (j : Nat) : (rowD l).drop (j * 6) = rowD (l.drop j) := by
  induction l generalizing j with
  | nil => simp [rowD]
  | cons f r ih =>
    cases j with
    | zero => simp
    | succ j =>
      have := ih j
      simp only [rowD, List.flatMap_cons, List.drop_succ_cons] at this ⊢
      rw [← this]
      simp [dsD, Nat.succ_mul]
theorem rowD_get {l : List DSt} {k : Nat} {x : DSt} (h : l[k]? = some x) (j : Nat) (hj : j < 6) : (rowD l)[k * 6 + j]? = (dsD x)[j]? := by
  obtain ⟨hk, rfl⟩ := List.getElem?_eq_some_iff.1 h
  have h := rowD_drop l k
  rw [List.drop_eq_getElem_cons hk] at h
  rw [← List.getElem?_drop, h]
  have h3 : j = 0 ∨ j = 1 ∨ j = 2 ∨ j = 3 ∨ j = 4 ∨ j = 5 := by omega
  rcases h3 with rfl | rfl | rfl | rfl | rfl | rfl <;> rfl
theorem own_manyD {w : World} {base n c : Nat} {E : TypeId} {A : Option Addr} {xs : List DSt} (h : Own w base E 6 (.slice A n c) n (rowD xs)) : Many dsD 6 w A xs := by
  intro hn
  have hl := h.length
  rw [rowD_length] at hl
  rcases h.form with ⟨_, h0, _⟩ | ⟨g, cap, e, hb, hlt, _, _, hc⟩
  · omega
  · injection e with e1
    refine ⟨g, 0, e1, hlt, fun k hk j hj => ?_⟩
    rw [Nat.zero_add, (hc _ (by rw [rowD_length]; omega)).1, rowD_get (List.getElem?_eq_getElem hk) j hj]
/-- A list of the document's streams. -/
structure LD (w : World) (A : Option Addr) (c : Nat) (l : List DSt) : Prop where
  le : l.length ≤ c
  max : c ≤ maxLen
  rows : Many dsD 6 w A l
  ty : 0 < l.length → ∃ g o cs, A = some ⟨g, o, none⟩ ∧ Blk w g 48 cs
theorem LD.fresh {w w' : World} {A : Option Addr} {c : Nat} {l : List DSt} (h : LD w A c l) (hf : Fresh w w') : LD w' A c l := ⟨h.le, h.max, h.rows.fresh hf, fun hn => by
  obtain ⟨g, o, cs, e, hb⟩ := h.ty hn
  exact ⟨g, o, cs, e, hb.fresh hf⟩⟩
theorem LD.only {S : Nat → Prop} {w w' : World} {A : Option Addr} {c : Nat} {l : List DSt} (h : LD w A c l) (ho : Only S w w') (hs : ∀ g cs, Blk w g 48 cs → ¬ S g) : LD w' A c l := ⟨h.le, h.max, fun hn => by
  obtain ⟨g, o, cs, e, hb⟩ := h.ty hn
  obtain ⟨b, o', e', hlt, hc⟩ := h.rows hn
  rw [e] at e'
  injection e' with e'
  injection e' with e1 e2
  subst e1 e2
  have := ho.size
  exact ⟨g, o, e, by omega, fun k hk j hj => (ho.cell (p := ⟨g, _, none⟩) hlt (hs g cs hb)).trans (hc k hk j hj)⟩, fun hn => by
  obtain ⟨g, o, cs, e, hb⟩ := h.ty hn
  exact ⟨g, o, cs, e, hb.only ho (hs g cs hb)⟩⟩
theorem LD.nil (w : World) : LD w none 0 [] := ⟨Nat.le_refl _, by simp [maxLen], fun h => absurd h (by simp), fun h => absurd h (by simp)⟩
theorem LD.of {w : World} {base n c : Nat} {A : Option Addr} {l : List DSt} (h : Own w base 48 6 (.slice A n c) n (rowD l)) (hn : l.length = n) : LD w A c l := by
  obtain ⟨A', c', e, g1, g2, _⟩ := h.slice
  injection e with e1 e2 e3
  refine ⟨by rw [hn, e3]; exact g1, by rw [e3]; exact g2, own_manyD h, fun h0 => ?_⟩
  obtain ⟨g, e, _, _, _, _, cur, hB⟩ := h.pos (by omega)
  exact ⟨g, 0, cur, e, hB⟩
theorem LD.at {w : World} {A : Option Addr} {c : Nat} {l : List DSt} (h : LD w A c l) {k : Nat} {d : DSt} (hx : l[k]? = some d) :
    ∃ b f, A = some ⟨b, f, none⟩ ∧ b < w.heap.size ∧ w.cell? ⟨b, f + k * 6, none⟩ = some (.int .i64 d.id) ∧ w.cell? ⟨b, f + k * 6 + 1, none⟩ = some (.int .i64 (d.o : Int)) ∧ w.cell? ⟨b, f + k * 6 + 2, none⟩ = some (.int .i64 d.x.b) ∧ w.cell? ⟨b, f + k * 6 + 3, none⟩ = some (.int .i64 d.x.w) ∧ w.cell? ⟨b, f + k * 6 + 4, none⟩ = some (.int .i64 d.x.t) ∧ w.cell? ⟨b, f + k * 6 + 5, none⟩ = some (.int .i64 d.x.r) := by
  obtain ⟨hk, rfl⟩ := List.getElem?_eq_some_iff.1 hx
  obtain ⟨b, f, e, hb, hc⟩ := h.rows (by omega)
  have g := fun j hj => hc k hk j hj
  refine ⟨b, f, e, hb, ?_, ?_, ?_, ?_, ?_, ?_⟩
  · have := g 0 (by omega); simpa [dsD] using this
  · have := g 1 (by omega); simpa [dsD] using this
  · have := g 2 (by omega); simpa [dsD] using this
  · have := g 3 (by omega); simpa [dsD] using this
  · have := g 4 (by omega); simpa [dsD] using this
  · have := g 5 (by omega); simpa [dsD] using this
theorem ds_info : (Tryd.prog.info? 48).map (fun i => (i.zero, i.size, i.bytes)) = some (some (.agg #[.int .i64 0, .int .i64 0, .int .i64 0, .int .i64 0, .int .i64 0, .int .i64 0]), 6, 48) := by kernel_rfl
/-- append(nil, l...) -/
theorem ds_more {w : World} {A : Option Addr} {c n : Nat} {xs : List DSt} (hm : Many dsD 6 w A xs) (hn : xs.length = n) (hl : n ≤ 100000) (hc : n ≤ c) :
    ∃ A' c' w', (Builtin.append_ #[31, 31] 31 #[.slice none 0 0, .slice A n c]).run Tryd.prog w = .ok (.slice A' n c') w' ∧ Own w' w.heap.size 48 6 (.slice A' n c') n (rowD xs) ∧ Fresh w w' := by
  obtain ⟨i, hi, hiz, his, hib⟩ := info_parts ds_info
  cases A with
  | none =>
    have hx : xs = [] := by
      cases xs with
      | nil => rfl
      | cons x r => obtain ⟨b, o, e, _⟩ := hm (by simp); cases e
    subst hx
    obtain rfl : n = 0 := by simpa using hn.symm
    refine ⟨none, 0, w, ?_, Own.nil _ _ _ _, Fresh.refl _⟩
    simp [Builtin.append_, run_underlying Tryd.underlying31, sizeOf, typeInfo, hi, Builtin.lenOf, Builtin.firstCells]
  | some a =>
    obtain ⟨v', w', hr, ho, hgr, _, hat⟩ := run_append_own_at (P := Tryd.prog) w w.heap.size 31 31 48 i _ 6 48 Tryd.underlying31 hi hiz his hib rfl (by omega) (.slice none 0 0) 0 [] (Own.nil _ _ _ _) a n c (rowD xs) (by rw [rowD_length, hn])
      (fun j u hj => by
        have hjl := (List.getElem?_eq_some_iff.1 hj).1
        rw [rowD_length] at hjl
        obtain ⟨b, o, e, hb, hcc⟩ := hm (by omega)
        injection e with e
        subst e
        have hk : j / 6 < xs.length := by omega
        have h1 := hcc (j / 6) hk (j % 6) (by omega)
        have h2 := rowD_get (List.getElem?_eq_getElem hk) (j % 6) (by omega)
        rw [show j / 6 * 6 + j % 6 = j by omega, hj] at h2
        rw [add_eq _ _ rfl, show o + j = o + j / 6 * 6 + j % 6 by omega, h1, ← h2]) (rowD_one xs) (by unfold maxLen; omega) (by omega) (Nat.le_refl _)
    obtain ⟨A', c', rfl, _⟩ := Own.slice (show Own w' w.heap.size _ 6 v' _ _ from ho)
    have ho' : Own w' w.heap.size 48 6 (.slice A' (0 + n) c') (0 + n) ([] ++ rowD xs) := ho
    rw [Nat.zero_add, List.nil_append] at ho'
    rw [Nat.zero_add] at hr
    exact ⟨A', c', w', hr, ho', hgr.os, hgr.tape, hgr.output, hgr.size, fun k hk => hgr.block k hk (fun e => by cases e)⟩
/-- append(out, x) -/
theorem ds_push {w : World} {base : Nat} {v : Value} {l : List DSt} (x : DSt) (n : Nat) (h : Own w base 48 6 v n (rowD l)) (hb : base ≤ w.heap.size) (hn : n ≤ 100000) :
    ∃ A' c' w', (Builtin.append_ #[31, 31] 31 #[v, .slice (some ⟨w.heap.size, 0, none⟩) 1 1]).run Tryd.prog (w.alloc (.cells #[.int .i64 x.id, .int .i64 (x.o : Int), .int .i64 x.x.b, .int .i64 x.x.w, .int .i64 x.x.t, .int .i64 x.x.r] 48)) = .ok (.slice A' (n + 1) c') w' ∧ Own w' base 48 6 (.slice A' (n + 1) c') (n + 1) (rowD (l ++ [x])) ∧ Only (fun k => v.ownBlock = some k) w w' := by
  obtain ⟨i, hi, hiz, his, hib⟩ := info_parts ds_info
  obtain ⟨v', w', hr, ho, hgr, _, hat⟩ := run_append_own_at (P := Tryd.prog) (w.alloc (.cells #[.int .i64 x.id, .int .i64 (x.o : Int), .int .i64 x.x.b, .int .i64 x.x.w, .int .i64 x.x.t, .int .i64 x.x.r] 48)) base 31 31 48 i _ 6 48 Tryd.underlying31 hi hiz his hib rfl (by omega) v n _ (h.fresh (Fresh.alloc _ _)) ⟨w.heap.size, 0, none⟩ 1 1 (dsD x) rfl
    (fun j u hj => by
      rw [add_eq _ _ rfl]
      simp only [Nat.zero_add]
      rw [(Blk.new w 48 #[.int .i64 x.id, .int .i64 (x.o : Int), .int .i64 x.x.b, .int .i64 x.x.w, .int .i64 x.x.t, .int .i64 x.x.r]).cell]
      simpa [dsD] using hj) (by
    intro u hu
    simp only [dsD, List.mem_cons, List.not_mem_nil, or_false] at hu
    rcases hu with rfl | rfl | rfl | rfl | rfl | rfl <;> rfl) (by unfold maxLen; omega) (by omega) (by simp; omega)
  obtain ⟨A', c', rfl, _⟩ := Own.slice (show Own w' base _ 6 v' _ _ from ho)
  have hO : Only (fun k => v.ownBlock = some k) (w.alloc (.cells #[.int .i64 x.id, .int .i64 (x.o : Int), .int .i64 x.x.b, .int .i64 x.x.w, .int .i64 x.x.t, .int .i64 x.x.r] 48)) w' := ⟨hgr.os, hgr.tape, hgr.output, hgr.size, fun k hk hne => hgr.block k hk (fun e => hne e.symm)⟩
  refine ⟨A', c', w', hr, ?_, (Only.of_fresh (Fresh.alloc _ _)).trans hO⟩
  have : Own w' base 48 6 (.slice A' (n + 1) c') (n + 1) _ := ho
  simpa [rowD] using this
/-- Where a stream is. -/
def fdD (l : List DSt) (id : Int) : Int := match l.findIdx? (fun d => decide (d.id = id)) with
  | some k => (k : Int)
  | none => -1
theorem fdD_some {l : List DSt} {id : Int} {k : Nat} {d : DSt} (hx : l[k]? = some d) (hd : d.id = id) (hn : ∀ (j : Nat) (d' : DSt), j < k → l[j]? = some d' → d'.id ≠ id) : fdD l id = (k : Int) := by
  unfold fdD
  have : l.findIdx? (fun d => decide (d.id = id)) = some k := by
    obtain ⟨hk, rfl⟩ := List.getElem?_eq_some_iff.1 hx
    rw [List.findIdx?_eq_some_iff_getElem]
    exact ⟨hk, decide_eq_true hd, fun j hj => by
      have := hn j _ hj (List.getElem?_eq_getElem (by omega))
      simpa using this⟩
  rw [this]
theorem fdD_none {l : List DSt} {id : Int} (hn : ∀ (j : Nat) (d' : DSt), l[j]? = some d' → d'.id ≠ id) : fdD l id = -1 := by
  unfold fdD
  have : l.findIdx? (fun d => decide (d.id = id)) = none := by
    rw [List.findIdx?_eq_none_iff]
    intro d hd
    obtain ⟨j, hj⟩ := List.getElem?_of_mem hd
    simpa using hn j d hj
  rw [this]
def IntP (z : Int) (w : World) (e : Ending) (w' : World) : Prop := e = .returned (.int .i64 z) ∧ Fresh w w'
theorem rf_find (A : Option Addr) (c : Nat) (l : List DSt) (id : Int) (w : World) (h : LD w A c l) (hl : l.length ≤ 1000000) :
    Calls Tryd.prog 12 #[.slice A l.length c, .int .i64 id] w (IntP (fdD l id) w) := by
  have H := Lib.hid h
  obtain ⟨n, hn⟩ : ∃ n, l.length = n := ⟨_, rfl⟩
  have HN := Lib.hid hn
  have HFIN : Hid (∀ z W, fdD l id = z → Fresh w W → IntP (fdD l id) w (.returned (.int .i64 z)) W) := Lib.hid (fun z W hz hf => ⟨by rw [hz], hf⟩)
  rw [hn] at hl ⊢
  clear h hn
  generalize hPP : IntP (fdD l id) w = PP at *
  clear hPP
  go_enter Tryd.func12, Tryd.ntmps12
  go_wp2
  go_loopw [5] (fun iv wr => ∃ k : Nat, k ≤ n ∧ iv = .int .i64 (k : Int) ∧ (∀ (j : Nat) (d' : DSt), j < k → l[j]? = some d' → d'.id ≠ id) ∧ Fresh w wr) (fun iv _ => n - (intOf iv).toNat)
  case atStart => exact ⟨0, by omega, rfl, fun j d' h => by omega, Fresh.refl _⟩
  case round =>
    obtain ⟨k, hk, rfl, hno, hf⟩ := hrel
    have HNO := Lib.hid hno
    have HF := Lib.hid hf
    clear hno
    by_cases hlt : k < n
    · have hlt' : (k : Int) < (n : Int) := by omega
      obtain ⟨d, hx⟩ : ∃ d, l[k]? = some d := ⟨_, List.getElem?_eq_getElem (by rw [HN.out]; exact hlt)⟩
      obtain ⟨b, f, rfl, hb, y0, y1, y2, y3, y4, y5⟩ := H.out.at hx
      have e0 := (hf.cell (p := ⟨b, f + k * 6, none⟩) hb).trans y0
      clear y0 y1 y2 y3 y4 y5 hb hf
      by_cases hd : d.id = id
      · have HX := Lib.hid (HFIN.out (k : Int) wr (fdD_some hx hd HNO.out) HF.out)
        have hdd : (d.id == id) = true := by simpa using hd
        clear hx
        generalize d.id = di at *
        go_wp2
        exact HX.out
      · have hdd : (d.id == id) = false := by simpa using hd
        have HNO2 : Hid (∀ (j : Nat) (d' : DSt), j < k + 1 → l[j]? = some d' → d'.id ≠ id) := Lib.hid (fun j d' hj hx' => by
          by_cases e : j = k
          · subst e
            rw [hx] at hx'
            injection hx' with hx'
            rw [← hx']; exact hd
          · exact HNO.out j d' (by omega) hx')
        clear hx
        generalize d.id = di at *
        go_wp2
        go_roundw
        case rel => exact ⟨k + 1, by omega, by go_num, HNO2.out, HF.out⟩
        case measure => simp [intOf]; omega
    · obtain rfl : k = n := by omega
      have hnk : ¬ (k : Int) < (k : Int) := by omega
      have HX := Lib.hid (HFIN.out (-1) wr (fdD_none (fun j d' hj => HNO.out j d' (by have := (List.getElem?_eq_some_iff.1 hj).1; rw [HN.out] at this; exact this) hj)) HF.out)
      go_wp2
      exact HX.out
end Go.Proofs.YtjediikcfhdgiaaDoor

