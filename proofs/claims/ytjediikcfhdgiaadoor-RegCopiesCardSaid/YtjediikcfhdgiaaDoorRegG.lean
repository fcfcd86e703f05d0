/-
  The laws of layer 14: same.
-/
import Derived.Test.YtjediikcfhdgiaaDoorRegF
namespace Go.Proofs.YtjediikcfhdgiaaDoor
set_option maxRecDepth 100000
set_option linter.unusedVariables false
set_option linter.unusedSimpArgs false
open Go.RowKit Go.Maps Go.Sort Go.Shelf
attribute [local go_sem] Oper.semAt_some
theorem blk_ownR {β : Type} (B g : Nat) (t : TypeId) (cs : Array Value) : OwnFrom B (fun (_ : β) W => Blk W g t cs) := fun s X Y row hs hg hr => by
  refine (hg.block g (Blk.lt hs) (fun e => ?_)).trans hs
  obtain ⟨_, o, ho, hc⟩ := hr g e.symm
  rw [show X.heap[g]? = _ from hs] at ho
  cases ho
  cases hc
theorem onlyT_ownR {β : Type} {T : Nat → Prop} {w : World} {B : Nat} (hB : w.heap.size ≤ B) : OwnFrom B (fun (_ : β) W => Only T w W) := fun s X Y row hs hg hr =>
  ⟨hg.os.trans hs.os, hg.tape.trans hs.tape, hg.output.trans hs.output, Nat.le_trans hs.size hg.size, fun k hk hne => (hg.block k (by have := hs.size; omega) (fun e => by have := (hr k e.symm).1; omega)).trans (hs.block k hk hne)⟩
theorem live_ownR {β : Type} (B lb n : Nat) (L : Nat → Int) : OwnFrom B (fun (_ : β) W => LiveAt W lb n L) := fun s X Y row hs hg hr => by
  obtain ⟨cs, h1, h2, h3⟩ := hs
  exact ⟨cs, h1, blk_ownR (β := Unit) B lb _ cs () X Y row h2 hg hr, h3⟩
/-- The iterator's answers are not the list's. -/
def BadE (n : Nat) (X pre : List StD) : Prop := ∃ ini s t, pre = ini ++ [s] ∧ X[ini.length]? = some t ∧ entV n s ≠ entV n t
theorem bad_not {n : Nat} {X pre : List StD} (h : BadE n X pre) (hp : ∃ k, k ≤ X.length ∧ pre = X.take k) : False := by
  obtain ⟨ini, s, t, rfl, ht, hne⟩ := h
  obtain ⟨k, hk, e⟩ := hp
  have h1 : (ini ++ [s])[ini.length]? = some s := by simp
  rw [e, List.getElem?_take] at h1
  split at h1
  · rw [ht] at h1
    injection h1 with h1
    exact hne (by rw [h1])
  · cases h1
theorem cnt_take {n : Nat} {X : List StD} {k : Nat} {s : StD} (hx : X[k]? = some s) : cntX n (X.take (k + 1)) = upI (cntX n (X.take k)) (ownI n s.id) (cntX n (X.take k) (ownI n s.id) + 1) := by
  obtain ⟨hk, rfl⟩ := List.getElem?_eq_some_iff.1 hx
  rw [List.take_succ_eq_append_getElem hk, cnt_push]
def SmP (w : World) (e : Ending) (w' : World) : Prop := e = .returned (.bool true) ∧ Fresh w w'
set_option maxHeartbeats 12800000 in
theorem l14_same {w : World} {base g mb lb n : Nat} {q last : Int} {N : Nat} {K : Int} {X : List StD} (h : RegX w base g mb lb n q last N K X) (hn1 : 1 ≤ n) (hn2 : n ≤ 64) (hXl : X.length ≤ 1000) (A : Option Addr) (c : Nat) (hL : LD w A c (docL n X)) (hq : ∀ o, cntX n X o ≤ q) (hq2 : q ≤ 65536) (zA : Option Addr) (zn zc : Nat) :
    Calls Tryd.prog 11 #[.pointer (some ⟨g, 0, none⟩), .slice A X.length c, .int .i64 last, .agg #[.int .i64 (n : Int), .int .i64 q, .slice zA zn zc]] w (SmP w) := by
  have HFIN : Hid (∀ W, Fresh w W → SmP w (.returned (.bool true)) W) := Lib.hid (fun W hf => ⟨rfl, hf⟩)
  have HX := Lib.hid h
  have HL := Lib.hid hL
  have HQ := Lib.hid hq
  have hal := h.alive
  have HBK : Hid (∀ k, blkX g mb lb X k → k < w.heap.size) := Lib.hid (fun k hk => by
    rcases hk with rfl | rfl | rfl | ⟨s, hs, rfl⟩
    · exact hal.1
    · exact hal.2.1
    · exact hal.2.2.1
    · exact hal.2.2.2 s hs)
  have HALL := Lib.hid (fun W => rg_all g W)
  obtain ⟨m, hm⟩ : ∃ m, X.length = m := ⟨_, rfl⟩
  have HM := Lib.hid hm
  rw [hm] at hXl ⊢
  have hle := hL.le
  rw [show (docL n X).length = m by unfold docL; rw [List.length_map]; exact hm] at hle
  have hmx := hL.max
  unfold maxLen at hmx
  obtain ⟨iT, hiT, hizT, hisT, hibT⟩ := info_parts rint_info
  have HMK : Hid (∀ W, (Instr.makeSlice 65 (.int .i64 (n : Int)) (.int .i64 (n : Int))).run Tryd.prog W = .ok (.slice (some ⟨W.heap.size, 0, none⟩) n n) (W.alloc (.cells (madeCells #[.int .i64 0] n) 3))) := Lib.hid (fun W => by
    have := run_make_rowN (P := Tryd.prog) 65 3 iT _ Tryd.underlying65 hiT hizT .i64 .i64 n n (Nat.le_refl _) (by rw [hibT]; omega) (by omega) W
    rw [hisT, Nat.mul_one] at this
    exact this)
  clear h hL hq hal hm hiT hizT hisT hibT
  generalize SmP w = PP at *
  refine (callsIn_wide (n := 10)).1 ?_
  refine callsIn_of_wp_marks Tryd.func11 rfl trivial ?_ rfl
  simp only [Tryd.ntmps11, List.size_toArray, List.length_cons, List.length_nil, Nat.reduceAdd, Nat.reduceSub, Array.replicate_succ, Array.replicate_zero, List.push_toArray, List.append_toArray, List.nil_append, List.cons_append]
  refine wpIn_wide.2 ?_
  obtain ⟨b5, hb5⟩ : ∃ b5, w.heap.size = b5 := ⟨_, rfl⟩
  have HB5 := Lib.hid hb5
  have hmk := HMK.out
  go_upto_region 3 with fail
  obtain ⟨b7, hb7⟩ : ∃ x, b5 + 1 = x := ⟨_, rfl⟩
  obtain ⟨b8, hb8⟩ : ∃ x, b7 + 1 = x := ⟨_, rfl⟩
  obtain ⟨b9, hb9⟩ : ∃ x, b8 + 1 = x := ⟨_, rfl⟩
  obtain ⟨bs, hbs⟩ : ∃ x, b9 + 1 = x := ⟨_, rfl⟩
  obtain ⟨b10, hb10⟩ : ∃ x, bs + 1 = x := ⟨_, rfl⟩
  have HNB : Hid (w.heap.size = b5 ∧ b5 + 1 = b7 ∧ b7 + 1 = b8 ∧ b8 + 1 = b9 ∧ b9 + 1 = bs ∧ bs + 1 = b10) := Lib.hid ⟨hb5, hb7, hb8, hb9, hbs, hb10⟩
  refine wp_gen (fun W => Fresh w W ∧ Blk W b5 31 #[.slice A m c] ∧ Blk W b7 24 #[.int .i64 (n : Int), .int .i64 q, .slice zA zn zc] ∧ Blk W b8 4 #[.bool false] ∧ Blk W b9 3 #[.int .i64 0] ∧ LiveAt W bs n (fun _ => 0) ∧ Blk W b10 65 #[.slice (some ⟨bs, 0, none⟩) n n]) ?_ ?_
  · refine ⟨(((((Fresh.alloc _ _).allocS _).allocS _).allocS _).allocS _).allocS _, ((((((Blk.mkAt hb5).alloc _).alloc _).alloc _).alloc _).alloc _), ?_, ?_, ?_, ?_, ?_⟩
    · exact ((((Blk.mkAt (by simp; omega)).alloc _).alloc _).alloc _).alloc _
    · exact (((Blk.mkAt (by simp; omega)).alloc _).alloc _).alloc _
    · exact ((Blk.mkAt (by simp; omega)).alloc _).alloc _
    · have := LiveAt.made ((((w.alloc (.cells #[.slice A m c] 31)).alloc (.cells #[.int .i64 (n : Int), .int .i64 q, .slice zA zn zc] 24)).alloc (.cells #[.bool false] 4)).alloc (.cells #[.int .i64 0] 3)) n
      have e : ((((w.alloc (.cells #[.slice A m c] 31)).alloc (.cells #[.int .i64 (n : Int), .int .i64 q, .slice zA zn zc] 24)).alloc (.cells #[.bool false] 4)).alloc (.cells #[.int .i64 0] 3)).heap.size = bs := by simp; omega
      rw [e] at this
      exact this.only (S := fun _ => False) (Only.of_fresh (Fresh.alloc _ _)) id
    · rw [← hbs, ← hb9, ← hb8, ← hb7]
      refine Blk.mkAt ?_
      simp only [World.size_alloc]
      omega
  rw [hb7, hb8, hb9, hbs, hb10]
  rintro W1 ⟨hf1, h5, h7, h8, h9, hlv, h10⟩
  have HF1 := Lib.hid hf1
  have H1 := Lib.hid (And.intro h5 (And.intro h7 (And.intro h8 (And.intro h9 (And.intro hlv h10)))))
  clear hf1 h5 h7 h8 h9 hlv h10 hb5 hb7 hb8 hb9 hbs hb10 hmk
  go_wp2_with fail
  with_reducible refine (HALL.out _).mono ?_
  rintro e w2 ⟨bq, hbq, rfl, hqb, hf2⟩
  have HF2 := Lib.hid (HF1.out.trans hf2)
  have HBQ := Lib.hid (And.intro hbq hqb)
  obtain ⟨h5, h7, h8, h9, hlv, h10⟩ := H1.out
  have H2 : Hid (Blk w2 b5 31 #[.slice A m c] ∧ Blk w2 b7 24 #[.int .i64 (n : Int), .int .i64 q, .slice zA zn zc] ∧ Blk w2 b8 4 #[.bool false] ∧ Blk w2 b9 3 #[.int .i64 0] ∧ LiveAt w2 bs n (fun _ => 0) ∧ Blk w2 b10 65 #[.slice (some ⟨bs, 0, none⟩) n n]) := Lib.hid ⟨h5.fresh hf2, h7.fresh hf2, h8.fresh hf2, h9.fresh hf2, hlv.only (S := fun _ => False) (Only.of_fresh hf2) id, h10.fresh hf2⟩
  have HQL := Lib.hid (show b10 < W1.heap.size from h10.lt)
  clear hbq hqb hf2 h5 h7 h8 h9 hlv h10 H1 HF1
  go_wp2_with fail
  refine (wpIn_wide (n := 10)).1 ?_
  have HX2 := Lib.hid (HX.out.fresh HF2.out)
  have hTw : ∀ k, (k = b8 ∨ k = b9 ∨ k = bs) → k < w2.heap.size ∧ w.heap.size ≤ k := fun k hk => by
    have := HQL.out; have := HBQ.out.1; have := HBQ.out.2.lt; have := HNB.out
    rcases hk with e | e | e <;> omega
  have HTW := Lib.hid hTw
  refine wpIn_rangeFunc_T rfl (by omega) (gf := 40) (lb := #[.pointer (some ⟨bq, 0, none⟩)]) rfl trivial (enters_of Tryd.func40 (by kernel_rfl) rfl)
    (T := fun k => k = b8 ∨ k = b9 ∨ k = bs)
    (rg_all1 9 (by omega) HX2.out hn1 hn2 (by rw [HM.out]; omega) bq HBQ.out.2 (fun k => k = b8 ∨ k = b9 ∨ k = bs) (fun k hk e => by have := HBK.out k hk; have := (hTw k e).2; omega) (fun e => by have := HQL.out; have := HBQ.out.1; have := HNB.out; omega) (fun k e => (hTw k e).1))
    (fun k e => (hTw k e).1) (fun _ => rfl)
    (fun pre W => Only (fun k => k = b8 ∨ k = b9 ∨ k = bs) w2 W ∧ Blk W b8 4 #[.bool false] ∧ Blk W b9 3 #[.int .i64 (pre.length : Int)] ∧ LiveAt W bs n (cntX n (X.take pre.length)))
    (fun cc pre W => cc = .ret ∧ BadE n X pre)
    (fun s X' Y row hs hg hr => ⟨onlyT_ownR (β := Unit) (Nat.le_refl _) () X' Y row hs.1 hg hr, blk_ownR (β := Unit) _ _ _ _ () X' Y row hs.2.1 hg hr, blk_ownR (β := Unit) _ _ _ _ () X' Y row hs.2.2.1 hg hr, live_ownR (β := Unit) _ _ _ _ () X' Y row hs.2.2.2 hg hr⟩)
    (fun cc s X' Y row hs hg hr => hs)
    ⟨Only.refl _ _, H2.out.2.2.1, H2.out.2.2.2.1, H2.out.2.2.2.2.1⟩
    (fun x a' W => ∃ Bx, w2.heap.size ≤ Bx ∧ Blk W Bx 41 #[.int .i64 x.id, .int .i64 (ownI n x.id : Int), .int .i64 x.a] ∧ a' = { tmps := #[.pointer (some ⟨g, 0, none⟩), .slice A m c, .int .i64 last, .agg #[.int .i64 (n : Int), .int .i64 q, .slice zA zn zc], undef, .pointer (some ⟨b5, 0, none⟩), undef, .pointer (some ⟨b7, 0, none⟩), .pointer (some ⟨b8, 0, none⟩), .pointer (some ⟨b9, 0, none⟩), .pointer (some ⟨b10, 0, none⟩), .pointer (some ⟨Bx, 0, none⟩), undef, .pointer (some ⟨b7, 0, none⟩), .int .i64 (n : Int), .slice (some ⟨bs, 0, none⟩) n n, .pointer (some ⟨g, 0, none⟩), .func (.func 40) #[] #[.pointer (some ⟨bq, 0, none⟩)], entV n x, undef, undef, undef, undef, undef, undef, undef, undef, undef, undef, undef, undef, undef, undef, undef, undef, undef, undef, undef, undef, undef, undef, undef, undef, undef, undef, undef, undef, undef, undef, undef, undef, undef, undef, undef, undef, undef, undef, undef, undef, undef, undef, undef, undef, undef, undef, undef, undef, undef, undef, undef, undef, undef, undef, undef, undef, undef, undef, undef, undef, undef, undef, undef, undef, undef, undef, undef, undef, undef, undef], defers := [] })
    (fun x a' s X' Y row hs hg hr => by
      obtain ⟨Bx, h1, h2, h3⟩ := hs
      exact ⟨Bx, h1, blk_ownR (β := Unit) _ _ _ _ () X' Y row h2 hg hr, h3⟩)
    ?assign ?body ?done ?stop
  case assign =>
    rintro l2 pre x W K ⟨hO, e8, e9, el⟩ hK
    have hsz := hO.size
    have HII := Lib.hid (And.intro hO (And.intro e8 (And.intro e9 el)))
    clear hO e8 e9 el
    dsimp only [encE, entV]
    gi_wp2
    obtain ⟨g1, g2, g3, g4⟩ := HII.out
    exact hK _ _ (Only.of_fresh (Fresh.alloc _ _)) ⟨g1.allocS _, g2.alloc _, g3.alloc _, g4.only (S := fun _ => False) (Only.of_fresh (Fresh.alloc _ _)) id⟩ ⟨W.heap.size, hsz, Blk.new _ _ _, rfl⟩
  case body =>
    rintro l2 pre x a' W ⟨hO, e8, e9, el⟩ ⟨Bx, hBx, hbx, rfl⟩ hlen
    obtain ⟨k, hk⟩ : ∃ k, pre.length = k := ⟨_, rfl⟩
    have HKK := Lib.hid hk
    rw [hk] at e9 el hlen
    rw [HM.out] at hlen
    obtain ⟨s, hx⟩ : ∃ s, X[k]? = some s := ⟨_, List.getElem?_eq_getElem (by rw [HM.out]; exact hlen)⟩
    obtain ⟨csl, hcz, hcb, hci⟩ := el
    have hLD := (HL.out.fresh HF2.out).only hO (fun q' cs hg e => by
      rcases e with e | e | e
      · exact hg.ne H2.out.2.2.1 (by decide) e
      · exact hg.ne H2.out.2.2.2.1 (by decide) e
      · obtain ⟨cs2, _, hb2, _⟩ := H2.out.2.2.2.2.1
        exact hg.ne hb2 (by decide) e)
    obtain ⟨db, df, hA, hdb, y0, y1, y2, y3, y4, y5⟩ := hLD.at (k := k) (d := docS n s) (by unfold docL; rw [List.getElem?_map, hx]; rfl)
    have hst := HX2.out.st s (List.mem_of_getElem? hx)
    obtain ⟨tt, hid, ht0, ht1, _⟩ := HX2.out.ids s (List.mem_of_getElem? hx)
    have hten := ten_lt (n := n) tt hn1
    have how : ownI n s.id = tenI n tt := by rw [hid, own_ten]
    have hon : ownI n s.id < n := by rw [how]; exact hten.1
    simp only [docS] at y0 y1 y2 y3 y4 y5
    subst hA
    have HEN := Lib.hid (fun W => l14_entry n s W hst.1 hst.2)
    have h5 := H2.out.1.only hO (fun e => by have := HNB.out; omega)
    have h10 := H2.out.2.2.2.2.2.only hO (fun e => by have := HNB.out; omega)
    have HSK : Hid (∀ w', Fresh W w' → (w'.cell? ⟨b9, 0, none⟩ = some (.int .i64 (k : Int)) ∧ w'.cell? ⟨b5, 0, none⟩ = some (.slice (some ⟨db, df, none⟩) m c) ∧ w'.cell? ⟨b10, 0, none⟩ = some (.slice (some ⟨bs, 0, none⟩) n n) ∧ w'.cell? ⟨Bx, 0, none⟩ = some (.int .i64 x.id) ∧ w'.cell? ⟨Bx, 1, none⟩ = some (.int .i64 (ownI n x.id : Int)) ∧ w'.cell? ⟨Bx, 2, none⟩ = some (.int .i64 x.a) ∧ w'.cell? ⟨db, df + k * 6, none⟩ = some (.int .i64 s.id) ∧ w'.cell? ⟨db, df + k * 6 + 1, none⟩ = some (.int .i64 (ownI n s.id : Int)) ∧ w'.cell? ⟨db, df + k * 6 + 2, none⟩ = some (.int .i64 (stX s.a).b) ∧ w'.cell? ⟨db, df + k * 6 + 3, none⟩ = some (.int .i64 (stX s.a).w) ∧ w'.cell? ⟨db, df + k * 6 + 4, none⟩ = some (.int .i64 (stX s.a).t) ∧ w'.cell? ⟨db, df + k * 6 + 5, none⟩ = some (.int .i64 (stX s.a).r)) ∧ Fresh W w') := Lib.hid (fun w' hf => ⟨⟨(e9.fresh hf).cell 0, (h5.fresh hf).cell 0, (h10.fresh hf).cell 0, (hbx.fresh hf).cell 0, (hbx.fresh hf).cell 1, (hbx.fresh hf).cell 2, (hf.cell (p := ⟨db, df + k * 6, none⟩) hdb).trans y0, (hf.cell (p := ⟨db, df + k * 6 + 1, none⟩) hdb).trans y1, (hf.cell (p := ⟨db, df + k * 6 + 2, none⟩) hdb).trans y2, (hf.cell (p := ⟨db, df + k * 6 + 3, none⟩) hdb).trans y3, (hf.cell (p := ⟨db, df + k * 6 + 4, none⟩) hdb).trans y4, (hf.cell (p := ⟨db, df + k * 6 + 5, none⟩) hdb).trans y5⟩, hf⟩)
    have HLV : Hid (LiveAt W bs n (cntX n (X.take k))) := Lib.hid ⟨csl, hcz, hcb, hci⟩
    have HI := Lib.hid (And.intro hO (And.intro e8 e9))
    have HXK := Lib.hid hx
    have hdbs : db ≠ bs := by
      obtain ⟨gg, oo, cs, e, hbb⟩ := hLD.ty (by unfold docL; rw [List.length_map, HM.out]; omega)
      injection e with e
      injection e with e1 e2
      subst e1
      exact hbb.ne hcb (by decide)
    have hz := cnt_le n (X.take k) (ownI n s.id)
    have hz2 : ((X.take k).length : Int) ≤ 1000 := by rw [List.length_take]; omega
    clear hO e8 e9 hcz hcb hci hbx hLD y0 y1 y2 y3 y4 y5 hdb hst hid ht0 ht1 hten how h5 h10 hx hk
    have hge : decide ((m : Int) ≤ (k : Int)) = false := decide_eq_false (by omega)
    have hge2 : decide (m ≤ k) = false := decide_eq_false (by omega)
    have hkn0 : (k : Int) < (m : Int) := by omega
    have hadd : (0 : Int) ≤ (k : Int) := by omega
    unfold entV at HEN
    by_cases hgood : x.id = s.id ∧ x.a = s.a
    · obtain ⟨g1, g2⟩ := hgood
      rw [g1, g2] at HSK
      have HG := Lib.hid (And.intro g1 g2)
      clear g1 g2
      gi_wp2
      refine rnd_held (S := (fun w' => (w'.cell? ⟨b9, 0, none⟩ = some (.int .i64 (k : Int)) ∧ w'.cell? ⟨b5, 0, none⟩ = some (.slice (some ⟨db, df, none⟩) m c) ∧ w'.cell? ⟨b10, 0, none⟩ = some (.slice (some ⟨bs, 0, none⟩) n n) ∧ w'.cell? ⟨Bx, 0, none⟩ = some (.int .i64 s.id) ∧ w'.cell? ⟨Bx, 1, none⟩ = some (.int .i64 (ownI n s.id : Int)) ∧ w'.cell? ⟨Bx, 2, none⟩ = some (.int .i64 s.a) ∧ w'.cell? ⟨db, df + k * 6, none⟩ = some (.int .i64 s.id) ∧ w'.cell? ⟨db, df + k * 6 + 1, none⟩ = some (.int .i64 (ownI n s.id : Int)) ∧ w'.cell? ⟨db, df + k * 6 + 2, none⟩ = some (.int .i64 (stX s.a).b) ∧ w'.cell? ⟨db, df + k * 6 + 3, none⟩ = some (.int .i64 (stX s.a).w) ∧ w'.cell? ⟨db, df + k * 6 + 4, none⟩ = some (.int .i64 (stX s.a).t) ∧ w'.cell? ⟨db, df + k * 6 + 5, none⟩ = some (.int .i64 (stX s.a).r)) ∧ Fresh W w')) (by kernel_rfl) (by kernel_rfl) (by rintro ⟨_, _, h⟩; exact h) (HSK.out _ (Fresh.drew _)) (fun hHeld => ?_)
      refine wpAnyH_take (i := 0) (v := ?_) rfl (by kernel_rfl) (by kernel_rfl) (by kernel_rfl) (fun _ _ _ h => h) (Or.inl ⟨by rfl, ?_⟩) (by assumption) ?_; rotate_left; focus (intro w hSw; (try dsimp only at hSw); go_simp; (try with_reducible rfl); done)
      (try simp only [Act.put, List.getElem_toArray, List.getElem_cons_zero, List.getElem_cons_succ, List.setIfInBounds_toArray, List.set_cons_zero, List.set_cons_succ])
      refine wpAnyH_take (i := 1) (v := ?_) rfl (by kernel_rfl) (by kernel_rfl) (by kernel_rfl) (fun _ _ _ h => h) (Or.inl ⟨by rfl, ?_⟩) (by assumption) ?_; rotate_left; focus (intro w hSw; (try dsimp only at hSw); go_simp; (try with_reducible rfl); done)
      (try simp only [Act.put, List.getElem_toArray, List.getElem_cons_zero, List.getElem_cons_succ, List.setIfInBounds_toArray, List.set_cons_zero, List.set_cons_succ])
      refine wpAnyH_take (i := 2) (v := ?_) rfl (by kernel_rfl) (by kernel_rfl) (by kernel_rfl) (fun _ _ _ h => h) (Or.inl ⟨by rfl, ?_⟩) (by assumption) ?_; rotate_left; focus (intro w hSw; (try dsimp only at hSw); go_simp; (try with_reducible rfl); done)
      (try simp only [Act.put, List.getElem_toArray, List.getElem_cons_zero, List.getElem_cons_succ, List.setIfInBounds_toArray, List.set_cons_zero, List.set_cons_succ])
      refine wpAnyH_take (i := 3) (v := ?_) rfl (by kernel_rfl) (by kernel_rfl) (by kernel_rfl) (fun _ _ _ h => h) (Or.inl ⟨by rfl, ?_⟩) (by assumption) ?_; rotate_left; focus (intro w hSw; (try dsimp only at hSw); go_simp; (try with_reducible rfl); done)
      (try simp only [Act.put, List.getElem_toArray, List.getElem_cons_zero, List.getElem_cons_succ, List.setIfInBounds_toArray, List.set_cons_zero, List.set_cons_succ])
      refine wpAnyH_take (i := 4) (v := ?_) rfl (by kernel_rfl) (by kernel_rfl) (by kernel_rfl) (fun _ _ _ h => h) (Or.inl ⟨by rfl, ?_⟩) (by assumption) ?_; rotate_left; focus (intro w hSw; (try dsimp only at hSw); go_simp; (try with_reducible rfl); done)
      (try simp only [Act.put, List.getElem_toArray, List.getElem_cons_zero, List.getElem_cons_succ, List.setIfInBounds_toArray, List.set_cons_zero, List.set_cons_succ])
      refine wpAnyH_take (i := 5) (v := ?_) rfl (by kernel_rfl) (by kernel_rfl) (by kernel_rfl) (fun _ _ _ h => h) (Or.inl ⟨by rfl, ?_⟩) (by assumption) ?_; rotate_left; focus (intro w hSw; (try dsimp only at hSw); go_simp; (try with_reducible rfl); done)
      (try simp only [Act.put, List.getElem_toArray, List.getElem_cons_zero, List.getElem_cons_succ, List.setIfInBounds_toArray, List.set_cons_zero, List.set_cons_succ])
      refine wpAnyH_take (i := 6) (v := ?_) rfl (by kernel_rfl) (by kernel_rfl) (by kernel_rfl) (fun _ _ _ h => h) (Or.inl ⟨by rfl, ?_⟩) (by assumption) ?_; rotate_left; focus (intro w hSw; (try dsimp only at hSw); go_simp; (try with_reducible rfl); done)
      (try simp only [Act.put, List.getElem_toArray, List.getElem_cons_zero, List.getElem_cons_succ, List.setIfInBounds_toArray, List.set_cons_zero, List.set_cons_succ])
      refine wpAnyH_take (i := 7) (v := ?_) rfl (by kernel_rfl) (by kernel_rfl) (by kernel_rfl) (fun _ _ _ h => h) (Or.inl ⟨by rfl, ?_⟩) (by assumption) ?_; rotate_left; focus (intro w hSw; (try dsimp only at hSw); go_simp; (try with_reducible rfl); done)
      (try simp only [Act.put, List.getElem_toArray, List.getElem_cons_zero, List.getElem_cons_succ, List.setIfInBounds_toArray, List.set_cons_zero, List.set_cons_succ])
      refine wpAnyH_take (i := 8) (v := ?_) rfl (by kernel_rfl) (by kernel_rfl) (by kernel_rfl) (fun _ _ _ h => h) (Or.inl ⟨by rfl, ?_⟩) (by assumption) ?_; rotate_left; focus (intro w hSw; (try dsimp only at hSw); go_simp; (try with_reducible rfl); done)
      (try simp only [Act.put, List.getElem_toArray, List.getElem_cons_zero, List.getElem_cons_succ, List.setIfInBounds_toArray, List.set_cons_zero, List.set_cons_succ])
      refine wpAnyH_take (i := 9) (v := ?_) rfl (by kernel_rfl) (by kernel_rfl) (by kernel_rfl) (fun _ _ _ h => h) (Or.inl ⟨by rfl, ?_⟩) (by assumption) ?_; rotate_left; focus (intro w hSw; (try dsimp only at hSw); go_simp; (try with_reducible rfl); done)
      (try simp only [Act.put, List.getElem_toArray, List.getElem_cons_zero, List.getElem_cons_succ, List.setIfInBounds_toArray, List.set_cons_zero, List.set_cons_succ])
      refine wpAnyH_ready (rs := [10]) (by kernel_rfl) (by simp) ?_
      refine AllReadyH.cons rfl (fun K hK => ?_) AllReadyH.nil
      (go_simp; go_at_call 14; (with_reducible refine (HEN.out _).mono ?_); rintro e wa ⟨rfl, hwa⟩; have hga : Fresh W wa := (Fresh.drew W).trans hwa)
      refine hK.out _ _ (HSK.out _ hga) (fun hHeld => ?_)
      clear hK K
      (try simp only [Act.put, List.getElem_toArray, List.getElem_cons_zero, List.getElem_cons_succ, List.setIfInBounds_toArray, List.set_cons_zero, List.set_cons_succ])
      refine wpAnyH_take (i := 11) (v := ?_) rfl (by kernel_rfl) (by kernel_rfl) (by kernel_rfl) (fun _ _ _ h => h) (Or.inl ⟨by rfl, ?_⟩) (by assumption) ?_; rotate_left; focus (intro w hSw; (try dsimp only at hSw); go_simp; (try with_reducible rfl); done)
      (try simp only [Act.put, List.getElem_toArray, List.getElem_cons_zero, List.getElem_cons_succ, List.setIfInBounds_toArray, List.set_cons_zero, List.set_cons_succ])
      refine wpAnyH_take (i := 12) (v := ?_) rfl (by kernel_rfl) (by kernel_rfl) (by kernel_rfl) (fun _ _ _ h => h) (Or.inl ⟨by rfl, ?_⟩) (by assumption) ?_; rotate_left; focus (intro w hSw; (try dsimp only at hSw); go_simp; (try with_reducible rfl); done)
      (try simp only [Act.put, List.getElem_toArray, List.getElem_cons_zero, List.getElem_cons_succ, List.setIfInBounds_toArray, List.set_cons_zero, List.set_cons_succ])
      refine wpAnyH_done (by kernel_rfl) ?_ _
      all_goals
        refine wx_gen (fun W2 => Fresh W W2) hga ?_
        rintro W2 hw2
        have HW2 := Lib.hid hw2
        obtain ⟨⟨k0, k1, k2, _, _, _, k6, k7, _⟩, _⟩ := HSK.out W2 hw2
        have HSL : Hid (∀ w', Only (fun q' => q' = bs) W2 w' → w'.cell? ⟨b9, 0, none⟩ = some (.int .i64 (k : Int)) ∧ w'.cell? ⟨b5, 0, none⟩ = some (.slice (some ⟨db, df, none⟩) m c) ∧ w'.cell? ⟨b10, 0, none⟩ = some (.slice (some ⟨bs, 0, none⟩) n n) ∧ w'.cell? ⟨db, df + k * 6 + 1, none⟩ = some (.int .i64 (ownI n s.id : Int))) := Lib.hid (fun w' ho => ⟨(ho.cell (p := ⟨b9, 0, none⟩) (cell_block_lt k0) (by have := HNB.out; show ¬ b9 = bs; omega)).trans k0, (ho.cell (p := ⟨b5, 0, none⟩) (cell_block_lt k1) (by have := HNB.out; show ¬ b5 = bs; omega)).trans k1, (ho.cell (p := ⟨b10, 0, none⟩) (cell_block_lt k2) (by have := HNB.out; show ¬ b10 = bs; omega)).trans k2, (ho.cell (p := ⟨db, df + k * 6 + 1, none⟩) (cell_block_lt k7) hdbs).trans k7⟩)
        have hlv := HLV.out.only (S := fun _ => False) (Only.of_fresh (hw2.trans (Fresh.drew W2))) id
        obtain ⟨v0, v1⟩ := hlv.at hon
        have HLV2 := Lib.hid hlv
        clear hw2 HSK hlv
        gi_wp2
        obtain ⟨o, hoo⟩ : ∃ o, ownI n s.id = o := ⟨_, rfl⟩
        have HOO := Lib.hid hoo
        rw [hoo] at HSL hon v0 v1 hz k7
        obtain ⟨z, hzz⟩ : ∃ z, cntX n (X.take k) o = z := ⟨_, rfl⟩
        have HZZ := Lib.hid hzz
        rw [hzz] at v0 hz
        have hwz : IntKind.i64.wrap (z + 1) = z + 1 := IntWalk.i64_in _ (by omega)
        have hoi : (o : Int) < (n : Int) := by omega
        have hon2 : decide (n ≤ o) = false := decide_eq_false (by omega)
        clear hoo hzz hz hz2 hn1 hn2
        refine rnd_held (S := (fun w' => w'.cell? ⟨b9, 0, none⟩ = some (.int .i64 (k : Int)) ∧ w'.cell? ⟨b5, 0, none⟩ = some (.slice (some ⟨db, df, none⟩) m c) ∧ w'.cell? ⟨b10, 0, none⟩ = some (.slice (some ⟨bs, 0, none⟩) n n) ∧ w'.cell? ⟨db, df + k * 6 + 1, none⟩ = some (.int .i64 (o : Int)))) (by kernel_rfl) (by kernel_rfl) (by rintro ⟨_, _, h⟩; exact h) (HSL.out _ (Only.of_fresh (Fresh.drew _))) (fun hHeld => ?_)
        refine wpAnyH_take (i := 0) (v := ?_) rfl (by kernel_rfl) (by kernel_rfl) (by kernel_rfl) (fun _ _ _ h => h) (Or.inl ⟨by rfl, ?_⟩) (by assumption) ?_; rotate_left; focus (intro w hSw; (try dsimp only at hSw); go_simp; (try with_reducible rfl); done)
        (try simp only [Act.put, List.getElem_toArray, List.getElem_cons_zero, List.getElem_cons_succ, List.setIfInBounds_toArray, List.set_cons_zero, List.set_cons_succ])
        refine wpAnyH_take (i := 1) (v := ?_) rfl (by kernel_rfl) (by kernel_rfl) (by kernel_rfl) (fun _ _ _ h => h) (Or.inl ⟨by rfl, ?_⟩) (by assumption) ?_; rotate_left; focus (intro w hSw; (try dsimp only at hSw); go_simp; (try with_reducible rfl); done)
        (try simp only [Act.put, List.getElem_toArray, List.getElem_cons_zero, List.getElem_cons_succ, List.setIfInBounds_toArray, List.set_cons_zero, List.set_cons_succ])
        refine wpAnyH_take (i := 2) (v := ?_) rfl (by kernel_rfl) (by kernel_rfl) (by kernel_rfl) (fun _ _ _ h => h) (Or.inl ⟨by rfl, ?_⟩) (by assumption) ?_; rotate_left; focus (intro w hSw; (try dsimp only at hSw); go_simp; (try with_reducible rfl); done)
        (try simp only [Act.put, List.getElem_toArray, List.getElem_cons_zero, List.getElem_cons_succ, List.setIfInBounds_toArray, List.set_cons_zero, List.set_cons_succ])
        refine wpAnyH_take (i := 3) (v := ?_) rfl (by kernel_rfl) (by kernel_rfl) (by kernel_rfl) (fun _ _ _ h => h) (Or.inl ⟨by rfl, ?_⟩) (by assumption) ?_; rotate_left; focus (intro w hSw; (try dsimp only at hSw); go_simp; (try with_reducible rfl); done)
        (try simp only [Act.put, List.getElem_toArray, List.getElem_cons_zero, List.getElem_cons_succ, List.setIfInBounds_toArray, List.set_cons_zero, List.set_cons_succ])
        refine wpAnyH_take (i := 4) (v := ?_) rfl (by kernel_rfl) (by kernel_rfl) (by kernel_rfl) (fun _ _ _ h => h) (Or.inl ⟨by rfl, ?_⟩) (by assumption) ?_; rotate_left; focus (intro w hSw; (try dsimp only at hSw); go_simp; (try with_reducible rfl); done)
        (try simp only [Act.put, List.getElem_toArray, List.getElem_cons_zero, List.getElem_cons_succ, List.setIfInBounds_toArray, List.set_cons_zero, List.set_cons_succ])
        refine wpAnyH_take (i := 5) (v := ?_) rfl (by kernel_rfl) (by kernel_rfl) (by kernel_rfl) (fun _ _ _ h => h) (Or.inl ⟨by rfl, ?_⟩) (by assumption) ?_; rotate_left; focus (intro w hSw; (try dsimp only at hSw); go_simp; (try with_reducible rfl); done)
        (try simp only [Act.put, List.getElem_toArray, List.getElem_cons_zero, List.getElem_cons_succ, List.setIfInBounds_toArray, List.set_cons_zero, List.set_cons_succ])
        refine wpAnyH_take (i := 6) (v := ?_) rfl (by kernel_rfl) (by kernel_rfl) (by kernel_rfl) (fun _ _ _ h => h) (Or.inl ⟨by rfl, ?_⟩) (by assumption) ?_; rotate_left; focus (intro w hSw; (try dsimp only at hSw); go_simp; (try with_reducible rfl); done)
        (try simp only [Act.put, List.getElem_toArray, List.getElem_cons_zero, List.getElem_cons_succ, List.setIfInBounds_toArray, List.set_cons_zero, List.set_cons_succ])
        refine wpAnyH_ready (rs := [7]) (by kernel_rfl) (by simp) ?_
        refine AllReadyH.cons rfl (fun K hK => ?_) AllReadyH.nil
        go_simp
        refine hK.out _ _ (HSL.out _ (Only.of_fresh (Fresh.drew _))) (fun hHeld => ?_)
        clear hK K
        (try simp only [Act.put, List.getElem_toArray, List.getElem_cons_zero, List.getElem_cons_succ, List.setIfInBounds_toArray, List.set_cons_zero, List.set_cons_succ])
        refine wpAnyH_take (i := 8) (v := ?_) rfl (by kernel_rfl) (by kernel_rfl) (by kernel_rfl) (fun _ _ _ h => h) (Or.inl ⟨by rfl, ?_⟩) (by assumption) ?_; rotate_left; focus (intro w hSw; (try dsimp only at hSw); go_simp; (try with_reducible rfl); done)
        (try simp only [Act.put, List.getElem_toArray, List.getElem_cons_zero, List.getElem_cons_succ, List.setIfInBounds_toArray, List.set_cons_zero, List.set_cons_succ])
        refine wpAnyH_take (i := 9) (v := ?_) rfl (by kernel_rfl) (by kernel_rfl) (by kernel_rfl) (fun _ _ _ h => h) (Or.inl ⟨by rfl, ?_⟩) (by assumption) ?_; rotate_left; focus (intro w hSw; (try dsimp only at hSw); go_simp; (try with_reducible rfl); done)
        (try simp only [Act.put, List.getElem_toArray, List.getElem_cons_zero, List.getElem_cons_succ, List.setIfInBounds_toArray, List.set_cons_zero, List.set_cons_succ])
        refine wpAnyH_ready (rs := [10]) (by kernel_rfl) (by simp) ?_
        refine AllReadyH.cons rfl (fun K hK => ?_) AllReadyH.nil
        go_simp
        refine hK.out _ _ (HSL.out _ (show Only (fun q' => q' = bs) W2 (W2.drew.setCell ⟨bs, o, none⟩ (.int .i64 (z + 1))) from (Only.of_fresh (Fresh.drew W2)).trans (Only.setCell W2.drew ⟨bs, o, none⟩ (.int .i64 (z + 1))))) (fun hHeld => ?_)
        clear hK K
        (try simp only [Act.put, List.getElem_toArray, List.getElem_cons_zero, List.getElem_cons_succ, List.setIfInBounds_toArray, List.set_cons_zero, List.set_cons_succ])
        refine wpAnyH_done (by kernel_rfl) ?_ _
        all_goals
          refine wx_gen (fun W3 => Only (fun q' => q' = b8 ∨ q' = b9 ∨ q' = bs) W W3 ∧ Blk W3 b8 4 #[.bool false] ∧ Blk W3 b9 3 #[.int .i64 (k : Int)] ∧ LiveAt W3 bs n (cntX n (X.take (k + 1)))) (show _ ∧ _ from ?_) ?_
          focus
            have ho : Only (fun q' => q' = bs) W2 (W2.drew.setCell ⟨bs, o, none⟩ (.int .i64 (z + 1))) := (Only.of_fresh (Fresh.drew W2)).trans (Only.setCell W2.drew ⟨bs, o, none⟩ (.int .i64 (z + 1)))
            have hlv := HLV2.out.set o (z + 1)
            rw [← HZZ.out, ← HOO.out, ← cnt_take HXK.out] at hlv
            rw [HOO.out, HZZ.out] at hlv
            exact ⟨((Only.of_fresh HW2.out).trans' ho (fun q' hq e => .inr (.inr e))), (HI.out.2.1.fresh HW2.out).only ho (by have := HNB.out; omega), (HI.out.2.2.fresh HW2.out).only ho (by have := HNB.out; omega), hlv⟩
          rintro W3 ⟨o3, q8, q9, ql⟩
          have c9 := q9.cell 0
          have z9 := q9.frozen 0
          simp at c9
          have hwk : IntKind.i64.wrap ((k : Int) + 1) = (k : Int) + 1 := IntWalk.i64_in _ (by omega)
          have HQQ := Lib.hid (And.intro o3 (And.intro q8 (And.intro q9 ql)))
          clear o3 q8 q9 ql v0 v1 k0 k1 k2 k6 k7
          gi_wp2
          obtain ⟨o3, q8, q9, ql⟩ := HQQ.out
          have hs := Only.setCell W3 ⟨b9, 0, none⟩ (.int .i64 ((k : Int) + 1))
          refine ⟨o3.trans (hs.mono (fun q' e => .inr (.inl e))), HI.out.1.trans (o3.trans (hs.mono (fun q' e => .inr (.inl e)))), q8.only hs (fun e => by have := HNB.out; have e' : b8 = b9 := e; omega), ?_, ?_⟩
          · rw [List.length_append, HKK.out]
            simpa using q9.set 0 (.int .i64 ((k : Int) + 1))
          · rw [List.length_append, HKK.out]
            exact ql.only hs (fun e => by have := HNB.out; have e' : bs = b9 := e; omega)
    · have HBAD : Hid (BadE n X (pre ++ [x])) := Lib.hid ⟨pre, x, s, rfl, by rw [HKK.out]; exact HXK.out, fun e => hgood (by
        unfold entV at e
        injection e with e
        simp only [Array.mk.injEq, List.cons.injEq, Value.int.injEq, true_and, and_true] at e
        exact ⟨e.1, e.2.2⟩)⟩
      by_cases hid : x.id = s.id
      · have hane : ¬ x.a = s.a := fun e => hgood ⟨hid, e⟩
        have ha1 : (x.a == s.a) = false := beq_eq_false_iff_ne.2 hane
        rw [hid] at HSK
        clear hid hgood
        gi_wp2
        refine rnd_held (S := (fun w' => (w'.cell? ⟨b9, 0, none⟩ = some (.int .i64 (k : Int)) ∧ w'.cell? ⟨b5, 0, none⟩ = some (.slice (some ⟨db, df, none⟩) m c) ∧ w'.cell? ⟨b10, 0, none⟩ = some (.slice (some ⟨bs, 0, none⟩) n n) ∧ w'.cell? ⟨Bx, 0, none⟩ = some (.int .i64 s.id) ∧ w'.cell? ⟨Bx, 1, none⟩ = some (.int .i64 (ownI n s.id : Int)) ∧ w'.cell? ⟨Bx, 2, none⟩ = some (.int .i64 x.a) ∧ w'.cell? ⟨db, df + k * 6, none⟩ = some (.int .i64 s.id) ∧ w'.cell? ⟨db, df + k * 6 + 1, none⟩ = some (.int .i64 (ownI n s.id : Int)) ∧ w'.cell? ⟨db, df + k * 6 + 2, none⟩ = some (.int .i64 (stX s.a).b) ∧ w'.cell? ⟨db, df + k * 6 + 3, none⟩ = some (.int .i64 (stX s.a).w) ∧ w'.cell? ⟨db, df + k * 6 + 4, none⟩ = some (.int .i64 (stX s.a).t) ∧ w'.cell? ⟨db, df + k * 6 + 5, none⟩ = some (.int .i64 (stX s.a).r)) ∧ Fresh W w')) (by kernel_rfl) (by kernel_rfl) (by rintro ⟨_, _, h⟩; exact h) (HSK.out _ (Fresh.drew _)) (fun hHeld => ?_)
        refine wpAnyH_take (i := 0) (v := ?_) rfl (by kernel_rfl) (by kernel_rfl) (by kernel_rfl) (fun _ _ _ h => h) (Or.inl ⟨by rfl, ?_⟩) (by assumption) ?_; rotate_left; focus (intro w hSw; (try dsimp only at hSw); go_simp; (try with_reducible rfl); done)
        (try simp only [Act.put, List.getElem_toArray, List.getElem_cons_zero, List.getElem_cons_succ, List.setIfInBounds_toArray, List.set_cons_zero, List.set_cons_succ])
        refine wpAnyH_take (i := 1) (v := ?_) rfl (by kernel_rfl) (by kernel_rfl) (by kernel_rfl) (fun _ _ _ h => h) (Or.inl ⟨by rfl, ?_⟩) (by assumption) ?_; rotate_left; focus (intro w hSw; (try dsimp only at hSw); go_simp; (try with_reducible rfl); done)
        (try simp only [Act.put, List.getElem_toArray, List.getElem_cons_zero, List.getElem_cons_succ, List.setIfInBounds_toArray, List.set_cons_zero, List.set_cons_succ])
        refine wpAnyH_take (i := 2) (v := ?_) rfl (by kernel_rfl) (by kernel_rfl) (by kernel_rfl) (fun _ _ _ h => h) (Or.inl ⟨by rfl, ?_⟩) (by assumption) ?_; rotate_left; focus (intro w hSw; (try dsimp only at hSw); go_simp; (try with_reducible rfl); done)
        (try simp only [Act.put, List.getElem_toArray, List.getElem_cons_zero, List.getElem_cons_succ, List.setIfInBounds_toArray, List.set_cons_zero, List.set_cons_succ])
        refine wpAnyH_take (i := 3) (v := ?_) rfl (by kernel_rfl) (by kernel_rfl) (by kernel_rfl) (fun _ _ _ h => h) (Or.inl ⟨by rfl, ?_⟩) (by assumption) ?_; rotate_left; focus (intro w hSw; (try dsimp only at hSw); go_simp; (try with_reducible rfl); done)
        (try simp only [Act.put, List.getElem_toArray, List.getElem_cons_zero, List.getElem_cons_succ, List.setIfInBounds_toArray, List.set_cons_zero, List.set_cons_succ])
        refine wpAnyH_take (i := 4) (v := ?_) rfl (by kernel_rfl) (by kernel_rfl) (by kernel_rfl) (fun _ _ _ h => h) (Or.inl ⟨by rfl, ?_⟩) (by assumption) ?_; rotate_left; focus (intro w hSw; (try dsimp only at hSw); go_simp; (try with_reducible rfl); done)
        (try simp only [Act.put, List.getElem_toArray, List.getElem_cons_zero, List.getElem_cons_succ, List.setIfInBounds_toArray, List.set_cons_zero, List.set_cons_succ])
        refine wpAnyH_take (i := 5) (v := ?_) rfl (by kernel_rfl) (by kernel_rfl) (by kernel_rfl) (fun _ _ _ h => h) (Or.inl ⟨by rfl, ?_⟩) (by assumption) ?_; rotate_left; focus (intro w hSw; (try dsimp only at hSw); go_simp; (try with_reducible rfl); done)
        (try simp only [Act.put, List.getElem_toArray, List.getElem_cons_zero, List.getElem_cons_succ, List.setIfInBounds_toArray, List.set_cons_zero, List.set_cons_succ])
        refine wpAnyH_take (i := 6) (v := ?_) rfl (by kernel_rfl) (by kernel_rfl) (by kernel_rfl) (fun _ _ _ h => h) (Or.inl ⟨by rfl, ?_⟩) (by assumption) ?_; rotate_left; focus (intro w hSw; (try dsimp only at hSw); go_simp; (try with_reducible rfl); done)
        (try simp only [Act.put, List.getElem_toArray, List.getElem_cons_zero, List.getElem_cons_succ, List.setIfInBounds_toArray, List.set_cons_zero, List.set_cons_succ])
        refine wpAnyH_take (i := 7) (v := ?_) rfl (by kernel_rfl) (by kernel_rfl) (by kernel_rfl) (fun _ _ _ h => h) (Or.inl ⟨by rfl, ?_⟩) (by assumption) ?_; rotate_left; focus (intro w hSw; (try dsimp only at hSw); go_simp; (try with_reducible rfl); done)
        (try simp only [Act.put, List.getElem_toArray, List.getElem_cons_zero, List.getElem_cons_succ, List.setIfInBounds_toArray, List.set_cons_zero, List.set_cons_succ])
        refine wpAnyH_take (i := 8) (v := ?_) rfl (by kernel_rfl) (by kernel_rfl) (by kernel_rfl) (fun _ _ _ h => h) (Or.inl ⟨by rfl, ?_⟩) (by assumption) ?_; rotate_left; focus (intro w hSw; (try dsimp only at hSw); go_simp; (try with_reducible rfl); done)
        (try simp only [Act.put, List.getElem_toArray, List.getElem_cons_zero, List.getElem_cons_succ, List.setIfInBounds_toArray, List.set_cons_zero, List.set_cons_succ])
        refine wpAnyH_take (i := 9) (v := ?_) rfl (by kernel_rfl) (by kernel_rfl) (by kernel_rfl) (fun _ _ _ h => h) (Or.inl ⟨by rfl, ?_⟩) (by assumption) ?_; rotate_left; focus (intro w hSw; (try dsimp only at hSw); go_simp; (try with_reducible rfl); done)
        (try simp only [Act.put, List.getElem_toArray, List.getElem_cons_zero, List.getElem_cons_succ, List.setIfInBounds_toArray, List.set_cons_zero, List.set_cons_succ])
        refine wpAnyH_ready (rs := [10]) (by kernel_rfl) (by simp) ?_
        refine AllReadyH.cons rfl (fun K hK => ?_) AllReadyH.nil
        (go_simp; go_at_call 14; (with_reducible refine (HEN.out _).mono ?_); rintro e wa ⟨rfl, hwa⟩; have hga : Fresh W wa := (Fresh.drew W).trans hwa)
        refine hK.out _ _ (HSK.out _ hga) (fun hHeld => ?_)
        clear hK K
        (try simp only [Act.put, List.getElem_toArray, List.getElem_cons_zero, List.getElem_cons_succ, List.setIfInBounds_toArray, List.set_cons_zero, List.set_cons_succ])
        refine wpAnyH_take (i := 11) (v := ?_) rfl (by kernel_rfl) (by kernel_rfl) (by kernel_rfl) (fun _ _ _ h => h) (Or.inl ⟨by rfl, ?_⟩) (by assumption) ?_; rotate_left; focus (intro w hSw; (try dsimp only at hSw); go_simp; (try with_reducible rfl); done)
        (try simp only [Act.put, List.getElem_toArray, List.getElem_cons_zero, List.getElem_cons_succ, List.setIfInBounds_toArray, List.set_cons_zero, List.set_cons_succ])
        refine wpAnyH_take (i := 12) (v := ?_) rfl (by kernel_rfl) (by kernel_rfl) (by kernel_rfl) (fun _ _ _ h => h) (Or.inl ⟨by rfl, ?_⟩) (by assumption) ?_; rotate_left; focus (intro w hSw; (try dsimp only at hSw); go_simp; (try with_reducible rfl); done)
        (try simp only [Act.put, List.getElem_toArray, List.getElem_cons_zero, List.getElem_cons_succ, List.setIfInBounds_toArray, List.set_cons_zero, List.set_cons_succ])
        refine wpAnyH_done (by kernel_rfl) ?_ _
        all_goals
          refine wx_gen (fun W2 => Fresh W W2) hga ?_
          rintro W2 hw2
          have HW2 := Lib.hid hw2
          have c8 := (HI.out.2.1.fresh hw2).cell 0
          have z8 := (HI.out.2.1.fresh hw2).frozen 0
          simp at c8
          clear hw2 HSK
          gi_wp2
          exact ⟨(Only.of_fresh HW2.out).trans ((Only.setCell W2 ⟨b8, 0, none⟩ _).mono (fun q' e => .inl e)), rfl, HBAD.out⟩
      · have hi1 : (x.id == s.id) = false := beq_eq_false_iff_ne.2 hid
        clear hgood
        gi_wp2
        refine rnd_held (S := (fun w' => (w'.cell? ⟨b9, 0, none⟩ = some (.int .i64 (k : Int)) ∧ w'.cell? ⟨b5, 0, none⟩ = some (.slice (some ⟨db, df, none⟩) m c) ∧ w'.cell? ⟨b10, 0, none⟩ = some (.slice (some ⟨bs, 0, none⟩) n n) ∧ w'.cell? ⟨Bx, 0, none⟩ = some (.int .i64 x.id) ∧ w'.cell? ⟨Bx, 1, none⟩ = some (.int .i64 (ownI n x.id : Int)) ∧ w'.cell? ⟨Bx, 2, none⟩ = some (.int .i64 x.a) ∧ w'.cell? ⟨db, df + k * 6, none⟩ = some (.int .i64 s.id) ∧ w'.cell? ⟨db, df + k * 6 + 1, none⟩ = some (.int .i64 (ownI n s.id : Int)) ∧ w'.cell? ⟨db, df + k * 6 + 2, none⟩ = some (.int .i64 (stX s.a).b) ∧ w'.cell? ⟨db, df + k * 6 + 3, none⟩ = some (.int .i64 (stX s.a).w) ∧ w'.cell? ⟨db, df + k * 6 + 4, none⟩ = some (.int .i64 (stX s.a).t) ∧ w'.cell? ⟨db, df + k * 6 + 5, none⟩ = some (.int .i64 (stX s.a).r)) ∧ Fresh W w')) (by kernel_rfl) (by kernel_rfl) (by rintro ⟨_, _, h⟩; exact h) (HSK.out _ (Fresh.drew _)) (fun hHeld => ?_)
        refine wpAnyH_take (i := 0) (v := ?_) rfl (by kernel_rfl) (by kernel_rfl) (by kernel_rfl) (fun _ _ _ h => h) (Or.inl ⟨by rfl, ?_⟩) (by assumption) ?_; rotate_left; focus (intro w hSw; (try dsimp only at hSw); go_simp; (try with_reducible rfl); done)
        (try simp only [Act.put, List.getElem_toArray, List.getElem_cons_zero, List.getElem_cons_succ, List.setIfInBounds_toArray, List.set_cons_zero, List.set_cons_succ])
        refine wpAnyH_take (i := 1) (v := ?_) rfl (by kernel_rfl) (by kernel_rfl) (by kernel_rfl) (fun _ _ _ h => h) (Or.inl ⟨by rfl, ?_⟩) (by assumption) ?_; rotate_left; focus (intro w hSw; (try dsimp only at hSw); go_simp; (try with_reducible rfl); done)
        (try simp only [Act.put, List.getElem_toArray, List.getElem_cons_zero, List.getElem_cons_succ, List.setIfInBounds_toArray, List.set_cons_zero, List.set_cons_succ])
        refine wpAnyH_take (i := 2) (v := ?_) rfl (by kernel_rfl) (by kernel_rfl) (by kernel_rfl) (fun _ _ _ h => h) (Or.inl ⟨by rfl, ?_⟩) (by assumption) ?_; rotate_left; focus (intro w hSw; (try dsimp only at hSw); go_simp; (try with_reducible rfl); done)
        (try simp only [Act.put, List.getElem_toArray, List.getElem_cons_zero, List.getElem_cons_succ, List.setIfInBounds_toArray, List.set_cons_zero, List.set_cons_succ])
        refine wpAnyH_take (i := 3) (v := ?_) rfl (by kernel_rfl) (by kernel_rfl) (by kernel_rfl) (fun _ _ _ h => h) (Or.inl ⟨by rfl, ?_⟩) (by assumption) ?_; rotate_left; focus (intro w hSw; (try dsimp only at hSw); go_simp; (try with_reducible rfl); done)
        (try simp only [Act.put, List.getElem_toArray, List.getElem_cons_zero, List.getElem_cons_succ, List.setIfInBounds_toArray, List.set_cons_zero, List.set_cons_succ])
        refine wpAnyH_take (i := 4) (v := ?_) rfl (by kernel_rfl) (by kernel_rfl) (by kernel_rfl) (fun _ _ _ h => h) (Or.inl ⟨by rfl, ?_⟩) (by assumption) ?_; rotate_left; focus (intro w hSw; (try dsimp only at hSw); go_simp; (try with_reducible rfl); done)
        (try simp only [Act.put, List.getElem_toArray, List.getElem_cons_zero, List.getElem_cons_succ, List.setIfInBounds_toArray, List.set_cons_zero, List.set_cons_succ])
        refine wpAnyH_take (i := 5) (v := ?_) rfl (by kernel_rfl) (by kernel_rfl) (by kernel_rfl) (fun _ _ _ h => h) (Or.inl ⟨by rfl, ?_⟩) (by assumption) ?_; rotate_left; focus (intro w hSw; (try dsimp only at hSw); go_simp; (try with_reducible rfl); done)
        (try simp only [Act.put, List.getElem_toArray, List.getElem_cons_zero, List.getElem_cons_succ, List.setIfInBounds_toArray, List.set_cons_zero, List.set_cons_succ])
        refine wpAnyH_take (i := 6) (v := ?_) rfl (by kernel_rfl) (by kernel_rfl) (by kernel_rfl) (fun _ _ _ h => h) (Or.inl ⟨by rfl, ?_⟩) (by assumption) ?_; rotate_left; focus (intro w hSw; (try dsimp only at hSw); go_simp; (try with_reducible rfl); done)
        (try simp only [Act.put, List.getElem_toArray, List.getElem_cons_zero, List.getElem_cons_succ, List.setIfInBounds_toArray, List.set_cons_zero, List.set_cons_succ])
        refine wpAnyH_take (i := 7) (v := ?_) rfl (by kernel_rfl) (by kernel_rfl) (by kernel_rfl) (fun _ _ _ h => h) (Or.inl ⟨by rfl, ?_⟩) (by assumption) ?_; rotate_left; focus (intro w hSw; (try dsimp only at hSw); go_simp; (try with_reducible rfl); done)
        (try simp only [Act.put, List.getElem_toArray, List.getElem_cons_zero, List.getElem_cons_succ, List.setIfInBounds_toArray, List.set_cons_zero, List.set_cons_succ])
        refine wpAnyH_take (i := 8) (v := ?_) rfl (by kernel_rfl) (by kernel_rfl) (by kernel_rfl) (fun _ _ _ h => h) (Or.inl ⟨by rfl, ?_⟩) (by assumption) ?_; rotate_left; focus (intro w hSw; (try dsimp only at hSw); go_simp; (try with_reducible rfl); done)
        (try simp only [Act.put, List.getElem_toArray, List.getElem_cons_zero, List.getElem_cons_succ, List.setIfInBounds_toArray, List.set_cons_zero, List.set_cons_succ])
        refine wpAnyH_take (i := 9) (v := ?_) rfl (by kernel_rfl) (by kernel_rfl) (by kernel_rfl) (fun _ _ _ h => h) (Or.inl ⟨by rfl, ?_⟩) (by assumption) ?_; rotate_left; focus (intro w hSw; (try dsimp only at hSw); go_simp; (try with_reducible rfl); done)
        (try simp only [Act.put, List.getElem_toArray, List.getElem_cons_zero, List.getElem_cons_succ, List.setIfInBounds_toArray, List.set_cons_zero, List.set_cons_succ])
        refine wpAnyH_ready (rs := [10]) (by kernel_rfl) (by simp) ?_
        refine AllReadyH.cons rfl (fun K hK => ?_) AllReadyH.nil
        (go_simp; go_at_call 14; (with_reducible refine (HEN.out _).mono ?_); rintro e wa ⟨rfl, hwa⟩; have hga : Fresh W wa := (Fresh.drew W).trans hwa)
        refine hK.out _ _ (HSK.out _ hga) (fun hHeld => ?_)
        clear hK K
        (try simp only [Act.put, List.getElem_toArray, List.getElem_cons_zero, List.getElem_cons_succ, List.setIfInBounds_toArray, List.set_cons_zero, List.set_cons_succ])
        refine wpAnyH_take (i := 11) (v := ?_) rfl (by kernel_rfl) (by kernel_rfl) (by kernel_rfl) (fun _ _ _ h => h) (Or.inl ⟨by rfl, ?_⟩) (by assumption) ?_; rotate_left; focus (intro w hSw; (try dsimp only at hSw); go_simp; (try with_reducible rfl); done)
        (try simp only [Act.put, List.getElem_toArray, List.getElem_cons_zero, List.getElem_cons_succ, List.setIfInBounds_toArray, List.set_cons_zero, List.set_cons_succ])
        refine wpAnyH_take (i := 12) (v := ?_) rfl (by kernel_rfl) (by kernel_rfl) (by kernel_rfl) (fun _ _ _ h => h) (Or.inl ⟨by rfl, ?_⟩) (by assumption) ?_; rotate_left; focus (intro w hSw; (try dsimp only at hSw); go_simp; (try with_reducible rfl); done)
        (try simp only [Act.put, List.getElem_toArray, List.getElem_cons_zero, List.getElem_cons_succ, List.setIfInBounds_toArray, List.set_cons_zero, List.set_cons_succ])
        refine wpAnyH_done (by kernel_rfl) ?_ _
        all_goals
          refine wx_gen (fun W2 => Fresh W W2) hga ?_
          rintro W2 hw2
          have HW2 := Lib.hid hw2
          have c8 := (HI.out.2.1.fresh hw2).cell 0
          have z8 := (HI.out.2.1.fresh hw2).frozen 0
          simp at c8
          clear hw2 HSK
          gi_wp2
          exact ⟨(Only.of_fresh HW2.out).trans ((Only.setCell W2 ⟨b8, 0, none⟩ _).mono (fun q' e => .inl e)), rfl, HBAD.out⟩
  case done =>
    rintro D xs W hD rfl ⟨hO, e8, e9, el⟩ hDD
    rw [List.take_of_length_le (Nat.le_refl _)] at el
    rw [HM.out] at e9
    have h5 := H2.out.1.only hO (fun e => by have := HNB.out; omega)
    have h7 := H2.out.2.1.only hO (fun e => by have := HNB.out; omega)
    have h10 := H2.out.2.2.2.2.2.only hO (fun e => by have := HNB.out; omega)
    have hX3 := HX2.out.only hO (fun q' hq' e => by have := HBK.out q' hq'; have := (HTW.out q' e).2; omega)
    have hF3 : Fresh w W := Below.trans HF2.out (Only.below hO HF2.out.size (fun q' e => (HTW.out q' e).2))
    have HX3 := Lib.hid hX3
    have HF3 := Lib.hid hF3
    have H3 := Lib.hid (And.intro h5 (And.intro h7 (And.intro e8 (And.intro e9 (And.intro el h10)))))
    have HDD := Lib.hid hDD
    have HDL : Hid (w.heap.size ≤ D) := Lib.hid (by have := HF2.out.size; omega)
    clear h5 h7 h10 hX3 hF3 hO e8 e9 el hDD HX2 HF2 H2 HX HL
    have c10 := H3.out.2.2.2.2.2.cell 0
    simp at c10
    go_wp2_with fail
    go_loopw [46] (fun iv wr => ∃ k : Nat, k ≤ n ∧ iv = .int .i64 (k : Int) ∧ Fresh W wr) (fun iv _ => n - (intOf iv).toNat)
    case atStart => exact ⟨0, by omega, rfl, Fresh.refl _⟩
    case round =>
      obtain ⟨k, hk, rfl, hf⟩ := hrel
      have HF := Lib.hid hf
      have c10 := (H3.out.2.2.2.2.2.fresh hf).cell 0
      simp at c10
      by_cases hlt : k < n
      · have hlt' : (k : Int) < (n : Int) := by omega
        have HLV := Lib.hid (rg_live (HX3.out.fresh (hf.trans (Fresh.drew _))).reg k hlt (cntX n xs k) rfl)
        obtain ⟨lv, hlv⟩ : ∃ lv, cntX n xs k = lv := ⟨_, rfl⟩
        have HLQ : Hid (¬ lv > q) := Lib.hid (by have := HQ.out k; omega)
        have HSK : Hid (∀ w', Fresh wr w' → (w'.cell? ⟨b10, 0, none⟩ = some (.slice (some ⟨bs, 0, none⟩) n n) ∧ w'.cell? ⟨bs, k, none⟩ = some (.int .i64 lv) ∧ w'.cell? ⟨b7, 1, none⟩ = some (.int .i64 q)) ∧ Fresh wr w') := Lib.hid (fun w' hw => by
          have hh := HF.out.trans hw
          have l1 := ((H3.out.2.2.2.2.1.only (S := fun _ => False) (Only.of_fresh hh) id).at hlt).1
          rw [hlv] at l1
          exact ⟨⟨(H3.out.2.2.2.2.2.fresh hh).cell 0, l1, (H3.out.2.1.fresh hh).cell 1⟩, hw⟩)
        have e1 : (lv != lv) = false := by simp
        have e2 : decide (q < lv) = false := decide_eq_false (by have := HLQ.out; omega)
        rw [hlv] at HLV
        clear hlv hf
        go_wp2_with fail
        refine wp_noPanic ?_
        refine wp_region_held_drew (S := (fun w' => (w'.cell? ⟨b10, 0, none⟩ = some (.slice (some ⟨bs, 0, none⟩) n n) ∧ w'.cell? ⟨bs, k, none⟩ = some (.int .i64 lv) ∧ w'.cell? ⟨b7, 1, none⟩ = some (.int .i64 q)) ∧ Fresh wr w')) (by kernel_rfl) (HSK.out _ (Fresh.drew _)) (fun hHeld => ?_)
        refine wpAnyH_take (i := 0) (v := ?_) rfl (by kernel_rfl) (by kernel_rfl) (by kernel_rfl) (fun _ _ _ h => h) (Or.inl ⟨by rfl, ?_⟩) (by assumption) ?_; rotate_left; focus (intro w hSw; (try dsimp only at hSw); go_simp; (try with_reducible rfl); done)
        (try simp only [Act.put, List.getElem_toArray, List.getElem_cons_zero, List.getElem_cons_succ, List.setIfInBounds_toArray, List.set_cons_zero, List.set_cons_succ])
        refine wpAnyH_take (i := 1) (v := ?_) rfl (by kernel_rfl) (by kernel_rfl) (by kernel_rfl) (fun _ _ _ h => h) (Or.inl ⟨by rfl, ?_⟩) (by assumption) ?_; rotate_left; focus (intro w hSw; (try dsimp only at hSw); go_simp; (try with_reducible rfl); done)
        (try simp only [Act.put, List.getElem_toArray, List.getElem_cons_zero, List.getElem_cons_succ, List.setIfInBounds_toArray, List.set_cons_zero, List.set_cons_succ])
        refine wpAnyH_take (i := 3) (v := ?_) rfl (by kernel_rfl) (by kernel_rfl) (by kernel_rfl) (fun _ _ _ h => h) (Or.inl ⟨by rfl, ?_⟩) (by assumption) ?_; rotate_left; focus (intro w hSw; (try dsimp only at hSw); go_simp; (try with_reducible rfl); done)
        (try simp only [Act.put, List.getElem_toArray, List.getElem_cons_zero, List.getElem_cons_succ, List.setIfInBounds_toArray, List.set_cons_zero, List.set_cons_succ])
        refine wpAnyH_take (i := 4) (v := ?_) rfl (by kernel_rfl) (by kernel_rfl) (by kernel_rfl) (fun _ _ _ h => h) (Or.inl ⟨by rfl, ?_⟩) (by assumption) ?_; rotate_left; focus (intro w hSw; (try dsimp only at hSw); go_simp; (try with_reducible rfl); done)
        (try simp only [Act.put, List.getElem_toArray, List.getElem_cons_zero, List.getElem_cons_succ, List.setIfInBounds_toArray, List.set_cons_zero, List.set_cons_succ])
        refine wpAnyH_take (i := 5) (v := ?_) rfl (by kernel_rfl) (by kernel_rfl) (by kernel_rfl) (fun _ _ _ h => h) (Or.inl ⟨by rfl, ?_⟩) (by assumption) ?_; rotate_left; focus (intro w hSw; (try dsimp only at hSw); go_simp; (try with_reducible rfl); done)
        (try simp only [Act.put, List.getElem_toArray, List.getElem_cons_zero, List.getElem_cons_succ, List.setIfInBounds_toArray, List.set_cons_zero, List.set_cons_succ])
        refine wpAnyH_take (i := 6) (v := ?_) rfl (by kernel_rfl) (by kernel_rfl) (by kernel_rfl) (fun _ _ _ h => h) (Or.inl ⟨by rfl, ?_⟩) (by assumption) ?_; rotate_left; focus (intro w hSw; (try dsimp only at hSw); go_simp; (try with_reducible rfl); done)
        (try simp only [Act.put, List.getElem_toArray, List.getElem_cons_zero, List.getElem_cons_succ, List.setIfInBounds_toArray, List.set_cons_zero, List.set_cons_succ])
        refine wpAnyH_ready (rs := [2]) (by kernel_rfl) (by simp) ?_
        refine AllReadyH.cons rfl (fun K hK => ?_) AllReadyH.nil
        (go_simp; go_at_call 19; (with_reducible refine HLV.out.mono ?_); rintro e wa ⟨rfl, hwa⟩; have hga : Fresh wr wa := (by rw [hwa]; exact Fresh.drew wr))
        refine hK.out _ _ (HSK.out _ hga) (fun hHeld => ?_)
        clear hK K
        (try simp only [Act.put, List.getElem_toArray, List.getElem_cons_zero, List.getElem_cons_succ, List.setIfInBounds_toArray, List.set_cons_zero, List.set_cons_succ])
        refine wpAnyH_take (i := 7) (v := ?_) rfl (by kernel_rfl) (by kernel_rfl) (by kernel_rfl) (fun _ _ _ h => h) (Or.inl ⟨by rfl, ?_⟩) (by assumption) ?_; rotate_left; focus (intro w hSw; (try dsimp only at hSw); go_simp; (try with_reducible rfl); done)
        (try simp only [Act.put, List.getElem_toArray, List.getElem_cons_zero, List.getElem_cons_succ, List.setIfInBounds_toArray, List.set_cons_zero, List.set_cons_succ])
        refine wpAnyH_take (i := 8) (v := ?_) rfl (by kernel_rfl) (by kernel_rfl) (by kernel_rfl) (fun _ _ _ h => h) (Or.inl ⟨by rfl, ?_⟩) (by assumption) ?_; rotate_left; focus (intro w hSw; (try dsimp only at hSw); go_simp; (try with_reducible rfl); done)
        (try simp only [Act.put, List.getElem_toArray, List.getElem_cons_zero, List.getElem_cons_succ, List.setIfInBounds_toArray, List.set_cons_zero, List.set_cons_succ])
        refine wpAnyH_take (i := 9) (v := ?_) rfl (by kernel_rfl) (by kernel_rfl) (by kernel_rfl) (fun _ _ _ h => h) (Or.inl ⟨by rfl, ?_⟩) (by assumption) ?_; rotate_left; focus (intro w hSw; (try dsimp only at hSw); go_simp; (try with_reducible rfl); done)
        (try simp only [Act.put, List.getElem_toArray, List.getElem_cons_zero, List.getElem_cons_succ, List.setIfInBounds_toArray, List.set_cons_zero, List.set_cons_succ])
        refine wpAnyH_take (i := 10) (v := ?_) rfl (by kernel_rfl) (by kernel_rfl) (by kernel_rfl) (fun _ _ _ h => h) (Or.inl ⟨by rfl, ?_⟩) (by assumption) ?_; rotate_left; focus (intro w hSw; (try dsimp only at hSw); go_simp; (try with_reducible rfl); done)
        (try simp only [Act.put, List.getElem_toArray, List.getElem_cons_zero, List.getElem_cons_succ, List.setIfInBounds_toArray, List.set_cons_zero, List.set_cons_succ])
        refine wpAnyH_take (i := 11) (v := ?_) rfl (by kernel_rfl) (by kernel_rfl) (by kernel_rfl) (fun _ _ _ h => h) (Or.inl ⟨by rfl, ?_⟩) (by assumption) ?_; rotate_left; focus (intro w hSw; (try dsimp only at hSw); go_simp; (try with_reducible rfl); done)
        (try simp only [Act.put, List.getElem_toArray, List.getElem_cons_zero, List.getElem_cons_succ, List.setIfInBounds_toArray, List.set_cons_zero, List.set_cons_succ])
        refine wpAnyH_take (i := 12) (v := ?_) rfl (by kernel_rfl) (by kernel_rfl) (by kernel_rfl) (fun _ _ _ h => h) (Or.inl ⟨by rfl, ?_⟩) (by assumption) ?_; rotate_left; focus (intro w hSw; (try dsimp only at hSw); go_simp; (try with_reducible rfl); done)
        (try simp only [Act.put, List.getElem_toArray, List.getElem_cons_zero, List.getElem_cons_succ, List.setIfInBounds_toArray, List.set_cons_zero, List.set_cons_succ])
        refine wpAnyH_take (i := 13) (v := ?_) rfl (by kernel_rfl) (by kernel_rfl) (by kernel_rfl) (fun _ _ _ h => h) (Or.inl ⟨by rfl, ?_⟩) (by assumption) ?_; rotate_left; focus (intro w hSw; (try dsimp only at hSw); go_simp; (try with_reducible rfl); done)
        (try simp only [Act.put, List.getElem_toArray, List.getElem_cons_zero, List.getElem_cons_succ, List.setIfInBounds_toArray, List.set_cons_zero, List.set_cons_succ])
        refine wpAnyH_take (i := 14) (v := ?_) rfl (by kernel_rfl) (by kernel_rfl) (by kernel_rfl) (fun _ _ _ h => h) (Or.inl ⟨by rfl, ?_⟩) (by assumption) ?_; rotate_left; focus (intro w hSw; (try dsimp only at hSw); go_simp; (try with_reducible rfl); done)
        (try simp only [Act.put, List.getElem_toArray, List.getElem_cons_zero, List.getElem_cons_succ, List.setIfInBounds_toArray, List.set_cons_zero, List.set_cons_succ])
        refine wpAnyH_take (i := 15) (v := ?_) rfl (by kernel_rfl) (by kernel_rfl) (by kernel_rfl) (fun _ _ _ h => h) (Or.inl ⟨by rfl, ?_⟩) (by assumption) ?_; rotate_left; focus (intro w hSw; (try dsimp only at hSw); go_simp; (try with_reducible rfl); done)
        (try simp only [Act.put, List.getElem_toArray, List.getElem_cons_zero, List.getElem_cons_succ, List.setIfInBounds_toArray, List.set_cons_zero, List.set_cons_succ])
        refine wpAnyH_take (i := 16) (v := ?_) rfl (by kernel_rfl) (by kernel_rfl) (by kernel_rfl) (fun _ _ _ h => h) (Or.inl ⟨by rfl, ?_⟩) (by assumption) ?_; rotate_left; focus (intro w hSw; (try dsimp only at hSw); go_simp; (try with_reducible rfl); done)
        (try simp only [Act.put, List.getElem_toArray, List.getElem_cons_zero, List.getElem_cons_succ, List.setIfInBounds_toArray, List.set_cons_zero, List.set_cons_succ])
        refine wpAnyH_done (by kernel_rfl) ?_ _
        refine NoPanic.normal ?_
        have HFa := Lib.hid (HF.out.trans hga)
        clear hga hwa
        go_wp2_with fail
        go_roundw
        case rel => exact ⟨k + 1, by omega, by go_num, HFa.out⟩
        case measure => simp [intOf]; omega
      · obtain rfl : k = n := by omega
        have hnk : ¬ (k : Int) < (k : Int) := by omega
        have HLA := Lib.hid (rg_last (HX3.out.fresh hf).reg)
        have HL1 := Lib.hid (rg_live_no (HX3.out.fresh hf).reg (-1) (.inl (by omega)))
        have HL2 := Lib.hid (rg_live_no (HX3.out.fresh hf).reg (k : Int) (.inr (Int.le_refl _)))
        have c9 := (H3.out.2.2.2.1.fresh hf).cell 0
        have c5 := (H3.out.1.fresh hf).cell 0
        have c7 := (H3.out.2.1.fresh hf).cell 0
        have c8 := (H3.out.2.2.1.fresh hf).cell 0
        have z8 := (H3.out.2.2.1.fresh hf).frozen 0
        simp at c9 c5 c7 c8
        have e1 : ((m : Int) == (m : Int)) = true := by simp
        have e2 : (last == last) = true := by simp
        clear hf
        go_wp2_with fail
        with_reducible refine HLA.out.mono ?_
        rintro e w5 ⟨rfl, hw⟩
        obtain rfl : wr = w5 := hw.symm
        go_wp2_with fail
        with_reducible refine HL1.out.mono ?_
        rintro e w5 ⟨rfl, hw⟩
        obtain rfl : wr = w5 := hw.symm
        go_wp2_with fail
        with_reducible refine HL2.out.mono ?_
        rintro e w5 ⟨rfl, hw⟩
        obtain rfl : wr = w5 := hw.symm
        go_wp2
        have hDD := HDD.out
        have hDl := (Array.getElem?_eq_some_iff.1 hDD).1
        have hK1 : wr.heap[D]? = some (.deferred (some [])) := (Below.block HF.out D hDl).trans hDD
        have hb8 := H3.out.2.2.1.fresh HF.out
        have hnD : D ≠ b8 := fun e => by
          rw [e] at hK1
          rw [show wr.heap[b8]? = _ from hb8] at hK1
          cases hK1
        have hK2 : (wr.setCell ⟨b8, 0, none⟩ (.bool true)).heap[D]? = some (.deferred (some [])) := (Below.heap_setCell _ _ _ _ hnD).trans hK1
        refine ⟨by simp, .inl ⟨_, _, rfl, run_takeDeferred hK2, ?_⟩⟩
        have hb9 : Blk (wr.setCell ⟨b8, 0, none⟩ (.bool true)) b8 4 #[.bool true] := by simpa using hb8.set 0 (.bool true)
        have c5 := (hb9.only (Only.putObj _ D (.deferred none)) (fun e => hnD e.symm)).cell 0
        simp at c5
        have hfw : Fresh w wr := HF3.out.trans HF.out
        refine ⟨.bool true, ?_, HFIN.out _ (Below.trans (hfw.step _ _ (by have := HNB.out; simp; omega)) (Only.below (Only.putObj _ _ _) (by have := hfw.size; simpa [World.setCell] using this) (fun k e => by rw [e]; exact HDL.out)))⟩
        · simp [results, Tryd.f11, go_sem, c5]
  case stop =>
    rintro D cc pre W hD hSp ⟨rfl, hbad⟩ hDD
    exact (bad_not hbad hSp).elim
end Go.Proofs.YtjediikcfhdgiaaDoor

