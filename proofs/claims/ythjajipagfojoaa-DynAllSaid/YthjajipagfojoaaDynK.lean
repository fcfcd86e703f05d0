/-
  Package dyn: Find.
-/
import Derived.Test.YthjajipagfojoaaDynJ
namespace Go.Proofs.Ythjajipagfojoaa
set_option linter.unusedVariables false
set_option linter.unusedSimpArgs false
open Go.RowKit Go.Shelf
attribute [local go_sem] Oper.semAt_some
/-- The place of the first one with f's name; 0: there is none. -/
def namF (f : FldT) : List FldT → Nat
  | [] => 0
  | g :: r => if g.1 = f.1 then 1 else if namF f r = 0 then 0 else namF f r + 1
theorem namF_le (f : FldT) (l : List FldT) : namF f l ≤ l.length := by
  induction l with
  | nil => simp [namF]
  | cons g r ih => unfold namF; split <;> (try split) <;> simp <;> omega
theorem namF_snoc (f : FldT) (l : List FldT) (g : FldT) : namF f (l ++ [g]) = if namF f l = 0 then (if g.1 = f.1 then l.length + 1 else 0) else namF f l := by
  induction l with
  | nil => simp [namF]
  | cons h r ih =>
    simp only [List.cons_append, namF, ih]
    by_cases h1 : h.1 = f.1
    · simp [h1]
    · simp only [h1, if_false]
      by_cases h2 : namF f r = 0
      · simp only [h2, if_true]
        by_cases h3 : g.1 = f.1 <;> simp [h3]
      · simp [h2]
def FindP (f : FldT) (l : List FldT) (w : World) (e : Ending) (w' : World) : Prop :=
  Fresh w w' ∧ ((∃ k, k < l.length ∧ (∀ g ∈ l.take k, g ≠ f) ∧ l[k]? = some f ∧ e = .returned (.tuple #[.int .i64 ((k : Int) + 1), .bool true])) ∨ ((∀ g ∈ l, g ≠ f) ∧ e = .returned (.tuple #[.int .i64 (namF f l : Int), .bool false])))
/-- Within Find's loop. -/
structure FiI (w : World) (b0 b1 b2 b3 b4 : Nat) (f : FldT) (pre : List FldT) (W : World) : Prop where
  no : ∀ g ∈ pre, g ≠ f
  x0 : Blk W b0 31 #[.string f.1, .string f.2]
  x1 : Blk W b1 3 #[.int .i64 0]
  x2 : Blk W b2 4 #[.bool false]
  x3 : Blk W b3 3 #[.int .i64 (pre.length : Int)]
  x4 : Blk W b4 3 #[.int .i64 (namF f pre : Int)]
  fr : Fresh w W
structure FiX (w : World) (b1 b2 : Nat) (f : FldT) (pre : List FldT) (W : World) : Prop where
  at_ : ∃ ini, pre = ini ++ [f] ∧ ∀ g ∈ ini, g ≠ f
  x1 : Blk W b1 3 #[.int .i64 (pre.length : Int)]
  x2 : Blk W b2 4 #[.bool true]
  fr : Fresh w W
theorem fiI_own (w : World) (b0 b1 b2 b3 b4 : Nat) (f : FldT) (B : Nat) (hB : w.heap.size ≤ B) : OwnFrom B (FiI w b0 b1 b2 b3 b4 f) := fun s X Y row hs hg hr =>
  ⟨hs.no, blk_own (β := Unit) _ _ _ _ () X Y row hs.x0 hg hr, blk_own (β := Unit) _ _ _ _ () X Y row hs.x1 hg hr, blk_own (β := Unit) _ _ _ _ () X Y row hs.x2 hg hr, blk_own (β := Unit) _ _ _ _ () X Y row hs.x3 hg hr, blk_own (β := Unit) _ _ _ _ () X Y row hs.x4 hg hr,
    Below.grown hs.fr hg hs.fr.size (fun r e => by have := (hr r e).1; omega)⟩
theorem fiX_own (w : World) (b1 b2 : Nat) (f : FldT) (B : Nat) (hB : w.heap.size ≤ B) : OwnFrom B (FiX w b1 b2 f) := fun s X Y row hs hg hr =>
  ⟨hs.at_, blk_own (β := Unit) _ _ _ _ () X Y row hs.x1 hg hr, blk_own (β := Unit) _ _ _ _ () X Y row hs.x2 hg hr, Below.grown hs.fr hg hs.fr.size (fun r e => by have := (hr r e).1; omega)⟩
theorem Blk.put0 {w : World} {g : Nat} {t : TypeId} {a : Value} (h : Blk w g t #[a]) (u : Value) : Blk (w.setCell ⟨g, 0, none⟩ u) g t #[u] := h.set 0 u
theorem Fresh.setF {w w' : World} {p : Addr} {v : Value} (h : Fresh w w') (hp : w.heap.size ≤ p.block) : Fresh w (w'.setCell p v) := h.step p v hp
section
variable {w W : World} {b0 b1 b2 b3 b4 k z : Nat} {f x : FldT} {pre : List FldT}
theorem fi_a (h : FiI w b0 b1 b2 b3 b4 f pre W) (o : w.heap.size = b0) (o1 : b0 < b1) (o2 : b1 < b2) (o3 : b2 < b3) (o4 : b3 < b4) (hk : pre.length = k) (hx : x ≠ f) (hS : namF f (pre ++ [x]) = namF f pre) : FiI w b0 b1 b2 b3 b4 f (pre ++ [x]) (W.setCell ⟨b3, 0, none⟩ (.int .i64 ((k : Int) + 1))) :=
  ⟨fun g hg => by
    rcases List.mem_append.1 hg with h1 | h1
    · exact h.no g h1
    · rw [List.mem_singleton.1 h1]; exact hx, h.x0.far (by simp; omega) _, h.x1.far (by simp; omega) _, h.x2.far (by simp; omega) _, by rw [List.length_append, hk]; exact h.x3.put0 _, by rw [hS]; exact h.x4.far (by simp; omega) _, h.fr.setF (by simp; omega)⟩
theorem fi_b (h : FiI w b0 b1 b2 b3 b4 f pre W) (o : w.heap.size = b0) (o1 : b0 < b1) (o2 : b1 < b2) (o3 : b2 < b3) (o4 : b3 < b4) (hk : pre.length = k) (hx : x ≠ f) (hS : namF f (pre ++ [x]) = k + 1) : FiI w b0 b1 b2 b3 b4 f (pre ++ [x]) ((W.setCell ⟨b3, 0, none⟩ (.int .i64 ((k : Int) + 1))).setCell ⟨b4, 0, none⟩ (.int .i64 ((k : Int) + 1))) :=
  ⟨fun g hg => by
    rcases List.mem_append.1 hg with h1 | h1
    · exact h.no g h1
    · rw [List.mem_singleton.1 h1]; exact hx, (h.x0.far (by simp; omega) _).far (by simp; omega) _, (h.x1.far (by simp; omega) _).far (by simp; omega) _, (h.x2.far (by simp; omega) _).far (by simp; omega) _, by rw [List.length_append, hk]; exact (h.x3.put0 _).far (by simp; omega) _, by rw [hS]; exact (h.x4.far (by simp; omega) _).put0 _, (h.fr.setF (by simp; omega)).setF (by simp; omega)⟩
theorem fi_x (h : FiI w b0 b1 b2 b3 b4 f pre W) (o : w.heap.size = b0) (o1 : b0 < b1) (o2 : b1 < b2) (o3 : b2 < b3) (o4 : b3 < b4) (hk : pre.length = k) (hx : x = f) : FiX w b1 b2 f (pre ++ [x]) (((W.setCell ⟨b3, 0, none⟩ (.int .i64 ((k : Int) + 1))).setCell ⟨b1, 0, none⟩ (.int .i64 ((k : Int) + 1))).setCell ⟨b2, 0, none⟩ (.bool true)) :=
  ⟨⟨pre, by rw [hx], h.no⟩, by rw [List.length_append, hk]; exact ((h.x1.far (by simp; omega) _).put0 _).far (by simp; omega) _, ((h.x2.far (by simp; omega) _).far (by simp; omega) _).put0 _, ((h.fr.setF (by simp; omega)).setF (by simp; omega)).setF (by simp; omega)⟩
theorem on1 {T : Nat → Prop} {W : World} {a : Addr} (ha : T a.block) (v : Value) : Only T W (W.setCell a v) := (Only.setCell _ _ _).mono (fun _ e => by rw [e]; exact ha)
end
theorem fst_eq (g f : FldT) (r : Bool) (h : decide (g.1 = f.1) = r) : (g.1.toList == f.1.toList) = r := by
  rw [← h, Bool.eq_iff_iff]; simp [toList_inj]
theorem snd_eq (g f : FldT) (r : Bool) (h : decide (g.2 = f.2) = r) : (g.2.toList == f.2.toList) = r := by
  rw [← h, Bool.eq_iff_iff]; simp [toList_inj]
set_option maxRecDepth 100000 in
set_option maxHeartbeats 6400000 in
theorem tab_find (base p : Nat) (v : Value) (fs : List FldT) (lim : Int) (f : FldT) (w : World) (ht : TabAt w base p v fs lim) (hlen : fs.length ≤ 1000000) :
    Calls Try.prog 13 #[.pointer (some ⟨p, 0, none⟩), .agg #[.string f.1, .string f.2]] w (FindP f fs.reverse w) := by
  have HT := Lib.hid ht
  have hpl := ht.blk.lt
  clear ht
  refine (callsIn_wide (n := 9)).1 ?_
  refine callsIn_of_wp_marks Try.func13 rfl trivial ?_ rfl
  simp only [Try.ntmps13, List.size_toArray, List.length_cons, List.length_nil, Nat.reduceAdd, Nat.reduceSub, Array.replicate_succ, Array.replicate_zero, List.push_toArray, List.append_toArray, List.nil_append, List.cons_append]
  gi_wp2_with (refine ⟨trivial, ?_⟩; gi_at_call 17; refine (callsIn_wide.2 (tab_all p _)).mono ?_; rintro e w1 ⟨q, rfl, hq, hql, hf1⟩; have HQ := Lib.hid (And.intro hq (And.intro hql hf1)); clear hq hql hf1)
  have hf := HQ.out.2.2
  have x0 : Blk w1 w.heap.size 31 #[.string f.1, .string f.2] := (((((Blk.new w _ _).alloc _).alloc _).alloc _).alloc _).fresh hf
  have x1 : Blk w1 (w.heap.size + 1) 3 #[.int .i64 0] := (((((Blk.mkAt (by simp)) : Blk ((w.alloc _).alloc _) (w.heap.size + 1) _ _).alloc _).alloc _).alloc _).fresh hf
  have x2 : Blk w1 (w.heap.size + 1 + 1) 4 #[.bool false] := ((((Blk.mkAt (by simp)) : Blk (((w.alloc _).alloc _).alloc _) (w.heap.size + 1 + 1) _ _).alloc _).alloc _).fresh hf
  have x3 : Blk w1 (w.heap.size + 1 + 1 + 1) 3 #[.int .i64 0] := (((Blk.mkAt (by simp)) : Blk ((((w.alloc _).alloc _).alloc _).alloc _) (w.heap.size + 1 + 1 + 1) _ _).alloc _).fresh hf
  have x4 : Blk w1 (w.heap.size + 1 + 1 + 1 + 1) 3 #[.int .i64 0] := ((Blk.mkAt (by simp)) : Blk (((((w.alloc _).alloc _).alloc _).alloc _).alloc _) (w.heap.size + 1 + 1 + 1 + 1) _ _).fresh hf
  have hq := HQ.out.1
  have hfr : Fresh w w1 := ((((((Fresh.alloc _ _).allocS _).allocS _).allocS _).allocS _)).trans hf
  clear HQ hf
  have hs4 : w.heap.size + 1 + 1 + 1 + 1 < w1.heap.size := x4.lt
  have hqs := hq.lt
  generalize hb4 : w.heap.size + 1 + 1 + 1 + 1 = b4 at *
  generalize hb3 : w.heap.size + 1 + 1 + 1 = b3 at *
  generalize hb2 : w.heap.size + 1 + 1 = b2 at *
  generalize hb1 : w.heap.size + 1 = b1 at *
  generalize hb0 : w.heap.size = b0 at *
  have o1 : b0 < b1 := by omega
  have o2 : b1 < b2 := by omega
  have o3 : b2 < b3 := by omega
  have o4 : b3 < b4 := by omega
  have HB0 := Lib.hid hb0
  clear hb0 hb1 hb2 hb3 hb4
  have hqn : q ≠ b1 ∧ q ≠ b2 ∧ q ≠ b3 ∧ q ≠ b4 := ⟨hq.ne x1 (by decide), hq.ne x2 (by decide), hq.ne x3 (by decide), hq.ne x4 (by decide)⟩
  have HI : Hid (FiI w b0 b1 b2 b3 b4 f [] w1) := Lib.hid ⟨by simp, x0, x1, x2, x3, x4, hfr⟩
  clear x0 x1 x2 x3 x4
  refine wpIn_rangeFunc_T rfl (by omega) (gf := 30) (lb := #[.pointer (some ⟨q, 0, none⟩)]) rfl trivial (enters_of Try.func30 (by kernel_rfl) rfl)
    (tab_seq 8 base p q v fs lim (fun k => k = b1 ∨ k = b2 ∨ k = b3 ∨ k = b4) w1 (by omega) hlen hq (HT.out.fresh hfr) (by omega) (by omega) (fun k hk h => by have := (HT.out.own.lt k hk).2; have := HB0.out; omega) (by omega))
    (by omega) (fun _ => rfl)
    (FiI w b0 b1 b2 b3 b4 f) (fun cc pre W => cc = .ret ∧ FiX w b1 b2 f pre W)
    (fiI_own _ _ _ _ _ _ _ _ hfr.size) (fun cc => OwnFrom.and (ownFrom_pure _ (fun _ => cc = .ret)) (fiX_own _ _ _ _ _ hfr.size)) HI.out
    (fun x a' W' => ∃ Bx, b4 < Bx ∧ Blk W' Bx 31 #[.string x.1, .string x.2] ∧ a' = { tmps := #[.pointer (some ⟨p, 0, none⟩), .agg #[.string f.1, .string f.2], undef, .pointer (some ⟨b0, 0, none⟩), .pointer (some ⟨b1, 0, none⟩), .pointer (some ⟨b2, 0, none⟩), .pointer (some ⟨b3, 0, none⟩), .pointer (some ⟨b4, 0, none⟩), .pointer (some ⟨Bx, 0, none⟩), .pointer (some ⟨p, 0, none⟩), .func (.func 30) #[] #[.pointer (some ⟨q, 0, none⟩)], .agg #[.string x.1, .string x.2], undef, undef, undef, undef, undef, undef, undef, undef, undef, undef, undef, undef, undef, undef, undef, undef, undef], defers := [] })
    (fun x a' s X Y row hs hg hr => by
      obtain ⟨Bx, h1, h2, h3⟩ := hs
      exact ⟨Bx, h1, blk_own (β := Unit) _ _ _ _ () X Y row h2 hg hr, h3⟩)
    ?assign ?body ?done ?stop
  case assign =>
    rintro l2 pre x W' K hi hK
    have hlt := hi.x4.lt
    have HII := Lib.hid hi
    clear hi
    dsimp only [encA]
    gi_wp2
    exact hK _ _ (Only.of_fresh (Fresh.alloc _ _)) ((fiI_own (w := w) _ _ _ _ _ _ w.heap.size (Nat.le_refl _)).alloc _ HII.out) ⟨W'.heap.size, hlt, Blk.new _ _ _, rfl⟩
  case body =>
    rintro l2 pre x a' W' hi ⟨Bx, hBx, hbx, rfl⟩ hlen'
    obtain ⟨y0, y1⟩ := hbx.c2
    obtain ⟨f0, f1⟩ := hi.x0.c2
    have c1 := hi.x1.cell 0
    have c2 := hi.x2.cell 0
    have c3 := hi.x3.cell 0
    have c4 := hi.x4.cell 0
    have q1 := hi.x1.frozen 0
    have q2 := hi.x2.frozen 0
    have q3 := hi.x3.frozen 0
    have q4 := hi.x4.frozen 0
    simp at c1 c2 c3 c4
    have hzl := namF_le f pre
    have hsn := namF_snoc f pre x
    have HII := Lib.hid hi
    obtain ⟨k, hk⟩ : ∃ k, pre.length = k := ⟨_, rfl⟩
    obtain ⟨z, hz⟩ : ∃ z, namF f pre = z := ⟨_, rfl⟩
    have HK := Lib.hid hk
    have HZ := Lib.hid hz
    rw [hz, hk] at hsn
    rw [hk] at hlen' c3 hzl
    rw [hz] at c4 hzl
    have hs0 := hi.fr.size
    have hw : IntKind.i64.wrap ((k : Int) + 1) = (k : Int) + 1 := by rw [IntKind.wrap_i64]; omega
    clear hi hbx hk hz
    by_cases hn : x.1 = f.1
    · by_cases hv : x.2 = f.2
      · have e1 := fst_eq x f true (by simp [hn])
        have e2 := snd_eq x f true (by simp [hv])
        have HX : Hid (x = f) := Lib.hid (Prod.ext hn hv)
        clear hn hv hsn
        gi_wp2
        exact ⟨((on1 (by simp) _).trans (on1 (by simp) _)).trans (on1 (by simp) _), rfl, fi_x HII.out HB0.out o1 o2 o3 o4 HK.out HX.out⟩
      · have e1 := fst_eq x f true (by simp [hn])
        have e2 := snd_eq x f false (by simp [hv])
        have HX : Hid (x ≠ f) := Lib.hid (fun e => hv (by rw [e]))
        have HN1 : Hid (x.1 = f.1) := Lib.hid hn
        clear hn hv
        by_cases hz0 : z = 0
        · subst hz0
          have HS : Hid (namF f (pre ++ [x]) = k + 1) := Lib.hid (by rw [hsn, if_pos rfl, if_pos HN1.out])
          clear hsn
          rw [show ((0 : Nat) : Int) = 0 from rfl] at c4
          gi_wp2
          exact ⟨(on1 (by simp) _).trans (on1 (by simp) _), fi_b HII.out HB0.out o1 o2 o3 o4 HK.out HX.out HS.out⟩
        · have hz1 : ((z : Int) == 0) = false := by simpa using hz0
          have HS : Hid (namF f (pre ++ [x]) = z) := Lib.hid (by rw [hsn, if_neg hz0])
          clear hsn
          gi_wp2
          exact ⟨on1 (by simp) _, fi_a HII.out HB0.out o1 o2 o3 o4 HK.out HX.out (by rw [HS.out, HZ.out])⟩
    · have e1 := fst_eq x f false (by simp [hn])
      have HX : Hid (x ≠ f) := Lib.hid (fun e => hn (by rw [e]))
      by_cases hz0 : z = 0
      · subst hz0
        have HS : Hid (namF f (pre ++ [x]) = 0) := Lib.hid (by rw [hsn, if_pos rfl, if_neg hn])
        clear hsn hn
        rw [show ((0 : Nat) : Int) = 0 from rfl] at c4
        gi_wp2
        exact ⟨on1 (by simp) _, fi_a HII.out HB0.out o1 o2 o3 o4 HK.out HX.out (by rw [HS.out, HZ.out])⟩
      · have hz1 : ((z : Int) == 0) = false := by simpa using hz0
        have HS : Hid (namF f (pre ++ [x]) = z) := Lib.hid (by rw [hsn, if_neg hz0])
        clear hsn hn
        gi_wp2
        exact ⟨on1 (by simp) _, fi_a HII.out HB0.out o1 o2 o3 o4 HK.out HX.out (by rw [HS.out, HZ.out])⟩
  case done =>
    rintro D ys W hD rfl hi hK
    have c1 := hi.x1.cell 0
    have c2 := hi.x2.cell 0
    have c4 := hi.x4.cell 0
    have q1 := hi.x1.frozen 0
    have q2 := hi.x2.frozen 0
    simp at c1 c2 c4
    have hs0 := hi.fr.size
    have HII := Lib.hid hi
    obtain ⟨z, hz⟩ : ∃ z, namF f fs.reverse = z := ⟨_, rfl⟩
    have HZ := Lib.hid hz
    rw [hz] at c4
    clear hi hz
    gi_wp2
    have hb0 := HB0.out
    have hn1 : D ≠ b1 := fun e => by
      rw [e] at hK
      have := HII.out.x1
      rw [show W.heap[b1]? = _ from this] at hK
      cases hK
    have hn2 : D ≠ b2 := fun e => by
      rw [e] at hK
      have := HII.out.x2
      rw [show W.heap[b2]? = _ from this] at hK
      cases hK
    have y1 := (HII.out.x1.put0 (.int .i64 (z : Int))).far (p := ⟨b2, 0, none⟩) (by simp; omega) (.bool false)
    have y2 := (HII.out.x2.far (p := ⟨b1, 0, none⟩) (by simp; omega) (.int .i64 (z : Int))).put0 (.bool false)
    have hK2 : ((W.setCell ⟨b1, 0, none⟩ (.int .i64 (z : Int))).setCell ⟨b2, 0, none⟩ (.bool false)).heap[D]? = some (.deferred (some [])) := (Below.heap_setCell _ _ _ _ hn2).trans ((Below.heap_setCell _ _ _ _ hn1).trans hK)
    have hfr2 := (HII.out.fr.setF (p := ⟨b1, 0, none⟩) (v := .int .i64 (z : Int)) (by simp; omega)).setF (p := ⟨b2, 0, none⟩) (v := .bool false) (by simp; omega)
    generalize (W.setCell ⟨b1, 0, none⟩ (.int .i64 (z : Int))).setCell ⟨b2, 0, none⟩ (.bool false) = W5 at *
    refine ⟨by simp, .inl ⟨_, _, rfl, run_takeDeferred hK2, ?_⟩⟩
    have c5 := (y1.only (Only.putObj _ D (.deferred none)) (fun e => hn1 e.symm)).cell 0
    have c6 := (y2.only (Only.putObj _ D (.deferred none)) (fun e => hn2 e.symm)).cell 0
    simp at c5 c6
    refine ⟨.tuple #[.int .i64 (z : Int), .bool false], ?_, Below.trans hfr2 (Only.below (Only.putObj _ _ _) hfr2.size (fun k e => by rw [e]; have := hfr.size; omega)), .inr ⟨HII.out.no, by rw [HZ.out]⟩⟩
    simp [results, Try.f13, go_sem, c5, c6]
  case stop =>
    rintro D cc pre W hD ⟨k, hk, rfl⟩ ⟨rfl, hx⟩ hK
    have HX := Lib.hid hx
    clear hx
    gi_wp2
    obtain ⟨⟨ini, hini, hno⟩, x1, x2, hfx⟩ := HX.out
    have hn1 : D ≠ b1 := fun e => by
      rw [e] at hK
      rw [show W.heap[b1]? = _ from x1] at hK
      cases hK
    have hn2 : D ≠ b2 := fun e => by
      rw [e] at hK
      rw [show W.heap[b2]? = _ from x2] at hK
      cases hK
    refine ⟨by simp, .inl ⟨_, _, rfl, run_takeDeferred hK, ?_⟩⟩
    have c5 := (x1.only (Only.putObj _ D (.deferred none)) (fun e => hn1 e.symm)).cell 0
    have c6 := (x2.only (Only.putObj _ D (.deferred none)) (fun e => hn2 e.symm)).cell 0
    have hl : (fs.reverse.take k).length = ini.length + 1 := by rw [hini]; simp
    have hall : fs.reverse = ini ++ [f] ++ fs.reverse.drop k := by rw [← hini, List.take_append_drop]
    rw [hl] at c5
    simp at c5 c6
    refine ⟨.tuple #[.int .i64 ((ini.length : Int) + 1), .bool true], ?_, Below.trans hfx (Only.below (Only.putObj _ _ _) hfx.size (fun k e => by rw [e]; have := hfr.size; omega)), .inl ⟨ini.length, ?_, ?_, ?_, rfl⟩⟩
    · simp [results, Try.f13, go_sem, c5, c6]
    · rw [hall]; simp
    · rw [hall]; simpa using hno
    · rw [hall]; simp
end Go.Proofs.Ythjajipagfojoaa
