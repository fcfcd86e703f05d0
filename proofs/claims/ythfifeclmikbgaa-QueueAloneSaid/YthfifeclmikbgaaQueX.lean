/-
  Package queue: QueueAlone.
-/
import Derived.Test.YthfifeclmikbgaaQueW
namespace Go.Proofs.Ythfifeclmikbgaa
set_option linter.unusedVariables false
set_option linter.unusedSimpArgs false
open Go.RowKit
section
variable {base q R n : Nat} {by_ it : Int} {ro : Rows} {w : World}
theorem QAt.keep {S : Nat → Prop} {w' : World} (h : QAt w base q R n by_ it ro) (ho : Only S w w') (hq : ¬ S q) (hR : ¬ S R) (hown : ∀ t, t < n → ∀ k, (ro t).1.ownBlock = some k → ¬ S k) (hb : ∀ g cs, Blk w g 5 cs → ¬ S g) : QAt w' base q R n by_ it ro := by
  obtain ⟨cs', h1, h2, h3⟩ := h.rows
  exact ⟨h.blk.only ho hq, ⟨cs', h1.only ho hR, h2, h3⟩, fun t ht => (h.own t ht).only ho (fun k hk => hown t ht k hk), fun t ht x hx => (h.ok t ht x hx).only ho (fun g cs hg => hb g cs hg), h.sep, h.quota, h.n1, h.n64, h.y0, h.y1, h.i0, h.i1⟩
/-- Two queues lie apart. -/
structure Apart (n Rp Rq : Nat) (rp rq : Rows) : Prop where
  rows : Rp ≠ Rq
  own : ∀ t t' k, t < n → t' < n → (rp t).1.ownBlock = some k → (rq t').1.ownBlock ≠ some k
theorem Apart.symm {Rp Rq : Nat} {rp rq : Rows} (h : Apart n Rp Rq rp rq) : Apart n Rq Rp rq rp := ⟨h.rows.symm, fun t t' k ht ht' hk hk' => h.own t' t k ht' ht hk' hk⟩
/-- What the first queue's call does leaves the second one as it was. -/
theorem Apart.keep {p Rp M : Nat} {rp : Rows} {b2 : Int} {w' : World} (hA : Apart n Rp R rp ro) (hp : QAt w base p Rp n by_ b2 rp) (h : QAt w base q R n by_ it ro) {csm : Array Value} (hM : Blk w M 39 csm)
    (ho : Only (fun k => k = Rp ∨ k = M ∨ ∃ t, t < n ∧ (rp t).1.ownBlock = some k) w w') : QAt w' base q R n by_ it ro := by
  obtain ⟨cs1, h1, _⟩ := hp.rows
  obtain ⟨cs2, h2, _⟩ := h.rows
  have hav : ∀ {g : Nat} {T : TypeId} {cs : Array Value}, Blk w g T cs → T ≠ 63 → T ≠ 34 → T ≠ 39 → ¬ (g = Rp ∨ g = M ∨ ∃ t, t < n ∧ (rp t).1.ownBlock = some g) := fun hg a b c => by
    rintro (e | e | ⟨t, ht, e⟩)
    · exact hg.ne h1 a e
    · exact hg.ne hM c e
    · obtain ⟨cur, h4⟩ := ownQ (hp.own t ht) e
      exact hg.ne h4 b rfl
  refine h.keep ho (hav h.blk (by decide) (by decide) (by decide)) ?_ (fun t ht k hk => ?_) (fun g cs hg => hav hg (by decide) (by decide) (by decide))
  · rintro (e | e | ⟨t, ht, e⟩)
    · exact hA.rows e.symm
    · exact h2.ne hM (by decide) e
    · obtain ⟨cur, h4⟩ := ownQ (hp.own t ht) e
      exact h2.ne h4 (by decide) rfl
  · obtain ⟨cur, h5⟩ := ownQ (h.own t ht) hk
    rintro (e | e | ⟨t', ht', e⟩)
    · exact h5.ne h1 (by decide) e
    · exact h5.ne hM (by decide) e
    · exact hA.own t' t k ht' ht e hk
theorem Apart.next {Rp : Nat} {rp rp' : Rows} (hA : Apart n Rp R rp ro) (h : QAt w base q R n by_ it ro) (hn : ∀ t k, t < n → (rp' t).1.ownBlock = some k → (∃ t, t < n ∧ (rp t).1.ownBlock = some k) ∨ w.heap.size ≤ k) : Apart n Rp R rp' ro := by
  refine ⟨hA.rows, fun t t' k ht ht' hk hk' => ?_⟩
  rcases hn t k ht hk with ⟨t2, ht2, e⟩ | e
  · exact hA.own t2 t' k ht2 ht' e hk'
  · have := (h.own_ne ht' hk').2.2
    omega
theorem MAt.keep {S : Nat → Prop} {M : Nat} {w' : World} (h : MAt w M n ro) (ho : Only S w w') (hM : ¬ S M) (hs : ∀ g cs, Blk w g 45 cs → ¬ S g) : MAt w' M n ro := by
  obtain ⟨cs, h1, h2, h3⟩ := h.row
  exact ⟨cs, h1.only ho hM, h2, fun t ht => by
    obtain ⟨A, c, e, hl⟩ := h3 t ht
    exact ⟨A, c, e, hl.only ho hs⟩⟩
theorem avO {t g : Nat} {T : TypeId} {cs : Array Value} {w' : World} (h : QAt w base q R n by_ it ro) (ht : t < n) (ho : Only (fun k => k = R ∨ (ro t).1.ownBlock = some k) w w') (hg : Blk w g T cs) (h1 : T ≠ 63) (h2 : T ≠ 34) : Blk w' g T cs := by
  refine hg.only ho ?_
  rintro (e | e)
  · obtain ⟨cs', h3, _⟩ := h.rows
    exact hg.ne h3 h1 e
  · obtain ⟨cur, h3⟩ := ownQ (h.own t ht) e
    exact hg.ne h3 h2 rfl
theorem lsO {t : Nat} {A : Option Addr} {c : Nat} {l : List SI} {w' : World} (h : QAt w base q R n by_ it ro) (ht : t < n) (ho : Only (fun k => k = R ∨ (ro t).1.ownBlock = some k) w w') (hl : LS w A c l) : LS w' A c l := by
  refine hl.only ho ?_
  rintro g cs hg (e | e)
  · obtain ⟨cs', h3, _⟩ := h.rows
    exact hg.ne h3 (by decide) e
  · obtain ⟨cur, h3⟩ := ownQ (h.own t ht) e
    exact hg.ne h3 (by decide) rfl
theorem frO {t : Nat} {w0 w' : World} (h : QAt w w0.heap.size q R n by_ it ro) (ht : t < n) (hf : Fresh w0 w) (hR : w0.heap.size ≤ R) (ho : Only (fun k => k = R ∨ (ro t).1.ownBlock = some k) w w') : Fresh w0 w' :=
  hf.only ho (fun k e => by
    rcases e with e | e
    · rw [e]; exact hR
    · exact ((h.own t ht).lt k e).1)
def StepO (base q R M n : Nat) (by_ it : Int) (ro : Rows) (t : Nat) (w : World) (e : Ending) (w' : World) : Prop :=
  ∃ ro', e = .returned (.bool true) ∧ QAt w' base q R n by_ it ro' ∧ MAt w' M n ro' ∧ Only (fun k => k = R ∨ k = M ∨ ∃ t, t < n ∧ (ro t).1.ownBlock = some k) w w' ∧ (∀ t k, t < n → (ro' t).1.ownBlock = some k → (∃ t, t < n ∧ (ro t).1.ownBlock = some k) ∨ w.heap.size ≤ k) ∧ ro' t = ro t
theorem step_other (M t : Nat) (zA : Option Addr) (zn zc : Nat) (o : OpQ) (h : QAt w base q R n by_ it ro) (hM : MAt w M n ro) (hb : base ≤ w.heap.size) (hx : o.x.In w) (hz : o.x.z ≤ 1000000) (h6 : o.k ≠ 6) (hot : o.t ≠ (t : Int)) :
    Calls Try.prog 10 #[.pointer (some ⟨q, 0, none⟩), .slice (some ⟨M, 0, none⟩) n n, .agg #[.int .i64 (n : Int), .int .i64 by_, .int .i64 it, .slice zA zn zc], o.v] w (StepO base q R M n by_ it ro t w) := by
  by_cases ht : o.t < 0 ∨ (n : Int) ≤ o.t
  · refine (step_no _ ⟨_, _, _, rfl⟩ zA zn zc o h h6 ht).mono ?_
    rintro e w' ⟨rfl, hf⟩
    have hf' : Fresh w w' := hf
    exact ⟨ro, rfl, h.fresh hf', hM.fresh hf', Only.of_fresh hf', fun t ht hk => fun e => .inl ⟨t, hk, e⟩, rfl⟩
  · obtain ⟨t', hot'⟩ : ∃ t : Nat, o.t = (t : Int) := ⟨o.t.toNat, by omega⟩
    refine (step_one M zA t' zn zc o h hM hb (by omega) hot' h6 hx hz).mono ?_
    rintro e w' ⟨v', xs', rfl, h1, h2, _, h4, h5⟩
    refine ⟨_, rfl, h1, h2, h4.mono (fun k e => ?_), fun j k hj hk => ?_, updR_ne _ _ (by omega)⟩
    · rcases e with e | e | e
      · exact .inl e
      · exact .inr (.inl e)
      · exact .inr (.inr ⟨t', by omega, e⟩)
    · by_cases e : j = t'
      · subst e
        rw [updR_same] at hk
        exact (h5 k hk).imp (fun e => ⟨j, hj, e⟩) id
      · rw [updR_ne _ _ e] at hk
        exact .inl ⟨j, hj, hk⟩
end
structure OneSt (w : World) (base p Rp q Rq M n : Nat) (b c : Int) (b0 : Nat) (cs0 : Array Value) (rp rq : Rows) (t : Nat) (wr : World) : Prop where
  fr : Fresh w wr
  p : QAt wr base p Rp n b c rp
  q : QAt wr base q Rq n b c rq
  m : MAt wr M n rp
  z : Blk wr b0 24 cs0
  ap : Apart n Rp Rq rp rq
  eq : saidL (rp t).2 = saidL (rq t).2
set_option maxRecDepth 100000 in
set_option maxHeartbeats 6400000 in
theorem QueueAlone_any (z : CaseQ) (t : Int) (w : World) (h : z.ops.Ok w) (ht64 : -9223372036854775808 ≤ t ∧ t ≤ 9223372036854775807) : Calls Try.prog 4 #[z.v, .int .i64 t] w fun e w' => e = .returned (.bool true) ∧ Below w.heap.size w w' := by
  show Calls _ _ _ _ (LwP w)
  clear ht64
  obtain ⟨a, b, c, s⟩ := z
  have H := Lib.hid h
  have HRT := Lib.hid (fun W (hw : Fresh w W) => qu_right ⟨a, b, c, s⟩ W (h.fresh hw))
  have HAW := Lib.hid (fun W => qu_awake W)
  have hle := h.le
  have hmx := h.max
  simp only at hle hmx
  simp only [maxLen] at hmx
  obtain ⟨A, cc, xs⟩ := s
  simp only [CaseQ.v, OpsQ.v] at HRT ⊢
  obtain ⟨m, hm⟩ : ∃ m, xs.length = m := ⟨_, rfl⟩
  have HM := Lib.hid hm
  simp only at hle hmx
  rw [hm] at HRT hle ⊢
  clear h hm
  go_enter Try.func4, Try.ntmps4
  go_upto_region 1 with fail
  obtain ⟨b0, hb0⟩ : ∃ b0, w.heap.size = b0 := ⟨_, rfl⟩
  have HB0 := Lib.hid hb0
  rw [hb0]
  refine wp_gen (fun W => Fresh w W ∧ Blk W b0 24 #[.int .i64 a, .int .i64 b, .int .i64 c, .slice A m cc]) ⟨Fresh.alloc _ _, Blk.mkAt hb0⟩ ?_
  clear hb0
  rintro W ⟨hf0, hz0⟩
  have HF0 := Lib.hid hf0
  have HZ0 := Lib.hid hz0
  obtain ⟨z0, z1, z2, z3⟩ := hz0.c4
  clear hf0 hz0
  go_wp2_with fail
  with_reducible refine (HRT.out _ HF0.out).mono ?_
  rintro e w1 ⟨r, rfl, hf1, hr1⟩
  have HF1 := Lib.hid (HF0.out.trans hf1)
  have HZ1 := Lib.hid (HZ0.out.fresh hf1)
  have HR1 : Hid (r = true → (1 ≤ a ∧ a ≤ 64 ∧ 0 ≤ b ∧ b ≤ 1048576 ∧ 1 ≤ c ∧ c ≤ 4096) ∧ (∀ o ∈ xs, o.x.z ≤ 4000) ∧ xs.length ≤ 100) := hr1
  clear hf1 hr1 z0 z1 z2 z3
  have y0 := HZ1.out.cell 0
  have HAWF : Hid (∀ W, Fresh w W → Calls Try.prog 8 #[] W fun e w' => e = .returned (.bool true) ∧ Fresh w w') := Lib.hid (fun W hW => (HAW.out W).mono (fun e w' h => ⟨h.1, hW.trans h.2⟩))
  by_cases hgo : r = false ∨ t < 0 ∨ a ≤ t
  · have HEND : Hid (∀ w2, Fresh w w2 → LwP w (.returned (.bool true)) w2) := Lib.hid (fun w2 h => ⟨rfl, h⟩)
    rcases hgo with rfl | hgo | hgo
    · go_wp2_with fail
      with_reducible refine (HAWF.out _ HF1.out).mono ?_
      rintro e w2 ⟨rfl, hf2⟩
      have HF2 := Lib.hid hf2
      clear hf2
      go_wp2
      go_ret
      exact HEND.out _ HF2.out
    · cases r
      all_goals
        go_wp2_with fail
        with_reducible refine (HAWF.out _ HF1.out).mono ?_
        rintro e w2 ⟨rfl, hf2⟩
        have HF2 := Lib.hid hf2
        clear hf2
        go_wp2
        go_ret
        exact HEND.out _ HF2.out
    · by_cases h0 : t < 0
      all_goals
        cases r
        all_goals
          go_wp2_with fail
          with_reducible refine (HAWF.out _ HF1.out).mono ?_
          rintro e w2 ⟨rfl, hf2⟩
          have HF2 := Lib.hid hf2
          clear hf2
          go_wp2
          go_ret
          exact HEND.out _ HF2.out
  obtain ⟨hr, ht0, hta⟩ : r = true ∧ ¬ t < 0 ∧ ¬ a ≤ t := ⟨by cases r <;> simp at hgo ⊢, by omega, by omega⟩
  subst hr
  clear hgo
  obtain ⟨⟨n1, n2, n3, n4, n5, n6⟩, hall, hlen⟩ := HR1.out rfl
  obtain ⟨n, rfl⟩ : ∃ n : Nat, a = (n : Int) := ⟨a.toNat, by omega⟩
  obtain ⟨t, rfl⟩ : ∃ t' : Nat, t = (t' : Int) := ⟨t.toNat, by omega⟩
  have HALL := Lib.hid hall
  have HNW := Lib.hid (fun W => qu_new n b c W (by omega) (by omega) n3 n4 n5 n6)
  have hmk := run_makeZ (P := Try.prog) Try.underlying31 rows_info rfl n (n : Int) rfl (by omega) (by omega)
  have hn64 : n ≤ 64 := by omega
  have htn : t < n := by omega
  have hmm : m ≤ 100 := by have := HM.out; omega
  have ht1 : decide ((t : Int) < 0) = false := by simp
  have ht2 : decide ((n : Int) ≤ (t : Int)) = false := by simp; omega
  have ht3 : decide (n ≤ t) = false := by simp; omega
  clear y0
  obtain ⟨z0, z1, z2, z3⟩ := HZ1.out.c4
  clear hall hlen n1 n2 n3 n4 n5 n6 HR1
  go_wp2_with fail
  with_reducible refine (HNW.out _).mono ?_
  rintro e w2 ⟨p, Rp, rfl, hq2, hqq, hqR, hf2⟩
  have HF2 := Lib.hid (HF1.out.trans hf2)
  have HP2 := Lib.hid (hq2 w.heap.size)
  have HZ2 := Lib.hid (HZ1.out.fresh hf2)
  have HRP : Hid (w.heap.size ≤ Rp) := Lib.hid (Nat.le_trans HF1.out.size hqR)
  clear hq2 hqq hqR hf2 z0 z1 z2 z3 ht1 ht2 ht3
  obtain ⟨z0, z1, z2, z3⟩ := HZ2.out.c4
  go_wp2_with fail
  with_reducible refine (HNW.out _).mono ?_
  rintro e w3 ⟨q, Rq, rfl, hq2, hqq, hqR, hf2⟩
  have HF3 := Lib.hid (HF2.out.trans hf2)
  have HP3 := Lib.hid (HP2.out.fresh hf2)
  have HQ3 := Lib.hid (hq2 w.heap.size)
  have HZ3 := Lib.hid (HZ2.out.fresh hf2)
  have HRQ : Hid (w.heap.size ≤ Rq ∧ Rp ≠ Rq) := Lib.hid ⟨Nat.le_trans HF2.out.size hqR, by
    obtain ⟨cs, h1, _⟩ := HP2.out.rows
    have := h1.lt
    omega⟩
  clear hq2 hqq hqR hf2 z0 z1 z2 z3
  obtain ⟨z0, z1, z2, z3⟩ := HZ3.out.c4
  go_upto_region 8 with fail
  obtain ⟨M, hM⟩ : ∃ M, w3.heap.size = M := ⟨_, rfl⟩
  have HMM : Hid (w.heap.size ≤ M) := Lib.hid (by rw [← hM]; exact HF3.out.size)
  rw [hM]
  refine wp_gen (fun W => OneSt w w.heap.size p Rp q Rq M n b c b0 #[.int .i64 (n : Int), .int .i64 b, .int .i64 c, .slice A m cc] nilR nilR t W) ⟨HF3.out.allocS _, HP3.out.fresh (Fresh.alloc _ _), HQ3.out.fresh (Fresh.alloc _ _), by rw [← hM]; exact MAt.new, HZ3.out.alloc _, ⟨HRQ.out.2, fun _ _ _ _ _ hk => by cases hk⟩, rfl⟩ ?_
  clear hM hmk z0 z1 z2 z3
  intro W3 hst
  have HX3 := Lib.hid hst
  have z3 := hst.z.cell 3
  clear hst
  go_wp2
  clear z3
  go_loopw [69] (fun i wr => ∃ (k : Nat) (rp rq : Rows), k ≤ m ∧ i = .int .i64 (k : Int) ∧ OneSt w w.heap.size p Rp q Rq M n b c b0 #[.int .i64 (n : Int), .int .i64 b, .int .i64 c, .slice A m cc] rp rq t wr) (fun i _ => m - (intOf i).toNat)
  case atStart => exact ⟨0, nilR, nilR, by omega, rfl, HX3.out⟩
  case round =>
    obtain ⟨k, rp, rq, hk, rfl, hst⟩ := hrel
    have HX := Lib.hid hst
    by_cases hlt : k < m
    · have hlt' : (k : Int) < (m : Int) := by omega
      obtain ⟨o, hx⟩ : ∃ x, xs[k]? = some x := ⟨_, List.getElem?_eq_getElem (by rw [HM.out]; exact hlt)⟩
      have hin := H.out.ok o (List.mem_of_getElem? hx)
      obtain ⟨bb, ff, hA, hb, y0, y1, y2, y3, y4, y5⟩ := (H.out.rows.fresh hst.fr).at6 k o hx
      simp only at hA
      subst hA
      have HIN := Lib.hid (fun W (hW : Fresh w W) => hin.fresh hW)
      have HOZ : Hid (o.x.z ≤ 1000000) := Lib.hid (by have := HALL.out o (List.mem_of_getElem? hx); omega)
      have z3 := hst.z.cell 3
      have hmk0 : (0 : Int) ≤ (k : Int) := by omega
      clear hx hb hin hst
      go_upto_region 11 with fail
      obtain ⟨b7, hb7⟩ : ∃ b7, wr.heap.size = b7 := ⟨_, rfl⟩
      rw [hb7]
      refine wp_gen (fun W => Fresh wr W ∧ Blk W b7 36 (OpP o)) ⟨?_, ?_⟩ ?_
      · repeat (first | with_reducible exact Fresh.refl _ | with_reducible apply Fresh.drewS | with_reducible apply Fresh.allocS | (with_reducible refine Fresh.step2 ?_ ?_; focus exact Nat.le_of_eq hb7))
      · exact Blk.mkAt hb7
      clear hb7 y0 y1 y2 y3 y4 y5 z3
      rintro W4 ⟨hf4, ho4⟩
      have HF4 := Lib.hid hf4
      have HO4 := Lib.hid ho4
      unfold OpP at ho4
      obtain ⟨o0, o1, o2, o3, o4, o5⟩ := ho4.c6
      clear hf4 ho4
      by_cases hk6 : o.k = 6
      · have e6 : (o.k == 6) = true := by simpa using hk6
        rw [hk6] at o0
        clear o1 o2 o3 o4 o5
        go_wp2
        go_roundw
        case rel =>
          obtain ⟨x1, x2, x3, x4, x5, x6, x7⟩ := HX.out
          exact ⟨k + 1, rp, rq, by omega, by go_num, x1.trans HF4.out, x2.fresh HF4.out, x3.fresh HF4.out, x4.fresh HF4.out, x5.fresh HF4.out, x6, x7⟩
        case measure => simp [intOf]; omega
      have e6 : (o.k == 6) = false := by simpa using hk6
      have HK6 := Lib.hid hk6
      clear hk6
      by_cases hot : o.t = (t : Int)
      · rw [hot] at o1
        have HOT := Lib.hid hot
        have e7 : ((t : Int) != (t : Int)) = false := by simp
        have ht4 : (0 : Int) ≤ (t : Int) := by omega
        have ht5 : (t : Int) < (n : Int) := by omega
        obtain ⟨x1, x2, x3, x4, x5, x6, x7⟩ := HX.out
        have HP := Lib.hid (x2.fresh HF4.out)
        have HQ := Lib.hid (x3.fresh HF4.out)
        obtain ⟨csm, hcm, hcn, hcs⟩ := (x4.fresh HF4.out).row
        obtain ⟨A0, c0, hAt, hLS⟩ := hcs t htn
        have HCM := Lib.hid (And.intro hcm (And.intro hcn hcs))
        have HLS := Lib.hid hLS
        have HZ4 := Lib.hid (x5.fresh HF4.out)
        have HAP := Lib.hid x6
        have HSA := Lib.hid x7
        have HFW := Lib.hid (x1.trans HF4.out)
        have HWL : Hid (w.heap.size ≤ W4.heap.size) := Lib.hid HFW.out.size
        have hL0 : (rq t).2.length = (rp t).2.length := by rw [← saidL_len, ← saidL_len, x7]
        have HON := Lib.hid (fun W (hw : Fresh W4 W) => one_any A0 (some ⟨bb, ff, none⟩) c0 t (rp t).2.length m cc (n : Int) o (HP.out.fresh hw) (Nat.le_trans HWL.out hw.size) htn HOT.out (hLS.fresh hw) (HIN.out _ (HFW.out.trans hw)) HOZ.out rfl)
        obtain ⟨L0, hL⟩ : ∃ L0, (rp t).2.length = L0 := ⟨_, rfl⟩
        have HL0 : Hid ((rq t).2.length = L0) := Lib.hid (hL0.trans hL)
        rw [hL] at hAt HON
        have HAT := Lib.hid hAt
        unfold OpQ.v at HON
        rw [hot] at HON
        have HSK : Hid (∀ w', Only (fun k => k = Rp ∨ (rp t).1.ownBlock = some k) W4 w' → w'.cell? ⟨b0, 0, none⟩ = some (.int .i64 (n : Int)) ∧ w'.cell? ⟨b0, 1, none⟩ = some (.int .i64 b) ∧ w'.cell? ⟨b0, 2, none⟩ = some (.int .i64 c) ∧ w'.cell? ⟨b0, 3, none⟩ = some (.slice (some ⟨bb, ff, none⟩) m cc) ∧ w'.cell? ⟨b7, 0, none⟩ = some (.int .i64 o.k) ∧ w'.cell? ⟨b7, 1, none⟩ = some (.int .i64 (t : Int)) ∧ w'.cell? ⟨b7, 2, none⟩ = some (.int .i64 o.n) ∧ w'.cell? ⟨b7, 3, none⟩ = some (.int .i64 o.x.num) ∧ w'.cell? ⟨b7, 4, none⟩ = some (.slice o.x.HA o.x.h.length o.x.hc) ∧ w'.cell? ⟨b7, 5, none⟩ = some (.slice o.x.BA o.x.b.length o.x.bc) ∧ w'.cell? ⟨M, t, none⟩ = some (.slice A0 L0 c0) ∧ Only (fun k => k = Rp ∨ (rp t).1.ownBlock = some k) W4 w') := Lib.hid (fun w' hw => by
          have hz := avO HP.out htn hw HZ4.out (by decide) (by decide)
          have ho := avO HP.out htn hw HO4.out (by decide) (by decide)
          unfold OpP at ho
          rw [HOT.out] at ho
          have hm := avO HP.out htn hw HCM.out.1 (by decide) (by decide)
          exact ⟨hz.cell 0, hz.cell 1, hz.cell 2, hz.cell 3, ho.cell 0, ho.cell 1, ho.cell 2, ho.cell 3, ho.cell 4, ho.cell 5, by rw [hm.cell]; exact HAT.out, hw⟩)
        clear hcm hcn hcs hAt hLS x1 x2 x3 x4 x5 x6 x7 hot hL hL0
        go_upto_region 15 with fail
        obtain ⟨v0, v1, v2, v3, v4, v5, v6, v7, v8, v9, v10, _⟩ := HSK.out W4 (Only.refl _ _)
        clear o0 o1 o2 o3 o4 o5
        go_region_held3 (fun w' => w'.cell? ⟨b0, 0, none⟩ = some (.int .i64 (n : Int)) ∧ w'.cell? ⟨b0, 1, none⟩ = some (.int .i64 b) ∧ w'.cell? ⟨b0, 2, none⟩ = some (.int .i64 c) ∧ w'.cell? ⟨b0, 3, none⟩ = some (.slice (some ⟨bb, ff, none⟩) m cc) ∧ w'.cell? ⟨b7, 0, none⟩ = some (.int .i64 o.k) ∧ w'.cell? ⟨b7, 1, none⟩ = some (.int .i64 (t : Int)) ∧ w'.cell? ⟨b7, 2, none⟩ = some (.int .i64 o.n) ∧ w'.cell? ⟨b7, 3, none⟩ = some (.int .i64 o.x.num) ∧ w'.cell? ⟨b7, 4, none⟩ = some (.slice o.x.HA o.x.h.length o.x.hc) ∧ w'.cell? ⟨b7, 5, none⟩ = some (.slice o.x.BA o.x.b.length o.x.bc) ∧ w'.cell? ⟨M, t, none⟩ = some (.slice A0 L0 c0) ∧ Only (fun k => k = Rp ∨ (rp t).1.ownBlock = some k) W4 w')
          ((refine HSK.out _ ?_; first | with_reducible assumption | with_reducible exact Only.of_fresh (Fresh.drew _)))
          (first
            | (go_at_call 14; (with_reducible refine (HON.out _ (Fresh.drew _)).mono ?_); rintro e w5 ⟨A1, c1, rp1, rfl, hls, hq5, hx5, hj5, ho5, hn5⟩; have hg5 : Only (fun k => k = Rp ∨ (rp t).1.ownBlock = some k) W4 w5 := Only.trans (Only.of_fresh (Fresh.drew _)) ho5; have HX5 := Lib.hid (And.intro hls (And.intro hq5 (And.intro hx5 (And.intro hj5 hn5)))); clear hls hq5 hx5 hj5 hn5 ho5))
        all_goals
          have HG5 := Lib.hid hg5
          have HQ5 : Hid (QAt w5 w.heap.size q Rq n b c rq) := Lib.hid (HAP.out.keep HP.out HQ.out HCM.out.1 (hg5.mono (fun i e => e.elim .inl (fun e => .inr (.inr ⟨t, htn, e⟩)))))
          have HLS5 : Hid (LS w5 A0 c0 (saidL (rq t).2)) := Lib.hid (by
            rw [← HSA.out]
            exact lsO HP.out htn hg5 HLS.out)
          have HF5 : Hid (Fresh w w5) := Lib.hid (frO HP.out htn HFW.out HRP.out hg5)
          have HZ5 := Lib.hid (avO HP.out htn hg5 HZ4.out (by decide) (by decide))
          have HO5 := Lib.hid (avO HP.out htn hg5 HO4.out (by decide) (by decide))
          have HM5 := Lib.hid (avO HP.out htn hg5 HCM.out.1 (by decide) (by decide))
          obtain ⟨L1, hL1⟩ : ∃ L1, (rp1 t).2.length = L1 := ⟨_, rfl⟩
          have HL1 := Lib.hid hL1
          rw [hL1]
          have HON2 := Lib.hid (fun W (hw : Fresh w5 W) => one_any A0 (some ⟨bb, ff, none⟩) c0 t L0 m cc (n : Int) o (HQ5.out.fresh hw) (Nat.le_trans HF5.out.size hw.size) htn HOT.out (HLS5.out.fresh hw) (HIN.out _ (HF5.out.trans hw)) HOZ.out HL0.out)
          unfold OpQ.v at HON2
          rw [HOT.out] at HON2
          have HSK2 : Hid (∀ w', Only (fun k => k = Rq ∨ (rq t).1.ownBlock = some k) w5 w' → w'.cell? ⟨b0, 0, none⟩ = some (.int .i64 (n : Int)) ∧ w'.cell? ⟨b0, 1, none⟩ = some (.int .i64 b) ∧ w'.cell? ⟨b0, 2, none⟩ = some (.int .i64 c) ∧ w'.cell? ⟨b0, 3, none⟩ = some (.slice (some ⟨bb, ff, none⟩) m cc) ∧ w'.cell? ⟨b7, 0, none⟩ = some (.int .i64 o.k) ∧ w'.cell? ⟨b7, 1, none⟩ = some (.int .i64 (t : Int)) ∧ w'.cell? ⟨b7, 2, none⟩ = some (.int .i64 o.n) ∧ w'.cell? ⟨b7, 3, none⟩ = some (.int .i64 o.x.num) ∧ w'.cell? ⟨b7, 4, none⟩ = some (.slice o.x.HA o.x.h.length o.x.hc) ∧ w'.cell? ⟨b7, 5, none⟩ = some (.slice o.x.BA o.x.b.length o.x.bc) ∧ w'.cell? ⟨M, t, none⟩ = some (.slice A0 L0 c0) ∧ Only (fun k => k = Rq ∨ (rq t).1.ownBlock = some k) w5 w') := Lib.hid (fun w' hw => by
            have hz := avO HQ5.out htn hw HZ5.out (by decide) (by decide)
            have ho := avO HQ5.out htn hw HO5.out (by decide) (by decide)
            unfold OpP at ho
            rw [HOT.out] at ho
            have hm := avO HQ5.out htn hw HM5.out (by decide) (by decide)
            exact ⟨hz.cell 0, hz.cell 1, hz.cell 2, hz.cell 3, ho.cell 0, ho.cell 1, ho.cell 2, ho.cell 3, ho.cell 4, ho.cell 5, by rw [hm.cell]; exact HAT.out, hw⟩)
          clear v0 v1 v2 v3 v4 v5 v6 v7 v8 v9 v10 hg5 HSK hL1 HON
          go_upto_region 16 with fail
          obtain ⟨v0, v1, v2, v3, v4, v5, v6, v7, v8, v9, v10, _⟩ := HSK2.out w5 (Only.refl _ _)
          go_region_held3 (fun w' => w'.cell? ⟨b0, 0, none⟩ = some (.int .i64 (n : Int)) ∧ w'.cell? ⟨b0, 1, none⟩ = some (.int .i64 b) ∧ w'.cell? ⟨b0, 2, none⟩ = some (.int .i64 c) ∧ w'.cell? ⟨b0, 3, none⟩ = some (.slice (some ⟨bb, ff, none⟩) m cc) ∧ w'.cell? ⟨b7, 0, none⟩ = some (.int .i64 o.k) ∧ w'.cell? ⟨b7, 1, none⟩ = some (.int .i64 (t : Int)) ∧ w'.cell? ⟨b7, 2, none⟩ = some (.int .i64 o.n) ∧ w'.cell? ⟨b7, 3, none⟩ = some (.int .i64 o.x.num) ∧ w'.cell? ⟨b7, 4, none⟩ = some (.slice o.x.HA o.x.h.length o.x.hc) ∧ w'.cell? ⟨b7, 5, none⟩ = some (.slice o.x.BA o.x.b.length o.x.bc) ∧ w'.cell? ⟨M, t, none⟩ = some (.slice A0 L0 c0) ∧ Only (fun k => k = Rq ∨ (rq t).1.ownBlock = some k) w5 w')
            ((refine HSK2.out _ ?_; first | with_reducible assumption | with_reducible exact Only.of_fresh (Fresh.drew _)))
            (first
              | (go_at_call 14; (with_reducible refine (HON2.out _ (Fresh.drew _)).mono ?_); rintro e w6 ⟨A2, c2, rq1, rfl, hls, hq6, hx6, hj6, ho6, hn6⟩; have hg6 : Only (fun k => k = Rq ∨ (rq t).1.ownBlock = some k) w5 w6 := Only.trans (Only.of_fresh (Fresh.drew _)) ho6; have HX6 := Lib.hid (And.intro hq6 (And.intro hx6 (And.intro hj6 hn6))); clear hls hq6 hx6 hj6 hn6 ho6))
          all_goals
            clear v0 v1 v2 v3 v4 v5 v6 v7 v8 v9 v10 HSK2 HON2
            have HG6 := Lib.hid hg6
            have HM6 := Lib.hid (avO HQ5.out htn hg6 HM5.out (by decide) (by decide))
            have y0 : w6.cell? ⟨M, t, none⟩ = some (.slice A0 L0 c0) := by rw [HM6.out.cell]; exact HAT.out
            have y1 := HM6.out.frozen t
            clear hg6
            go_upto_region 18 with fail
            refine wp_gen (fun W7 => OneSt w w.heap.size p Rp q Rq M n b c b0 #[.int .i64 (n : Int), .int .i64 b, .int .i64 c, .slice (some ⟨bb, ff, none⟩) m cc] rp1 rq1 t W7) ?_ ?_
            · obtain ⟨hls, hq5, hx5, hj5, hn5⟩ := HX5.out
              obtain ⟨hq6, hx6, hj6, hn6⟩ := HX6.out
              have hap1 : Apart n Rp Rq rp1 rq := HAP.out.next HQ.out (fun j k hj hk => by
                by_cases e : j = t
                · subst e
                  exact (hn5 k hk).imp (fun e => ⟨j, hj, e⟩) id
                · rw [hj5 j e] at hk
                  exact .inl ⟨j, hj, hk⟩)
              have hap2 : Apart n Rp Rq rp1 rq1 := (hap1.symm.next hq5 (fun j k hj hk => by
                by_cases e : j = t
                · subst e
                  exact (hn6 k hk).imp (fun e => ⟨j, hj, e⟩) id
                · rw [hj6 j e] at hk
                  exact .inl ⟨j, hj, hk⟩)).symm
              have hp6 := hap1.symm.keep HQ5.out hq5 HM5.out (HG6.out.mono (fun i e => e.elim .inl (fun e => .inr (.inr ⟨t, htn, e⟩))))
              have hset : Only (· = M) w6 (w6.setCell ⟨M, t, none⟩ (.slice A1 L1 c1)) := Only.setCell _ ⟨M, t, none⟩ _
              refine ⟨(frO HQ5.out htn HF5.out HRQ.out.1 HG6.out).step ⟨M, t, none⟩ _ HMM.out, hp6.onlyM HM6.out hset, hq6.onlyM HM6.out hset, ⟨⟨_, HM6.out.set t _, by simp [HCM.out.2.1], fun j hj => ?_⟩⟩, (avO HQ5.out htn HG6.out HZ5.out (by decide) (by decide)).only hset (fun e => HZ4.out.ne HCM.out.1 (by decide) e), hap2, ?_⟩
              · by_cases e : j = t
                · subst e
                  exact ⟨A1, c1, by rw [Array.getElem?_setIfInBounds_self_of_lt (by rw [HCM.out.2.1]; exact hj), HL1.out], (lsO HQ5.out htn HG6.out hls).onlyM HM6.out hset⟩
                · obtain ⟨Aj, cj, h1, h2⟩ := HCM.out.2.2 j hj
                  refine ⟨Aj, cj, by rw [Array.getElem?_setIfInBounds_ne (by omega), h1, hj5 j e], ?_⟩
                  rw [hj5 j e]
                  exact (lsO HQ5.out htn HG6.out (lsO HP.out htn HG5.out h2)).onlyM HM6.out hset
              · rw [hx5, hx6, HSA.out]
            clear y0 y1
            intro W7 hst7
            have HX7 := Lib.hid hst7
            have hzz : qz (rp1 t).2 = qz (rq1 t).2 := by rw [← saidL_sz, ← saidL_sz, hst7.eq]
            have hll : (rp1 t).2.length = (rq1 t).2.length := by rw [← saidL_len, ← saidL_len, hst7.eq]
            have HB1 := Lib.hid (qu_bytes t hst7.p htn)
            have HB2 := Lib.hid (qu_bytes t hst7.q htn)
            have HN1 := Lib.hid (qu_len t hst7.p htn)
            have HN2 := Lib.hid (qu_len t hst7.q htn)
            rw [← hzz] at HB2
            rw [← hll] at HN2
            clear hst7 hzz hll
            generalize qz (rp1 t).2 = Z at *
            generalize (rp1 t).2.length = L at *
            go_wp2_with fail
            with_reducible refine HB1.out.mono ?_
            rintro e w8 ⟨rfl, rfl⟩
            go_wp2_with fail
            with_reducible refine HB2.out.mono ?_
            rintro e w8 ⟨rfl, rfl⟩
            go_wp2_with fail
            with_reducible refine HN1.out.mono ?_
            rintro e w8 ⟨rfl, rfl⟩
            go_wp2_with fail
            with_reducible refine HN2.out.mono ?_
            rintro e w8 ⟨rfl, rfl⟩
            go_wp2
            go_roundw
            case rel => exact ⟨k + 1, rp1, rq1, by omega, by go_num, HX7.out⟩
            case measure => simp [intOf]; omega
      · have e7 : (o.t != (t : Int)) = true := by simpa using hot
        obtain ⟨x1, x2, x3, x4, x5, x6, x7⟩ := HX.out
        have HST := Lib.hid (step_other M t (some ⟨bb, ff, none⟩) m cc o (x2.fresh HF4.out) (x4.fresh HF4.out) (x1.trans HF4.out).size (HIN.out _ (x1.trans HF4.out)) HOZ.out HK6.out hot)
        unfold OpQ.v at HST
        obtain ⟨z0, z1, z2, z3⟩ := (x5.fresh HF4.out).c4
        clear x1 x2 x3 x4 x5 x6 x7 hot
        go_wp2_with fail
        with_reducible refine HST.out.mono ?_
        rintro e w5 ⟨rp1, rfl, hq5, hm5, ho5, hn5, he5⟩
        have HST5 : Hid (OneSt w w.heap.size p Rp q Rq M n b c b0 #[.int .i64 (n : Int), .int .i64 b, .int .i64 c, .slice (some ⟨bb, ff, none⟩) m cc] rp1 rq t w5) := Lib.hid (by
          obtain ⟨x1, x2, x3, x4, x5, x6, x7⟩ := HX.out
          obtain ⟨csm, hcm, _⟩ := (x4.fresh HF4.out).row
          exact ⟨StepP.next (x2.fresh HF4.out) (x1.trans HF4.out) HRP.out HMM.out ho5, hq5, x6.keep (x2.fresh HF4.out) (x3.fresh HF4.out) hcm ho5, hm5, StepP.avoid (x2.fresh HF4.out) (x4.fresh HF4.out) ho5 (x5.fresh HF4.out) (by decide) (by decide) (by decide), x6.next (x3.fresh HF4.out) hn5, by rw [he5]; exact x7⟩)
        clear hq5 hm5 ho5 hn5 he5 o0 o1 o2 o3 o4 o5 z0 z1 z2 z3
        go_wp2
        go_roundw
        case rel => exact ⟨k + 1, rp1, rq, by omega, by go_num, HST5.out⟩
        case measure => simp [intOf]; omega
    · obtain rfl : k = m := by omega
      clear hst
      have hx1 : Fresh w wr := HX.out.fr
      have HX1 := Lib.hid hx1
      clear hx1
      go_wp2_with fail
      with_reducible refine (HAWF.out _ HX1.out).mono ?_
      rintro e w5 ⟨rfl, hf5⟩
      have HF5 := Lib.hid hf5
      clear hf5
      go_wp2
      go_ret
      exact ⟨rfl, HF5.out⟩
end Go.Proofs.Ythfifeclmikbgaa
