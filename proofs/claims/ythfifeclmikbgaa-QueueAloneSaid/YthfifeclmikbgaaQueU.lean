/-
  The law's one and step, any call.
-/
import Derived.Test.YthfifeclmikbgaaQueT
namespace Go.Proofs.Ythfifeclmikbgaa
set_option linter.unusedVariables false
set_option linter.unusedSimpArgs false
open Go.RowKit
section
variable {base q R n : Nat} {by_ it : Int} {ro : Rows} {w : World}
def OpQ.v (o : OpQ) : Value := .agg #[.int .i64 o.k, .int .i64 o.t, .int .i64 o.n, .int .i64 o.x.num, .slice o.x.HA o.x.h.length o.x.hc, .slice o.x.BA o.x.b.length o.x.bc]
theorem one_any (A zA : Option Addr) (c t m zn zc : Nat) (a : Int) (o : OpQ) (h : QAt w base q R n by_ it ro) (hb : base ≤ w.heap.size) (ht : t < n) (hot : o.t = (t : Int)) (hl : LS w A c (saidL (ro t).2)) (hx : o.x.In w) (hz : o.x.z ≤ 1000000) (hm : (ro t).2.length = m) :
    Calls Try.prog 14 #[.pointer (some ⟨q, 0, none⟩), .slice A m c, .agg #[.int .i64 a, .int .i64 by_, .int .i64 it, .slice zA zn zc], o.v] w (OneP base q R n by_ it ro t o w) := by
  obtain ⟨k, ot, nn, x⟩ := o
  simp only at hot hx hz
  subst hot
  unfold OpQ.v
  simp only
  by_cases k1 : k = 1
  · subst k1
    exact one_put A zA c t m zn zc a nn x h hb ht hl hx hz hm
  by_cases k5 : k = 5
  · subst k5
    exact one_drop A zA c t m zn zc a it nn x h ht hl hm
  by_cases hm0 : m = 0
  · subst hm0
    exact one_nil A zA c t zn zc a it k nn x k1 k5 h ht hl hm
  obtain ⟨y, r, hr⟩ : ∃ y r, (ro t).2 = y :: r := by
    cases hro : (ro t).2 with
    | nil => rw [hro] at hm; simp at hm; omega
    | cons y r => exact ⟨y, r, rfl⟩
  by_cases k2 : k = 2
  · subst k2
    exact one_first A zA c t m zn zc a by_ it nn x y r h ht hr hl hm
  by_cases k4 : k = 4
  · subst k4
    exact one_pop A zA c t m zn zc a it nn x y r h ht hr hl (by rw [hr] at hm; simpa using hm)
  by_cases k3 : k = 3
  · subst k3
    by_cases hd : nn < 0 ∨ (y.b.length : Int) < nn
    · exact one_cut_no A zA c t m zn zc a by_ it nn x y r h ht hr hl hm hd
    · obtain ⟨d, rfl⟩ : ∃ d : Nat, nn = (d : Int) := ⟨nn.toNat, by omega⟩
      exact one_cut A zA c t m zn zc d a by_ it x y r h ht hr hl hm (by omega)
  · refine (one_other (q := q) (w := w) A c m (.slice zA zn zc) a by_ it ⟨k, (t : Int), nn, x⟩ (.inr ⟨_, _, _, rfl⟩) k1 k2 k3 k4 k5 (by omega)).mono ?_
    rintro e w' ⟨rfl, hf⟩
    refine OneP.same h hl ?_ hm hf
    simp only [nextS]
    rw [if_neg k1, if_neg k5]
    cases saidL (ro t).2 with
    | nil => rfl
    | cons a b => simp only; rw [if_neg k3, if_neg k4]
/-- The document's lists, in a row. -/
structure MAt (w : World) (M n : Nat) (ro : Rows) : Prop where
  row : ∃ cs, Blk w M 39 cs ∧ cs.size = n ∧ ∀ t, t < n → ∃ A c, cs[t]? = some (.slice A (ro t).2.length c) ∧ LS w A c (saidL (ro t).2)
theorem MAt.fresh {w' : World} {M n : Nat} {ro : Rows} (h : MAt w M n ro) (hf : Fresh w w') : MAt w' M n ro := by
  obtain ⟨cs, h1, h2, h3⟩ := h.row
  exact ⟨cs, h1.fresh hf, h2, fun t ht => by obtain ⟨A, c, e, hl⟩ := h3 t ht; exact ⟨A, c, e, hl.fresh hf⟩⟩
def StepP (base q R M n : Nat) (by_ it : Int) (ro : Rows) (w : World) (e : Ending) (w' : World) : Prop :=
  ∃ ro', e = .returned (.bool true) ∧ QAt w' base q R n by_ it ro' ∧ MAt w' M n ro' ∧ Only (fun k => k = R ∨ k = M ∨ ∃ t, t < n ∧ (ro t).1.ownBlock = some k) w w' ∧ (∀ t k, t < n → (ro' t).1.ownBlock = some k → (∃ t, t < n ∧ (ro t).1.ownBlock = some k) ∨ w.heap.size ≤ k)
theorem QAt.onlyM {w' : World} {b : Nat} {cs : Array Value} (h : QAt w base q R n by_ it ro) (hb : Blk w b 39 cs) (ho : Only (· = b) w w') : QAt w' base q R n by_ it ro := by
  obtain ⟨cs', h1, h2, h3⟩ := h.rows
  exact ⟨h.blk.only ho (fun e => h.blk.ne hb (by decide) e), ⟨cs', h1.only ho (fun e => h1.ne hb (by decide) e), h2, h3⟩, fun t ht => (h.own t ht).only ho (fun k hk e => by
    obtain ⟨cur, hc⟩ := ownQ (h.own t ht) hk
    exact hc.ne hb (by decide) e), fun t ht x hx => (h.ok t ht x hx).only ho (fun g cs hg e => hg.ne hb (by decide) e), h.sep, h.quota, h.n1, h.n64, h.y0, h.y1, h.i0, h.i1⟩
theorem LS.onlyM {w' : World} {A : Option Addr} {c b : Nat} {l : List SI} {cs : Array Value} (h : LS w A c l) (hb : Blk w b 39 cs) (ho : Only (· = b) w w') : LS w' A c l :=
  h.only ho (fun g cs hg e => hg.ne hb (by decide) e)
def StepOneP (base q R M n : Nat) (by_ it : Int) (ro : Rows) (t : Nat) (o : OpQ) (w : World) (e : Ending) (w' : World) : Prop :=
  ∃ v' xs', e = .returned (.bool true) ∧ QAt w' base q R n by_ it (updR ro t (v', xs')) ∧ MAt w' M n (updR ro t (v', xs')) ∧ saidL xs' = nextS by_ it o (saidL (ro t).2) ∧ Only (fun k => k = R ∨ k = M ∨ (ro t).1.ownBlock = some k) w w' ∧ (∀ k, v'.ownBlock = some k → (ro t).1.ownBlock = some k ∨ w.heap.size ≤ k)
set_option maxRecDepth 100000 in
set_option maxHeartbeats 6400000 in
theorem step_one (M : Nat) (zA : Option Addr) (t zn zc : Nat) (o : OpQ) (h : QAt w base q R n by_ it ro) (hM : MAt w M n ro) (hb : base ≤ w.heap.size) (ht : t < n) (hot : o.t = (t : Int)) (hk6 : o.k ≠ 6) (hx : o.x.In w) (hz : o.x.z ≤ 1000000) :
    Calls Try.prog 10 #[.pointer (some ⟨q, 0, none⟩), .slice (some ⟨M, 0, none⟩) n n, .agg #[.int .i64 (n : Int), .int .i64 by_, .int .i64 it, .slice zA zn zc], o.v] w
      (StepOneP base q R M n by_ it ro t o w) := by
  have H := Lib.hid h
  have HB := Lib.hid hb
  have HMM := Lib.hid hM
  obtain ⟨csm, hcm, hcn, hcs⟩ := hM.row
  obtain ⟨A, c, hAt, hLS⟩ := hcs t ht
  have HCM := Lib.hid (And.intro hcm (And.intro hcn hcs))
  have HLS := Lib.hid hLS
  have h64 := h.n64
  have HX := Lib.hid hx
  have HZ := Lib.hid hz
  have HT := Lib.hid ht
  have HMC : Hid (∀ W, Blk W M 39 csm → W.cell? ⟨M, t, none⟩ = some (.slice A (ro t).2.length c) ∧ W.frozen? ⟨M, t, none⟩ = false) := Lib.hid (fun W hW => ⟨by rw [hW.cell]; exact hAt, hW.frozen t⟩)
  have HON := Lib.hid (fun W (hw : Fresh w W) => one_any A zA c t (ro t).2.length zn zc (n : Int) o (h.fresh hw) (Nat.le_trans hb hw.size) ht hot (hLS.fresh hw) (hx.fresh hw) hz rfl)
  obtain ⟨m, hm⟩ : ∃ m, (ro t).2.length = m := ⟨_, rfl⟩
  rw [hm] at HON HMC
  obtain ⟨k, ot, nn, x⟩ := o
  simp only at hot hk6
  subst hot
  unfold OpQ.v at HON ⊢
  simp only at HON ⊢
  have e6 : (k == 6) = false := by simpa using hk6
  have ht0 : decide ((t : Int) < 0) = false := by simp
  have ht1 : decide ((n : Int) ≤ (t : Int)) = false := by simp; omega
  have ht2 : decide (n ≤ t) = false := by simp; omega
  have ht3 : (0 : Int) ≤ (t : Int) := by omega
  have ht4 : (t : Int) < (n : Int) := by omega
  have ht5 : ¬ (t : Int) < 0 := by omega
  have ht6 : ¬ (n : Int) ≤ (t : Int) := by omega
  have hiW : IntKind.i64.wrap (t : Int) = (t : Int) := IntWalk.i64_in _ (by omega)
  clear h hM hcm hcn hcs hAt hLS hx hz hb hk6 hm
  go_enter Try.func10, Try.ntmps10
  go_upto_region 14 with fail
  obtain ⟨b0, hb0⟩ : ∃ b0, w.heap.size = b0 := ⟨_, rfl⟩
  rw [hb0]
  refine wp_gen (fun W => Fresh w W ∧ Blk W b0 24 #[.int .i64 (n : Int), .int .i64 by_, .int .i64 it, .slice zA zn zc] ∧ Blk W (b0 + 1) 36 #[.int .i64 k, .int .i64 (t : Int), .int .i64 nn, .int .i64 x.num, .slice x.HA x.h.length x.hc, .slice x.BA x.b.length x.bc]) ⟨(Fresh.alloc _ _).allocS _, (Blk.mkAt hb0).alloc _, Blk.mkAt (by simp; omega)⟩ ?_
  clear hb0
  rintro W ⟨hf0, hz0, ho0⟩
  have HF0 := Lib.hid hf0
  have hav0 : ∀ w', Only (fun k => k = R ∨ k = M ∨ (ro t).1.ownBlock = some k) W w' → ∀ {g : Nat} {T : TypeId} {cs : Array Value}, Blk W g T cs → T ≠ 63 → T ≠ 34 → T ≠ 39 → Blk w' g T cs := fun w' hw g T cs hg h1 h2 h4 => by
    have hq := H.out.fresh HF0.out
    refine hg.only hw ?_
    rintro (e | e | e)
    · obtain ⟨cs', h3, _⟩ := hq.rows
      exact hg.ne h3 h1 e
    · exact hg.ne (HCM.out.1.fresh HF0.out) h4 e
    · obtain ⟨cur, h3⟩ := ownQ (hq.own t HT.out) e
      exact hg.ne h3 h2 rfl
  have HSM : Hid (∀ w', Only (fun k => k = R ∨ (ro t).1.ownBlock = some k) W w' → Blk w' M 39 csm) := Lib.hid (fun w' hw => by
    have hq := H.out.fresh HF0.out
    have hg := HCM.out.1.fresh HF0.out
    refine hg.only hw ?_
    rintro (e | e)
    · obtain ⟨cs', h3, _⟩ := hq.rows
      exact hg.ne h3 (by decide) e
    · obtain ⟨cur, h3⟩ := ownQ (hq.own t HT.out) e
      exact hg.ne h3 (by decide) rfl)
  have HSK : Hid (∀ w', Only (fun k => k = R ∨ k = M ∨ (ro t).1.ownBlock = some k) W w' → w'.cell? ⟨b0, 0, none⟩ = some (.int .i64 (n : Int)) ∧ w'.cell? ⟨b0, 1, none⟩ = some (.int .i64 by_) ∧ w'.cell? ⟨b0, 2, none⟩ = some (.int .i64 it) ∧ w'.cell? ⟨b0, 3, none⟩ = some (.slice zA zn zc) ∧ w'.cell? ⟨b0 + 1, 0, none⟩ = some (.int .i64 k) ∧ w'.cell? ⟨b0 + 1, 1, none⟩ = some (.int .i64 (t : Int)) ∧ w'.cell? ⟨b0 + 1, 2, none⟩ = some (.int .i64 nn) ∧ w'.cell? ⟨b0 + 1, 3, none⟩ = some (.int .i64 x.num) ∧ w'.cell? ⟨b0 + 1, 4, none⟩ = some (.slice x.HA x.h.length x.hc) ∧ w'.cell? ⟨b0 + 1, 5, none⟩ = some (.slice x.BA x.b.length x.bc) ∧ Only (fun k => k = R ∨ k = M ∨ (ro t).1.ownBlock = some k) W w') := Lib.hid (fun w' hw => by
    have hz := hav0 w' hw hz0 (by decide) (by decide) (by decide)
    have ho := hav0 w' hw ho0 (by decide) (by decide) (by decide)
    exact ⟨hz.cell 0, hz.cell 1, hz.cell 2, hz.cell 3, ho.cell 0, ho.cell 1, ho.cell 2, ho.cell 3, ho.cell 4, ho.cell 5, hw⟩)
  obtain ⟨v0, v1, v2, v3, v4, v5, v6, v7, v8, v9, _⟩ := HSK.out W (Only.refl _ _)
  obtain ⟨v10, v11⟩ := HMC.out W (HSM.out W (Only.refl _ _))
  clear hf0 hz0 ho0 hav0
  have HGS : True := trivial
  refine wp_region_held_drew (S := (fun w' => w'.cell? ⟨b0, 0, none⟩ = some (.int .i64 (n : Int)) ∧ w'.cell? ⟨b0, 1, none⟩ = some (.int .i64 by_) ∧ w'.cell? ⟨b0, 2, none⟩ = some (.int .i64 it) ∧ w'.cell? ⟨b0, 3, none⟩ = some (.slice zA zn zc) ∧ w'.cell? ⟨b0 + 1, 0, none⟩ = some (.int .i64 k) ∧ w'.cell? ⟨b0 + 1, 1, none⟩ = some (.int .i64 (t : Int)) ∧ w'.cell? ⟨b0 + 1, 2, none⟩ = some (.int .i64 nn) ∧ w'.cell? ⟨b0 + 1, 3, none⟩ = some (.int .i64 x.num) ∧ w'.cell? ⟨b0 + 1, 4, none⟩ = some (.slice x.HA x.h.length x.hc) ∧ w'.cell? ⟨b0 + 1, 5, none⟩ = some (.slice x.BA x.b.length x.bc) ∧ Only (fun k => k = R ∨ k = M ∨ (ro t).1.ownBlock = some k) W w')) (by kernel_rfl) (HSK.out _ (Only.of_fresh (Fresh.drew _))) (fun hHeld => ?_)
  refine wpAnyH_take (i := 0) (v := ?_) rfl (by kernel_rfl) (by kernel_rfl) (by kernel_rfl) (fun _ _ _ h => h) (Or.inl ⟨by rfl, ?_⟩) (by assumption) ?_; rotate_left; focus (intro w hSw; (try dsimp only at hSw); go_simp; (try with_reducible rfl); done); (try simp only [Act.put, List.setIfInBounds_toArray, List.set_cons_zero, List.set_cons_succ])
  refine wpAnyH_take (i := 1) (v := ?_) rfl (by kernel_rfl) (by kernel_rfl) (by kernel_rfl) (fun _ _ _ h => h) (Or.inl ⟨by rfl, ?_⟩) (by assumption) ?_; rotate_left; focus (intro w hSw; (try dsimp only at hSw); go_simp; (try with_reducible rfl); done); (try simp only [Act.put, List.setIfInBounds_toArray, List.set_cons_zero, List.set_cons_succ])
  refine wpAnyH_take (i := 2) (v := ?_) rfl (by kernel_rfl) (by kernel_rfl) (by kernel_rfl) (fun _ _ _ h => h) (Or.inl ⟨by rfl, ?_⟩) (by assumption) ?_; rotate_left; focus (intro w hSw; (try dsimp only at hSw); go_simp; (try with_reducible rfl); done); (try simp only [Act.put, List.setIfInBounds_toArray, List.set_cons_zero, List.set_cons_succ])
  refine wpAnyH_take (i := 3) (v := ?_) rfl (by kernel_rfl) (by kernel_rfl) (by kernel_rfl) (fun _ _ _ h => h) (Or.inl ⟨by rfl, ?_⟩) (by assumption) ?_; rotate_left; focus (intro w hSw; (try dsimp only at hSw); go_simp; (try with_reducible rfl); done); (try simp only [Act.put, List.setIfInBounds_toArray, List.set_cons_zero, List.set_cons_succ])
  refine wpAnyH_take (i := 4) (v := ?_) rfl (by kernel_rfl) (by kernel_rfl) (by kernel_rfl) (fun _ _ _ h => h) (Or.inl ⟨by rfl, ?_⟩) (by assumption) ?_; rotate_left; focus (intro w hSw; (try dsimp only at hSw); go_simp; (try with_reducible rfl); done); (try simp only [Act.put, List.setIfInBounds_toArray, List.set_cons_zero, List.set_cons_succ])
  refine wpAnyH_take (i := 5) (v := ?_) rfl (by kernel_rfl) (by kernel_rfl) (by kernel_rfl) (fun _ _ _ h => h) (Or.inl ⟨by rfl, ?_⟩) (by assumption) ?_; rotate_left; focus (intro w hSw; (try dsimp only at hSw); go_simp; (try with_reducible rfl); done); (try simp only [Act.put, List.setIfInBounds_toArray, List.set_cons_zero, List.set_cons_succ])
  refine wpAnyH_take (i := 6) (v := ?_) rfl (by kernel_rfl) (by kernel_rfl) (by kernel_rfl) (fun _ _ _ h => h) (Or.inl ⟨by rfl, ?_⟩) (by assumption) ?_; rotate_left; focus (intro w hSw; (try dsimp only at hSw); go_simp; (try with_reducible rfl); done); (try simp only [Act.put, List.setIfInBounds_toArray, List.set_cons_zero, List.set_cons_succ])
  refine wpAnyH_take (i := 7) (v := ?_) rfl (by kernel_rfl) (by kernel_rfl) (by kernel_rfl) (fun _ _ _ h => h) (Or.inl ⟨by rfl, ?_⟩) (by assumption) ?_; rotate_left; focus (intro w hSw; (try dsimp only at hSw); go_simp; (try with_reducible rfl); done); (try simp only [Act.put, List.setIfInBounds_toArray, List.set_cons_zero, List.set_cons_succ])
  refine wpAnyH_take (i := 9) (v := ?_) rfl (by kernel_rfl) (by kernel_rfl) (by kernel_rfl) (fun _ _ _ h => h) (Or.inl ⟨by rfl, ?_⟩) (by assumption) ?_; rotate_left; focus (intro w hSw; (try dsimp only at hSw); go_simp; (try with_reducible rfl); done); (try simp only [Act.put, List.setIfInBounds_toArray, List.set_cons_zero, List.set_cons_succ])
  refine wpAnyH_take (i := 10) (v := ?_) rfl (by kernel_rfl) (by kernel_rfl) (by kernel_rfl) (fun _ _ _ h => h) (Or.inl ⟨by rfl, ?_⟩) (by assumption) ?_; rotate_left; focus (intro w hSw; (try dsimp only at hSw); go_simp; (try with_reducible rfl); done); (try simp only [Act.put, List.setIfInBounds_toArray, List.set_cons_zero, List.set_cons_succ])
  refine wpAnyH_ready (rs := [8]) (by kernel_rfl) (by simp) ?_
  refine AllReadyH.cons rfl (fun K hK => ?_) AllReadyH.nil
  go_simp
  refine hK.out _ _ hHeld (fun hHeld => ?_)
  clear hK K
  (try simp only [Act.put, List.setIfInBounds_toArray, List.set_cons_zero, List.set_cons_succ])
  refine wpAnyH_ready (rs := [11]) (by kernel_rfl) (by simp) ?_
  refine AllReadyH.cons rfl (fun K hK => ?_) AllReadyH.nil
  (go_simp; go_at_call 14; (with_reducible refine (HON.out _ (HF0.out.trans (Fresh.drew _))).mono ?_); rintro e w7 ⟨A', c', ro', rfl, hls, hq7, hx7, hj7, ho7, hn7⟩; have hg7 : Only (fun k => k = R ∨ (ro t).1.ownBlock = some k) W w7 := Only.trans (Only.of_fresh (Fresh.drew _)) ho7; have HX7 := Lib.hid (And.intro hls (And.intro hq7 (And.intro hx7 (And.intro hj7 hn7)))); have HG7 := Lib.hid hg7; have hgs : Only (fun k => k = R ∨ k = M ∨ (ro t).1.ownBlock = some k) W w7 := hg7.mono (fun i e => e.elim .inl (fun e => .inr (.inr e))); obtain ⟨m1, m2⟩ := HMC.out w7 (HSM.out w7 hg7); clear hls hq7 hx7 hj7 hn7 ho7 hg7)
  refine hK.out _ _ (HSK.out _ hgs) (fun hHeld => ?_)
  clear hK K
  (try simp only [Act.put, List.setIfInBounds_toArray, List.set_cons_zero, List.set_cons_succ])
  refine wpAnyH_take (i := 12) (v := ?_) rfl (by kernel_rfl) (by kernel_rfl) (by kernel_rfl) (fun _ _ _ h => h) (Or.inl ⟨by rfl, ?_⟩) (by assumption) ?_; rotate_left; focus (intro w hSw; (try dsimp only at hSw); go_simp; (try with_reducible rfl); done); (try simp only [Act.put, List.setIfInBounds_toArray, List.set_cons_zero, List.set_cons_succ])
  refine wpAnyH_take (i := 13) (v := ?_) rfl (by kernel_rfl) (by kernel_rfl) (by kernel_rfl) (fun _ _ _ h => h) (Or.inl ⟨by rfl, ?_⟩) (by assumption) ?_; rotate_left; focus (intro w hSw; (try dsimp only at hSw); go_simp; (try with_reducible rfl); done); (try simp only [Act.put, List.setIfInBounds_toArray, List.set_cons_zero, List.set_cons_succ])
  refine wpAnyH_take (i := 14) (v := ?_) rfl (by kernel_rfl) (by kernel_rfl) (by kernel_rfl) (fun _ _ _ h => h) (Or.inl ⟨by rfl, ?_⟩) (by assumption) ?_; rotate_left; focus (intro w hSw; (try dsimp only at hSw); go_simp; (try with_reducible rfl); done); (try simp only [Act.put, List.setIfInBounds_toArray, List.set_cons_zero, List.set_cons_succ])
  refine wpAnyH_take (i := 15) (v := ?_) rfl (by kernel_rfl) (by kernel_rfl) (by kernel_rfl) (fun _ _ _ h => h) (Or.inl ⟨by rfl, ?_⟩) (by assumption) ?_; rotate_left; focus (intro w hSw; (try dsimp only at hSw); go_simp; (try with_reducible rfl); done); (try simp only [Act.put, List.setIfInBounds_toArray, List.set_cons_zero, List.set_cons_succ])
  refine wpAnyH_ready (rs := [16]) (by kernel_rfl) (by simp) ?_
  refine AllReadyH.cons rfl (fun K hK => ?_) AllReadyH.nil
  go_simp
  refine hK.out _ _ (HSK.out _ (Only.step2 (.inl (.inr (.inl rfl))) hgs)) (fun hHeld => ?_)
  clear hK K
  (try simp only [Act.put, List.setIfInBounds_toArray, List.set_cons_zero, List.set_cons_succ])
  refine wpAnyH_take (i := 17) (v := ?_) rfl (by kernel_rfl) (by kernel_rfl) (by kernel_rfl) (fun _ _ _ h => h) (Or.inl ⟨by rfl, ?_⟩) (by assumption) ?_; rotate_left; focus (intro w hSw; (try dsimp only at hSw); go_simp; (try with_reducible rfl); done); (try simp only [Act.put, List.setIfInBounds_toArray, List.set_cons_zero, List.set_cons_succ])
  refine wpAnyH_done (by kernel_rfl) ?_ _
  all_goals
    have HM1 := Lib.hid m1
    clear m1 m2 hgs
    go_wp2
    go_ret
    obtain ⟨x1, x2, x3, x4, x5⟩ := HX7.out
    have hro : ro' = updR ro t (ro' t) := by
      funext j
      by_cases e : j = t
      · subst e; rw [updR_same]
      · rw [updR_ne _ _ e, x4 j e]
    have hq := H.out.fresh HF0.out
    have hMt := (HCM.out.1.fresh HF0.out)
    refine ⟨(ro' t).1, (ro' t).2, rfl, ?_, ?_, x3, ?_, fun k hk => (x5 k hk).imp id (fun e => Nat.le_trans HF0.out.size e)⟩
    · rw [show updR ro t ((ro' t).1, (ro' t).2) = ro' from hro.symm]
      exact x2.onlyM (HSM.out _ HG7.out) (Only.setCell _ ⟨M, _, none⟩ _)
    · rw [show updR ro t ((ro' t).1, (ro' t).2) = ro' from hro.symm]
      refine ⟨⟨_, (HSM.out _ HG7.out).set t _, by simp [HCM.out.2.1], fun j hj => ?_⟩⟩
      by_cases e : j = t
      · subst e
        exact ⟨A', c', by rw [Array.getElem?_setIfInBounds_self_of_lt (by rw [HCM.out.2.1]; exact hj)], x1.onlyM (HSM.out _ HG7.out) (Only.setCell _ ⟨M, _, none⟩ _)⟩
      · obtain ⟨Aj, cj, h1, h2⟩ := HCM.out.2.2 j hj
        refine ⟨Aj, cj, by rw [Array.getElem?_setIfInBounds_ne (by omega), h1, x4 j e], ?_⟩
        rw [x4 j e]
        refine LS.onlyM (((h2.fresh HF0.out)).only HG7.out ?_) (HSM.out _ HG7.out) (Only.setCell _ ⟨M, _, none⟩ _)
        rintro g cs hg (e | e)
        · obtain ⟨cs', h3, _⟩ := hq.rows
          exact hg.ne h3 (by decide) e
        · obtain ⟨cur, h3⟩ := ownQ (hq.own t HT.out) e
          exact hg.ne h3 (by decide) rfl
    · refine (Only.of_fresh HF0.out).trans ?_
      refine Only.step2 (.inl (.inr (.inl rfl))) ?_
      exact HG7.out.mono (fun i e => e.elim .inl (fun e => .inr (.inr e)))
end
end Go.Proofs.Ythfifeclmikbgaa
