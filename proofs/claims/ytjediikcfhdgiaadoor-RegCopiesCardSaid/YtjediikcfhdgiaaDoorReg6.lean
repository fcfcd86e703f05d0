/-
  Package reg: Open and Owner, by lists; the laws' cases; may a case be gone through?
-/
import Derived.Test.YtjediikcfhdgiaaDoorReg5
import Derived.Test.YtjediikcfhdgiaaDoorShapeW
namespace Go.Proofs.YtjediikcfhdgiaaDoor
set_option maxRecDepth 100000
set_option linter.unusedVariables false
set_option linter.unusedSimpArgs false
open Go.RowKit Go.Maps Go.ChangeShapes Go.WideShapes Go.Deep
def tenI (n : Nat) (t : Int) : Nat := (t % (n : Int)).toNat
theorem ten_lt {n : Nat} (t : Int) (hn : 1 ≤ n) : tenI n t < n ∧ t % (n : Int) = (tenI n t : Int) := by
  have h1 := Int.emod_nonneg t (show (n : Int) ≠ 0 by omega)
  have h2 := Int.emod_lt_of_pos t (show (0 : Int) < (n : Int) by omega)
  unfold tenI
  omega
theorem own_ten (n : Nat) (t : Int) : ownI n (2 * t + 1) = tenI n t := by
  unfold ownI tenI
  rw [show (2 * t + 1 - 1) / 2 = t by omega]
def OpnXP (w : World) (base g mb lb n : Nat) (q t : Int) (N : Nat) (K : Int) (X : List StD) (last : Int) (e : Ending) (w' : World) : Prop :=
  (cntX n X (tenI n t) < q ∧ ∃ s : StD, s.id = 2 * t + 1 ∧ s.a = 1 ∧ e = .returned (.tuple #[.int .i64 (2 * t + 1), .int .i64 0]) ∧ RegX w' base g mb lb n q (2 * t + 1) (N + 1) (K + 1) (X ++ [s]) ∧ w.heap.size ≤ s.p ∧ Only (fun k => k = g ∨ k = mb ∨ k = lb) w w') ∨
  (q ≤ cntX n X (tenI n t) ∧ e = .returned (.tuple #[.int .i64 0, .int .i64 33]) ∧ RegX w' base g mb lb n q last N K X ∧ Fresh w w')
theorem rg_openX {w : World} {base g mb lb n : Nat} {q last t : Int} {N : Nat} {K : Int} {X : List StD} (h : RegX w base g mb lb n q last N K X) (hT : Tbl w) (hbT : 0 < base) (hbw : base ≤ w.heap.size) (h0 : 0 ≤ t) (h1 : t ≤ 1073741823) (h2 : 1 ≤ n) (h3 : n ≤ 64) (hl : last < 2 * t + 1) (hq2 : q ≤ 65536) (hN : N < 1000000) (hK : 0 ≤ K) :
    Calls Tryd.prog 17 #[.pointer (some ⟨g, 0, none⟩), .int .i64 t] w (OpnXP w base g mb lb n q t N K X last) := by
  have hto := ten_lt (n := n) t h2
  by_cases hq : cntX n X (tenI n t) < q
  · refine (rg_open h.reg hT hbT hbw h0 h1 h2 h3 hl (tenI n t) hto.2 hq hq2 (cnt_le n X _).1 hN).mono ?_
    rintro e w' ⟨p, a, cs, rfl, hr, hrun, hp, ho, rfl, hcs⟩
    have hal := h.alive
    refine .inl ⟨hq, ⟨2 * t + 1, p, 1, cs⟩, rfl, rfl, rfl, ⟨?_, fun s hs => ?_, ?_, ?_, fun s hs => ?_, fun s hs => ?_, fun s hs c hc => ?_⟩, hp, ho⟩
    · rw [cnt_push, own_ten]
      have := dm_put X ⟨2 * t + 1, p, 1, cs⟩ (fun s hs => by obtain ⟨t', e, _, _, h4⟩ := h.ids s hs; simp only; omega)
      rw [← this]
      exact hr
    · rcases List.mem_append.1 hs with hs | hs
      · obtain ⟨k1, k2, k3, k4, k5⟩ := h.runs s hs
        exact ⟨k1.only ho (fun e => by rcases e with e | e | e; exact k3 e; exact k4 e; exact k5 e), k2, k3, k4, k5⟩
      · simp only [List.mem_cons, List.not_mem_nil, or_false] at hs
        subst hs
        simp only
        exact ⟨hrun, by omega, by omega, by omega, by omega⟩
    · refine List.pairwise_append.2 ⟨h.dist, by simp, fun a ha b hb => ?_⟩
      simp only [List.mem_cons, List.not_mem_nil, or_false] at hb
      subst hb
      have := hal.2.2.2 a ha
      simp only
      omega
    · refine List.pairwise_append.2 ⟨h.ris, by simp, fun a ha b hb => ?_⟩
      simp only [List.mem_cons, List.not_mem_nil, or_false] at hb
      subst hb
      obtain ⟨t', e, _, _, h4⟩ := h.ids a ha
      simp only
      omega
    · rcases List.mem_append.1 hs with hs | hs
      · obtain ⟨t', e, k1, k2, h4⟩ := h.ids s hs
        exact ⟨t', e, k1, k2, by omega⟩
      · simp only [List.mem_cons, List.not_mem_nil, or_false] at hs
        subst hs
        exact ⟨t, rfl, h0, h1, Int.le_refl _⟩
    · rcases List.mem_append.1 hs with hs | hs
      · exact h.st s hs
      · simp only [List.mem_cons, List.not_mem_nil, or_false] at hs
        subst hs
        simp only
        omega
    · rcases List.mem_append.1 hs with hs | hs
      · have := h.cnt s hs c hc; omega
      · simp only [List.mem_cons, List.not_mem_nil, or_false] at hs
        subst hs
        have := hcs c hc
        omega
  · refine (rg_open_quota h.reg h0 h1 h2 h3 hl (tenI n t) hto.2 (by omega)).mono ?_
    rintro e w' ⟨rfl, hf⟩
    exact .inr ⟨by omega, rfl, h.fresh hf, hf⟩
/-- Is a number one of a stream? -/
def idOk (id : Int) : Prop := 1 ≤ id ∧ id ≤ 2147483647 ∧ id % 2 = 1
instance (id : Int) : Decidable (idOk id) := inferInstanceAs (Decidable (_ ∧ _ ∧ _))
theorem rg_own_any (id : Int) (n : Nat) (w : World) (h2 : 1 ≤ n) (h3 : n ≤ 64) : Calls Tryd.prog 16 #[.int .i64 id, .int .i64 (n : Int)] w fun e w' => e = .returned (.tuple #[.int .i64 (if idOk id then (ownI n id : Int) else 0), .bool (decide (idOk id))]) ∧ w' = w := by
  by_cases h : idOk id
  · obtain ⟨t, rfl⟩ : ∃ t, id = 2 * t + 1 := ⟨(id - 1) / 2, by unfold idOk at h; omega⟩
    rw [if_pos h, decide_eq_true h, own_ten]
    have h4 := ten_lt (n := n) t h2
    unfold idOk at h
    have := rg_own_yes t (n : Int) w (by omega) (by omega) (by omega) (by omega)
    rwa [h4.2] at this
  · rw [if_neg h, decide_eq_false h]
    unfold idOk at h
    by_cases a1 : id < 1
    · clear h
      go_enter Tryd.func16, Tryd.ntmps16
      go_wp2_with fail
      go_ret2
      exact ⟨rfl, rfl⟩
    have b1 : decide (id < 1) = false := decide_eq_false a1
    by_cases a2 : 2147483647 < id
    · clear h a1
      go_enter Tryd.func16, Tryd.ntmps16
      go_wp2_with fail
      go_ret2
      exact ⟨rfl, rfl⟩
    have b2 : decide (2147483647 < id) = false := decide_eq_false a2
    have d2 : id.tmod 2 = 0 := by rw [Int.tmod_eq_emod_of_nonneg (by omega)]; omega
    have d5 : id % 2 = 0 := by omega
    clear h a1 a2
    go_enter Tryd.func16, Tryd.ntmps16
    go_wp2_with fail
    go_ret2
    exact ⟨rfl, rfl⟩
/-! The laws' cases. -/
structure OpR where
  (k n e : Int)
def OpR.cells (o : OpR) : List Value := [.int .i64 o.k, .int .i64 o.n, .int .i64 o.e]
structure OpR.In (o : OpR) : Prop where
  n : -9223372036854775808 ≤ o.n ∧ o.n ≤ 9223372036854775807
structure CaseR where
  (a b : Int) (A : Option Addr) (c : Nat) (xs : List OpR)
def CaseR.arr (z : CaseR) : Array Value := #[.int .i64 z.a, .int .i64 z.b, .slice z.A z.xs.length z.c]
def CaseR.v (z : CaseR) : Value := .agg z.arr
structure CaseR.Ok (w : World) (z : CaseR) : Prop where
  le : z.xs.length ≤ z.c
  max : z.c ≤ maxLen
  rows : Many OpR.cells 3 w z.A z.xs
  ok : ∀ o ∈ z.xs, o.In
theorem CaseR.Ok.fresh {w w' : World} {z : CaseR} (h : z.Ok w) (hf : Fresh w w') : z.Ok w' := ⟨h.le, h.max, h.rows.fresh hf, h.ok⟩
theorem opens_opr : OpensW Tryd.prog 34 (fun w cs => ∃ o : OpR, cs = o.cells ∧ o.In) :=
  (opensW_struct (sz := 3) [(0, 1, QInt .i64), (1, 1, QInt .i64), (2, 1, QInt .i64)] Tryd.underlying34 (by kernel_rfl) (by
    intro p hp
    simp only [List.mem_cons, List.not_mem_nil, or_false] at hp
    rcases hp with rfl | rfl | rfl
    · exact ⟨0, _, rfl, rfl, by kernel_rfl, (opens_int Tryd.underlying3).w⟩
    · exact ⟨1, _, rfl, rfl, by kernel_rfl, (opens_int Tryd.underlying3).w⟩
    · exact ⟨2, _, rfl, rfl, by kernel_rfl, (opens_int Tryd.underlying32).w⟩)).mono (by
    intro w cs ⟨hl, h⟩
    match cs, hl with
    | [c0, c1, c2], _ =>
      obtain ⟨k, e0, l0⟩ := h _ (List.mem_cons_self ..)
      obtain ⟨n, e1, l1⟩ := h _ (List.mem_cons_of_mem _ (List.mem_cons_self ..))
      obtain ⟨e, e2, l2⟩ := h _ (List.mem_cons_of_mem _ (List.mem_cons_of_mem _ (List.mem_cons_self ..)))
      simp at e0 e1 e2
      subst e0 e1 e2
      exact ⟨⟨k, n, e⟩, rfl, ⟨wf_i64_bd l1⟩⟩)
theorem opens_opsr : OpensW Tryd.prog 22 (fun w cs => ∃ (A : Option Addr) (xs : List OpR) (c : Nat), cs = [.slice A xs.length c] ∧ xs.length ≤ c ∧ c ≤ maxLen ∧ Many OpR.cells 3 w A xs ∧ ∀ o ∈ xs, o.In) :=
  (opensW_slice (sz := 3) (bytes := 24) Tryd.underlying22 opens_opr (by kernel_rfl) (by omega) (by kernel_rfl)).mono (fun w cs h => by
    obtain ⟨A, xs, c, e, h1, h2, _, h3, h4⟩ := h.many (R := fun w (o : OpR) => o.In) (f := OpR.cells) (fun _ hq => hq)
    exact ⟨A, xs, c, e, h1, h2, h3, h4⟩)
theorem opens_caser : OpensW Tryd.prog 24 (fun w cs => ∃ z : CaseR, cs = z.arr.toList ∧ z.Ok w) :=
  (opensW_struct (sz := 3) [(0, 1, QInt .i64), (1, 1, QInt .i64), (2, 1, fun w cs => ∃ (A : Option Addr) (xs : List OpR) (c : Nat), cs = [.slice A xs.length c] ∧ xs.length ≤ c ∧ c ≤ maxLen ∧ Many OpR.cells 3 w A xs ∧ ∀ o ∈ xs, o.In)] Tryd.underlying24 (by kernel_rfl) (by
    intro p hp
    simp only [List.mem_cons, List.not_mem_nil, or_false] at hp
    rcases hp with rfl | rfl | rfl
    · exact ⟨0, _, rfl, rfl, by kernel_rfl, (opens_int Tryd.underlying3).w⟩
    · exact ⟨1, _, rfl, rfl, by kernel_rfl, (opens_int Tryd.underlying3).w⟩
    · exact ⟨2, _, rfl, rfl, by kernel_rfl, opens_opsr⟩)).mono (by
    intro w cs ⟨hl, h⟩
    match cs, hl with
    | [c0, c1, c2], _ =>
      obtain ⟨a, e0, _⟩ := h _ (List.mem_cons_self ..)
      obtain ⟨b, e1, _⟩ := h _ (List.mem_cons_of_mem _ (List.mem_cons_self ..))
      obtain ⟨A, xs, c, e2, l1, l2, l3, l4⟩ := h _ (List.mem_cons_of_mem _ (List.mem_cons_of_mem _ (List.mem_cons_self ..)))
      simp at e0 e1 e2
      subst e0 e1 e2
      exact ⟨⟨a, b, A, c, xs⟩, rfl, ⟨l1, l2, l3, l4⟩⟩)
section
variable {H : Type} {enc : TypeId × Value → H} {w : World} {base : Nat} {held : Bool} {v : Value} {d : DataW H} {p : List MemPlace} {r : Reach} {b0 : Nat}
theorem open_caser (hv : Value.okWide Tryd.prog w r b0 24 v) (hd : DataW.Trod enc Tryd.prog w base (fun _ => true) held 24 v d p) (hw : ∀ m ∈ d.weights Tryd.prog 24, m ≤ reachBytes) : ∃ z : CaseR, v = z.v ∧ z.Ok w := by
  obtain ⟨cs, rfl, z, hc, hz⟩ := opens_caser.agg Tryd.underlying24 hv hd hw
  refine ⟨z, ?_, hz⟩
  unfold CaseR.v
  congr 1
  apply Array.toList_inj.1
  rw [hc]
end
theorem Many.atR {w : World} {A : Option Addr} {xs : List OpR} (h : Many OpR.cells 3 w A xs) (k : Nat) (o : OpR) (hx : xs[k]? = some o) :
    ∃ b f, A = some ⟨b, f, none⟩ ∧ b < w.heap.size ∧ w.cell? ⟨b, f + k * 3, none⟩ = some (.int .i64 o.k) ∧ w.cell? ⟨b, f + k * 3 + 1, none⟩ = some (.int .i64 o.n) ∧ w.cell? ⟨b, f + k * 3 + 2, none⟩ = some (.int .i64 o.e) := by
  obtain ⟨hk, rfl⟩ := List.getElem?_eq_some_iff.1 hx
  obtain ⟨b, f, e, hb, hc⟩ := h (by omega)
  have g := fun j hj => hc k hk j hj
  refine ⟨b, f, e, hb, ?_, ?_, ?_⟩
  · have := g 0 (by omega); simpa [OpR.cells] using this
  · have := g 1 (by omega); simpa [OpR.cells] using this
  · have := g 2 (by omega); simpa [OpR.cells] using this
def CrOk (z : CaseR) : Prop := 1 ≤ z.a ∧ z.a ≤ 64 ∧ 1 ≤ z.b ∧ z.b ≤ 65536 ∧ z.xs.length ≤ 100
theorem l14_right (z : CaseR) (w : World) : Calls Tryd.prog 7 #[z.v] w fun e w' => ∃ r : Bool, e = .returned (.bool r) ∧ (r = true ↔ CrOk z) ∧ Fresh w w' := by
  obtain ⟨a, b, A, c, xs⟩ := z
  unfold CaseR.v CaseR.arr CrOk
  simp only
  obtain ⟨n, hn⟩ : ∃ n, xs.length = n := ⟨_, rfl⟩
  rw [hn]
  clear hn
  have key : ∀ r : Bool, (decide (1 ≤ a) && (decide (a ≤ 64) && (decide (1 ≤ b) && (decide (b ≤ 65536) && decide ((n : Int) ≤ 100))))) = r → Calls Tryd.prog 7 #[.agg #[.int .i64 a, .int .i64 b, .slice A n c]] w fun e w' => e = .returned (.bool r) ∧ Fresh w w' := by
    intro r hr
    by_cases h1 : 1 ≤ a
    rotate_left
    · have d1 : decide (1 ≤ a) = false := decide_eq_false h1
      rw [d1] at hr
      have hr2 : false = r := by simpa using hr
      subst hr2
      clear hr h1
      go_enter Tryd.func7, Tryd.ntmps7
      go_wp2
      go_ret
      exact ⟨rfl, Fresh.alloc _ _⟩
    have d1 : decide (1 ≤ a) = true := decide_eq_true h1
    rw [d1, Bool.true_and] at hr
    by_cases h2 : a ≤ 64
    rotate_left
    · have d2 : decide (a ≤ 64) = false := decide_eq_false h2
      rw [d2] at hr
      have hr2 : false = r := by simpa using hr
      subst hr2
      clear hr h1 h2
      go_enter Tryd.func7, Tryd.ntmps7
      go_wp2
      go_ret
      exact ⟨rfl, Fresh.alloc _ _⟩
    have d2 : decide (a ≤ 64) = true := decide_eq_true h2
    rw [d2, Bool.true_and] at hr
    by_cases h3 : 1 ≤ b
    rotate_left
    · have d3 : decide (1 ≤ b) = false := decide_eq_false h3
      rw [d3] at hr
      have hr2 : false = r := by simpa using hr
      subst hr2
      clear hr h1 h2 h3
      go_enter Tryd.func7, Tryd.ntmps7
      go_wp2
      go_ret
      exact ⟨rfl, Fresh.alloc _ _⟩
    have d3 : decide (1 ≤ b) = true := decide_eq_true h3
    rw [d3, Bool.true_and] at hr
    by_cases h4 : b ≤ 65536
    rotate_left
    · have d4 : decide (b ≤ 65536) = false := decide_eq_false h4
      rw [d4] at hr
      have hr2 : false = r := by simpa using hr
      subst hr2
      clear hr h1 h2 h3 h4
      go_enter Tryd.func7, Tryd.ntmps7
      go_wp2
      go_ret
      exact ⟨rfl, Fresh.alloc _ _⟩
    have d4 : decide (b ≤ 65536) = true := decide_eq_true h4
    rw [d4, Bool.true_and] at hr
    by_cases h5 : (n : Int) ≤ 100
    · have d5 : decide ((n : Int) ≤ 100) = true := decide_eq_true h5
      rw [d5] at hr
      subst hr
      clear h1 h2 h3 h4
      go_enter Tryd.func7, Tryd.ntmps7
      go_wp2
      go_ret
      exact ⟨rfl, Fresh.alloc _ _⟩
    · have d5 : decide ((n : Int) ≤ 100) = false := decide_eq_false h5
      rw [d5] at hr
      subst hr
      clear h1 h2 h3 h4 h5
      go_enter Tryd.func7, Tryd.ntmps7
      go_wp2
      go_ret
      exact ⟨rfl, Fresh.alloc _ _⟩
  refine (key _ rfl).mono ?_
  rintro e w' ⟨rfl, hf⟩
  refine ⟨_, rfl, ?_, hf⟩
  simp only [Bool.and_eq_true, decide_eq_true_eq]
  omega
end Go.Proofs.YtjediikcfhdgiaaDoor

