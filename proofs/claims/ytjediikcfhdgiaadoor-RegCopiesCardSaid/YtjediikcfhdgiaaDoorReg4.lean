/-
  Package reg: a registry's streams, by a list; lookups; Do.
-/
import Derived.Test.YtjediikcfhdgiaaDoorReg3
namespace Go.Proofs.YtjediikcfhdgiaaDoor
set_option maxRecDepth 100000
set_option linter.unusedVariables false
set_option linter.unusedSimpArgs false
open Go.RowKit Go.Maps
/-- A live stream: its number, its run's block, its state, its counts. -/
structure StD where
  (id : Int) (p : Nat) (a : Int) (cs : List Int)
def keyX (id : Int) : Lit := .int .i64 id
def entX (s : StD) : Lit × DataW Unit := (keyX s.id, .lit (.int .i64 (s.p : Int)))
def dmX (X : List StD) : DataW Unit := .map (X.map entX)
/-- The tenant of a stream's number. -/
def ownI (n : Nat) (id : Int) : Nat := (((id - 1) / 2) % (n : Int)).toNat
def cntX (n : Nat) (X : List StD) (o : Nat) : Int := ((X.countP fun s => decide (ownI n s.id = o) : Nat) : Int)
theorem key_same (a b : Int) : (keyX a).sameKey (keyX b) = decide (a = b) := by simp [keyX, Lit.sameKey]
theorem key_before (a b : Int) : (keyX a).before (keyX b) = decide (a < b) := rfl
theorem key_lit {id : Int} (h : -9223372036854775808 ≤ id ∧ id ≤ 9223372036854775807) : (Lit.int .i64 id).wf = true := by
  simp [Lit.wf, IntKind.min, IntKind.max, IntKind.signed, IntKind.bits]; omega
theorem dm_filter (X : List StD) (id : Int) : (X.map entX).filter (fun p => !p.1.sameKey (keyX id)) = (X.filter fun s => decide (s.id ≠ id)).map entX := by
  induction X with
  | nil => rfl
  | cons s r ih =>
    simp only [List.map_cons, List.filter_cons]
    rw [show (entX s).1 = keyX s.id from rfl, key_same]
    by_cases h : s.id = id
    · simp [h, ih]
    · simp [h, ih]
theorem dm_del (X : List StD) (id : Int) : (dmX X).del (keyX id) = dmX (X.filter fun s => decide (s.id ≠ id)) := by
  show DataW.map _ = DataW.map _
  rw [dm_filter]
theorem insert_end : ∀ (X : List StD) (s : StD), (∀ t ∈ X, t.id < s.id) → DataW.insert (entX s) (X.map entX) = (X ++ [s]).map entX
  | [], s, _ => rfl
  | t :: r, s, h => by
    have h1 := h t (by simp)
    simp only [List.map_cons, List.cons_append]
    rw [DataW.insert, show (entX s).1.before (entX t).1 = decide (s.id < t.id) from rfl, decide_eq_false (by omega)]
    simp only [Bool.false_eq_true, if_false]
    rw [insert_end r s (fun u hu => h u (by simp [hu]))]
theorem dm_put (X : List StD) (s : StD) (h : ∀ t ∈ X, t.id < s.id) : (dmX X).put (keyX s.id) (.lit (.int .i64 (s.p : Int))) = dmX (X ++ [s]) := by
  show DataW.map (DataW.insert _ ((X.map entX).filter _)) = DataW.map _
  rw [dm_filter]
  have e : (X.filter fun t => decide (t.id ≠ s.id)) = X := List.filter_eq_self.2 (fun t ht => decide_eq_true (by have := h t ht; omega))
  rw [e]
  exact congrArg DataW.map (insert_end X s h)
theorem dm_find (X : List StD) (id : Int) : (X.map entX).find? (fun p => p.1.sameKey (keyX id)) = (X.find? fun s => decide (s.id = id)).map entX := by
  induction X with
  | nil => rfl
  | cons s r ih =>
    simp only [List.map_cons, List.find?_cons]
    rw [show (entX s).1 = keyX s.id from rfl, key_same]
    cases decide (s.id = id) <;> simp [ih]
theorem dm_at (X : List StD) (id : Int) (z : DataW Unit) : (dmX X).atKey (keyX id) z = match X.find? (fun s => decide (s.id = id)) with
    | some s => .lit (.int .i64 (s.p : Int))
    | none => z := by
  unfold dmX DataW.atKey
  simp only
  rw [dm_find]
  cases X.find? (fun s => decide (s.id = id)) <;> rfl
theorem ptrR_inv {v : Value} {p : Nat} {ps : List MemPlace} (h : ptrR v = some (.lit (.int .i64 (p : Int)), ps)) : v = .pointer (some ⟨p, 0, none⟩) := by
  unfold ptrR at h
  split at h
  · injection h with h
    injection h with h1 h2
    injection h1 with h1
    injection h1 with h1 h3
    have : (_ : Int) = (p : Int) := h3
    obtain rfl := Int.ofNat.inj this
    rfl
  · injection h with h
    injection h with h1 h2
    injection h1 with h1
    injection h1 with h1 h3
    exact absurd h3 (by omega)
  · cases h
theorem ptrR_none {v : Value} {ps : List MemPlace} (h : ptrR v = some (.lit (.int .i64 (-1)), ps)) : v = .pointer none := by
  unfold ptrR at h
  split at h
  · injection h with h
    injection h with h1 h2
    injection h1 with h1
    injection h1 with h1 h3
    exact absurd h3 (by omega)
  · rfl
  · cases h
theorem ztP (w : World) : (zeroValue 74).run Tryd.prog w = .ok (.pointer none) w := by
  simp only [go_sem, Tryd.zeroValue74]
/-- What a lookup of a stream's number answers. -/
theorem look_X {w : World} {mb N : Nat} {X : List StD} (h : w.ownsMap Tryd.prog 3 ptrR mb N (dmX X)) (id : Int) (hid : -9223372036854775808 ≤ id ∧ id ≤ 9223372036854775807) :
    (Instr.lookup 64 (.map (some mb)) (.int .i64 id) false).run Tryd.prog w = .ok (match X.find? (fun s => decide (s.id = id)) with
      | some s => .pointer (some ⟨s.p, 0, none⟩)
      | none => .pointer none) w := by
  obtain ⟨v, ps, hr, hv⟩ := h.lookup (t := 64) (e := 74) ikey Tryd.underlying64 (ztP w) (zd := .lit (.int .i64 (-1))) (zp := []) rfl (key := .int .i64 id) (keyOf_int_mk Tryd.underlying3 (key_lit hid))
  rw [hr]
  rw [show (Lit.int .i64 id) = keyX id from rfl, dm_at] at hv
  cases hf : X.find? (fun s => decide (s.id = id)) with
  | none => rw [hf] at hv; rw [ptrR_none hv]
  | some s => rw [hf] at hv; rw [ptrR_inv hv]
/-- A registry and its streams. -/
structure RegX (w : World) (base g mb lb n : Nat) (q last : Int) (N : Nat) (K : Int) (X : List StD) : Prop where
  reg : RegAt w base g mb lb n q last (cntX n X) N (dmX X)
  runs : ∀ s ∈ X, RunAt w s.p s.a s.cs ∧ base ≤ s.p ∧ s.p ≠ g ∧ s.p ≠ mb ∧ s.p ≠ lb
  dist : X.Pairwise (fun s t => s.p ≠ t.p)
  ris : X.Pairwise (fun s t => s.id < t.id)
  ids : ∀ s ∈ X, ∃ t : Int, s.id = 2 * t + 1 ∧ 0 ≤ t ∧ t ≤ 1073741823 ∧ s.id ≤ last
  st : ∀ s ∈ X, 1 ≤ s.a ∧ s.a ≤ 3
  cnt : ∀ s ∈ X, ∀ c ∈ s.cs, c ≤ K
/-- The blocks of a registry. -/
def blkX (g mb lb : Nat) (X : List StD) (k : Nat) : Prop := k = g ∨ k = mb ∨ k = lb ∨ ∃ s ∈ X, k = s.p
theorem RegX.base {w : World} {base g mb lb n : Nat} {q last : Int} {N : Nat} {K : Int} {X : List StD} (h : RegX w base g mb lb n q last N K X) : ∀ k, blkX g mb lb X k → base ≤ k := by
  intro k hk
  rcases hk with rfl | rfl | rfl | ⟨s, hs, rfl⟩
  · exact h.reg.bg
  · exact h.reg.bm
  · exact h.reg.bl
  · exact (h.runs s hs).2.1
theorem RegX.only {S : Nat → Prop} {w w' : World} {base g mb lb n : Nat} {q last : Int} {N : Nat} {K : Int} {X : List StD} (h : RegX w base g mb lb n q last N K X) (ho : Only S w w') (hs : ∀ k, blkX g mb lb X k → ¬ S k) : RegX w' base g mb lb n q last N K X :=
  { h with reg := h.reg.only ho (hs g (.inl rfl)) (hs mb (.inr (.inl rfl))) (hs lb (.inr (.inr (.inl rfl)))), runs := fun s hx => ⟨(h.runs s hx).1.only ho (hs s.p (.inr (.inr (.inr ⟨s, hx, rfl⟩)))), (h.runs s hx).2⟩ }
theorem RegX.fresh {w w' : World} {base g mb lb n : Nat} {q last : Int} {N : Nat} {K : Int} {X : List StD} (h : RegX w base g mb lb n q last N K X) (hf : Fresh w w') : RegX w' base g mb lb n q last N K X := h.only (S := fun _ => False) (Only.of_fresh hf) (fun _ _ => id)
theorem RegX.mono {w : World} {base g mb lb n : Nat} {q last : Int} {N N' : Nat} {K K' : Int} {X : List StD} (h : RegX w base g mb lb n q last N K X) (hN : N ≤ N') (hK : K ≤ K') : RegX w base g mb lb n q last N' K' X :=
  { h with reg := { h.reg with map := h.reg.map.mono hN }, cnt := fun s hs c hc => Int.le_trans (h.cnt s hs c hc) hK }
theorem cnt_nil (n : Nat) : cntX n [] = fun _ => 0 := rfl
theorem cnt_push (n : Nat) (X : List StD) (s : StD) : cntX n (X ++ [s]) = upI (cntX n X) (ownI n s.id) (cntX n X (ownI n s.id) + 1) := by
  funext o
  unfold upI cntX
  rw [List.countP_append]
  by_cases h : o = ownI n s.id
  · subst h; simp
  · rw [if_neg h]
    have : decide (ownI n s.id = o) = false := decide_eq_false (fun e => h e.symm)
    simp [this]
theorem cnt_same {n : Nat} {X Y : List StD} (h : X.map (·.id) = Y.map (·.id)) : cntX n X = cntX n Y := by
  funext o
  unfold cntX
  have : ∀ Z : List StD, (Z.countP fun s => decide (ownI n s.id = o)) = (Z.map (·.id)).countP fun i => decide (ownI n i = o) := fun Z => by rw [List.countP_map]; rfl
  rw [this, this, h]
theorem dm_same {X Y : List StD} (h : X.map (fun s => (s.id, s.p)) = Y.map (fun s => (s.id, s.p))) : dmX X = dmX Y := by
  unfold dmX
  have : ∀ Z : List StD, Z.map entX = (Z.map (fun s => (s.id, s.p))).map fun x => (keyX x.1, (.lit (.int .i64 (x.2 : Int)) : DataW Unit)) := fun Z => by rw [List.map_map]; rfl
  rw [this, this, h]
theorem cnt_le (n : Nat) (X : List StD) (o : Nat) : 0 ≤ cntX n X o ∧ cntX n X o ≤ X.length := by
  unfold cntX
  have := List.countP_le_length (p := fun s : StD => decide (ownI n s.id = o)) (l := X)
  omega
theorem find_mem {X : List StD} {id : Int} {s : StD} (h : X.find? (fun s => decide (s.id = id)) = some s) : s ∈ X ∧ s.id = id := ⟨List.mem_of_find?_eq_some h, by have := List.find?_some h; simpa using this⟩
theorem ris_ne {X : List StD} (h : X.Pairwise (fun s t => s.id < t.id)) {s t : StD} (hs : s ∈ X) (ht : t ∈ X) (e : s.id = t.id) : s = t := by
  induction X with
  | nil => cases hs
  | cons x r ih =>
    obtain ⟨h1, h2⟩ := List.pairwise_cons.1 h
    rcases List.mem_cons.1 hs with es | hs'
    · subst es
      rcases List.mem_cons.1 ht with et | ht'
      · exact et.symm
      · have := h1 t ht'; omega
    · rcases List.mem_cons.1 ht with et | ht'
      · subst et
        have := h1 s hs'; omega
      · exact ih h2 hs' ht'
theorem dist_ne {X : List StD} (h : X.Pairwise (fun s t => s.p ≠ t.p)) {s t : StD} (hs : s ∈ X) (ht : t ∈ X) (hne : s ≠ t) : s.p ≠ t.p := by
  induction X with
  | nil => cases hs
  | cons x r ih =>
    obtain ⟨h1, h2⟩ := List.pairwise_cons.1 h
    rcases List.mem_cons.1 hs with es | hs'
    · subst es
      rcases List.mem_cons.1 ht with et | ht'
      · exact absurd et.symm hne
      · exact h1 t ht'
    · rcases List.mem_cons.1 ht with et | ht'
      · subst et
        exact (h1 s hs').symm
      · exact ih h2 hs' ht'
/-- One stream gone. -/
def gone (id : Int) (X : List StD) : List StD := X.filter fun s => decide (s.id ≠ id)
theorem gone_none {id : Int} : ∀ {X : List StD}, (∀ s ∈ X, s.id ≠ id) → gone id X = X := fun h => List.filter_eq_self.2 (fun s hs => decide_eq_true (h s hs))
theorem cnt_gone (n : Nat) {X : List StD} (hr : X.Pairwise (fun s t => s.id < t.id)) {s : StD} (hs : s ∈ X) : cntX n (gone s.id X) = upI (cntX n X) (ownI n s.id) (cntX n X (ownI n s.id) - 1) := by
  induction X with
  | nil => cases hs
  | cons x r ih =>
    obtain ⟨h1, h2⟩ := List.pairwise_cons.1 hr
    rcases List.mem_cons.1 hs with rfl | hs
    · have e : gone s.id (s :: r) = r := by
        unfold gone
        rw [List.filter_cons, if_neg (by simp)]
        exact gone_none (fun t ht => by have := h1 t ht; omega)
      rw [e]
      funext o
      unfold upI cntX
      simp only [List.countP_cons]
      by_cases h : o = ownI n s.id
      · subst h; simp
      · rw [if_neg h]
        have : decide (ownI n s.id = o) = false := decide_eq_false (fun e => h e.symm)
        simp [this]
    · have hne : x.id ≠ s.id := by have := h1 s hs; omega
      have e : gone s.id (x :: r) = x :: gone s.id r := by
        unfold gone
        rw [List.filter_cons, if_pos (by simpa using hne)]
      have h3 := ih h2 hs
      rw [e]
      funext o
      have h4 := congrFun h3 o
      have h5 := congrFun h3 (ownI n s.id)
      unfold upI cntX at *
      simp only [List.countP_cons] at *
      by_cases h : o = ownI n s.id
      · subst h
        simp only [if_pos] at h4 ⊢
        omega
      · rw [if_neg h] at h4 ⊢
        omega
/-- One stream is led on. -/
def led (s : StD) (a : Int) (cs : List Int) (X : List StD) : List StD := X.map fun t => if t.id = s.id then ⟨t.id, t.p, a, cs⟩ else t
theorem led_ids (s : StD) (a : Int) (cs : List Int) (X : List StD) : (led s a cs X).map (fun s => (s.id, s.p)) = X.map (fun s => (s.id, s.p)) := by
  unfold led
  rw [List.map_map]
  apply List.map_congr_left
  intro t _
  simp only [Function.comp]
  split <;> rfl
theorem led_mem {s : StD} {a : Int} {cs : List Int} {X : List StD} {t : StD} (h : t ∈ led s a cs X) : ∃ u ∈ X, t = if u.id = s.id then ⟨u.id, u.p, a, cs⟩ else u := by
  unfold led at h
  obtain ⟨u, hu, e⟩ := List.mem_map.1 h
  exact ⟨u, hu, e.symm⟩
theorem ids_of {X Y : List StD} (h : X.map (fun s => (s.id, s.p)) = Y.map (fun s => (s.id, s.p))) : X.map (·.id) = Y.map (·.id) := by
  have := congrArg (List.map Prod.fst) h
  simpa [List.map_map, Function.comp_def] using this
theorem pair_map {α β : Type} {R : β → β → Prop} {f : α → β} {X : List α} (h : (X.map f).Pairwise R) : X.Pairwise (fun a b => R (f a) (f b)) := List.pairwise_map.1 h
theorem doA_live : ∀ a : Fin 4, 1 ≤ a.val → ∀ e : Fin 9, 1 ≤ doA (a.val : Int) (e.val : Int) ∧ doA (a.val : Int) (e.val : Int) ≤ 4 := by decide
theorem doA_in {a e : Int} (h1 : 1 ≤ a) (h3 : a ≤ 3) : 1 ≤ doA a e ∧ doA a e ≤ 4 := by
  by_cases he : 0 ≤ e ∧ e ≤ 8
  · have := doA_live ⟨a.toNat, by omega⟩ (by simp; omega) ⟨e.toNat, by omega⟩
    simp only at this
    rwa [Int.toNat_of_nonneg (by omega), Int.toNat_of_nonneg (by omega)] at this
  · have : doA a e = a := by
      unfold doA
      rw [if_neg (by omega), if_neg (by omega)]
    omega
theorem doL_le {a e K : Int} {cs : List Int} (h : ∀ c ∈ cs, c ≤ K) (h0 : 0 ≤ K) : ∀ c ∈ doL a e cs, c ≤ K + 1 := by
  intro c hc
  unfold doL at hc
  split at hc
  · rcases List.mem_or_eq_of_mem_set hc with h1 | rfl
    · have := h c h1; omega
    · have : cs.getD e.toNat 0 ≤ K := by
        rw [List.getD_eq_getElem?_getD]
        cases hg : cs[e.toNat]? with
        | none => simpa using h0
        | some x => simpa using h x (List.mem_of_getElem? hg)
      omega
  · have := h c hc; omega
end Go.Proofs.YtjediikcfhdgiaaDoor

