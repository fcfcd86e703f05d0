/-
  Texts laid together: Dyn Dyn2 Inv Inv2.
-/
import Derived.Test.YtginhebfjbhmnaaGreatG01
import Derived.Test.YtginhebfjbhmnaaGreatG02
import Derived.Test.YtginhebfjbhmnaaGreatG03
import Derived.Test.YtginhebfjbhmnaaGreatG10
import Derived.Lib.SliceRun
import Derived.Deep.RegionLaw
import Derived.Shelf.RegionOpenPlain
/-
  Package dyn: what a table is; slices.Delete on a row of fields.
-/
namespace Go.Proofs.YtginhebfjbhmnaaGreat
set_option maxRecDepth 100000
set_option linter.unusedVariables false
set_option linter.unusedSimpArgs false
open Go.RowKit

def fz (p : FldT) : Nat := p.1.size + p.2.size + 32
def tz (l : List FldT) : Nat := (l.map fz).sum
/-- How many of the oldest go. -/
def goneN : List FldT → Int → Nat
  | [], _ => 0
  | f :: r, room => if room < (tz (f :: r) : Int) then goneN r room + 1 else 0
theorem rowD_drop (l : List FldT) (j : Nat) : (rowD l).drop (j * 2) = rowD (l.drop j) := by
  induction l generalizing j with
  | nil => simp [rowD]
  | cons f r ih =>
    cases j with
    | zero => simp
    | succ j =>
      have := ih j
      simp only [rowD, List.flatMap_cons, List.drop_succ_cons] at this ⊢
      rw [← this]
      simp [fldD, Nat.succ_mul]
theorem tz_cons (f : FldT) (r : List FldT) : tz (f :: r) = fz f + tz r := by simp [tz]
theorem tz_append (a b : List FldT) : tz (a ++ b) = tz a + tz b := by simp [tz]
theorem goneN_le (l : List FldT) (room : Int) : goneN l room ≤ l.length := by
  induction l with
  | nil => simp [goneN]
  | cons f r ih => unfold goneN; split <;> simp; omega
theorem fld_one (l : List FldT) : ∀ u ∈ rowD l, u.oneCell' = true := by
  intro u hu
  simp only [rowD, List.mem_flatMap, fldD, List.mem_cons, List.not_mem_nil, or_false] at hu
  obtain ⟨p, _, rfl | rfl⟩ := hu <;> rfl
/-! Cells in a row. -/
def setL (cur : Array Value) (o : Nat) : List Value → Array Value
  | [] => cur
  | v :: r => setL (cur.setIfInBounds o v) (o + 1) r
theorem setL_size : ∀ (vs : List Value) (cur : Array Value) (o : Nat), (setL cur o vs).size = cur.size
  | [], _, _ => rfl
  | v :: r, cur, o => by rw [setL, setL_size r]; simp
theorem setL_get : ∀ (vs : List Value) (cur : Array Value) (o i : Nat), o + vs.length ≤ cur.size → (setL cur o vs)[i]? = if o ≤ i ∧ i < o + vs.length then vs[i - o]? else cur[i]?
  | [], cur, o, i, _ => by simp [setL]; intro h1 h2; omega
  | v :: r, cur, o, i, h => by
    rw [setL, setL_get r _ _ _ (by simp at h ⊢; omega)]
    simp only [List.length_cons] at h ⊢
    by_cases h1 : o + 1 ≤ i ∧ i < o + 1 + r.length
    · rw [if_pos h1, if_pos (by omega), show i - o = (i - (o + 1)) + 1 by omega]
      rfl
    · rw [if_neg h1]
      by_cases h2 : i = o
      · subst h2
        rw [if_pos (by omega)]
        simp [show i < cur.size by omega]
      · rw [if_neg (by omega)]
        rw [Array.getElem?_setIfInBounds_ne (fun e => h2 e.symm)]
theorem Blk.setCells {g : Nat} {t : TypeId} : ∀ (vs : List Value) {w : World} {cur : Array Value} (o : Nat), Blk w g t cur → Blk (w.setCells g o vs) g t (setL cur o vs)
  | [], _, _, _, h => h
  | v :: r, _, _, o, h => Blk.setCells r (o + 1) (h.set o v)
theorem Only.setCells (g : Nat) : ∀ (vs : List Value) (w : World) (o : Nat), Only (· = g) w (w.setCells g o vs)
  | [], w, _ => Only.refl _ w
  | v :: r, w, o => (Only.setCell w ⟨g, o, none⟩ v).trans (Only.setCells g r _ (o + 1))
/-- The row when its first j elements of two cells are gone, and the rest is laid to the front. -/
theorem setL_front (cur : Array Value) (xs z : List Value) (n j : Nat) (hx : cur.toList.take n = xs) (hxn : xs.length = n) (hc : n ≤ cur.size) (hj : j ≤ n) (hz : z.length = j) :
    (setL (setL cur 0 (xs.drop j)) (n - j) z).toList.take (n - j) = xs.drop j := by
  apply List.ext_getElem?
  intro i
  rw [List.getElem?_take]
  have l1 : (xs.drop j).length = n - j := by simp [hxn]
  by_cases hi : i < n - j
  · rw [if_pos hi, Array.getElem?_toList, setL_get _ _ _ _ (by rw [setL_size, hz]; omega), if_neg (by omega), setL_get _ _ _ _ (by rw [l1]; omega), if_pos (by rw [l1]; omega), Nat.sub_zero]
  · rw [if_neg hi, List.getElem?_eq_none (by rw [l1]; omega)]

section
variable {P : Program}
/-- clear(s), whatever the elements. -/
theorem run_clear_any (w : World) (t e ty : TypeId) (z : Value) (vs : List Value) (ht : P.underlying t = some (.slice e)) (hv : ∀ w, (zeroValue e).run P w = .ok z w) (b o n c : Nat) (hn : 0 < n) (hvs : (Builtin.zeroCells z.cells n).toList = vs) (h1 : ∀ v ∈ vs, v.oneCell' = true)
    (hc : ∀ j, j < vs.length → (w.cell? ⟨b, o + j, none⟩).isSome = true) (hf : ∀ j, j < vs.length → w.frozen? ⟨b, o + j, none⟩ = false) :
    (Builtin.clear_ #[t] ty #[.slice (some ⟨b, o, none⟩) n c]).run P w = .ok (.tuple #[]) (w.setCells b o vs) := by
  have hst := run_storeCells_cells (P := P) b o vs 0 w (by simpa using hc) (by simpa using hf) h1
  simp only [Nat.add_zero] at hst
  obtain ⟨m, rfl⟩ : ∃ m, n = m + 1 := ⟨n - 1, by omega⟩
  simp [Builtin.clear_, run_underlying ht, hv, hvs, hst]
end
/-! A table. -/
structure TabAt (w : World) (base p : Nat) (v : Value) (fs : List FldT) (lim : Int) : Prop where
  blk : Blk w p 111 #[v, .int .i64 (tz fs), .int .i64 lim]
  own : Own w base 62 2 v fs.length (rowD fs)
def DelP (w : World) (base : Nat) (v : Value) (fs : List FldT) (j : Nat) (e : Ending) (w' : World) : Prop :=
  ∃ v', e = .returned v' ∧ Own w' base 62 2 v' (fs.length - j) (rowD (fs.drop j)) ∧ v'.ownBlock = v.ownBlock ∧ Only (fun k => v.ownBlock = some k) w w'
end Go.Proofs.YtginhebfjbhmnaaGreat

/-
  Package dyn: slices.Delete of a row of fields.
-/
namespace Go.Proofs.YtginhebfjbhmnaaGreat
set_option maxRecDepth 100000
set_option linter.unusedVariables false
set_option linter.unusedSimpArgs false
open Go.RowKit

theorem dy_delete0 (base : Nat) (v : Value) (fs : List FldT) (w : World) (h : Own w base 62 2 v fs.length (rowD fs)) :
    Calls Tryz.prog 94 #[v, .int .i64 0, .int .i64 0] w fun e w' => e = .returned v ∧ w' = w := by
  obtain ⟨A, c, rfl, h1, h2, _⟩ := h.slice
  simp only [maxLen] at h2
  obtain ⟨n, hn⟩ : ∃ n, fs.length = n := ⟨_, rfl⟩
  rw [hn] at h1 ⊢
  clear h
  go_enter Tryz.func94, Tryz.ntmps94
  go_wp2
  all_goals (go_ret; exact ⟨rfl, rfl⟩)
theorem zero_fields (j : Nat) : (Builtin.zeroCells (Value.agg #[.string ByteArray.empty, .string ByteArray.empty]).cells j).toList = List.replicate (j * 2) (.string ByteArray.empty) := by
  rw [List.eq_replicate_iff]
  refine ⟨?_, fun v hv => ?_⟩
  · simp [Builtin.zeroCells, Value.cells]
  · simp only [Builtin.zeroCells, Value.cells, Array.toList_map, List.mem_map] at hv
    obtain ⟨i, _, rfl⟩ := hv
    have h2 : i % 2 = 0 ∨ i % 2 = 1 := by omega
    show (#[Value.string ByteArray.empty, Value.string ByteArray.empty])[i % 2]! = _
    rcases h2 with h | h <;> rw [h] <;> rfl
set_option maxRecDepth 100000 in
set_option maxHeartbeats 4000000 in
theorem dy_delete1 (base g n j cap : Nat) (cur : Array Value) (xs : List Value) (w : World) (hb : Blk w g 62 cur) (hn : n ≤ cap) (hcm : cap ≤ maxLen) (hcs : cur.size = cap * 2) (hx : cur.toList.take (n * 2) = xs) (hxl : xs.length = n * 2) (h1 : ∀ u ∈ xs, u.oneCell' = true) (hj0 : 0 < j) (hj : j ≤ n) :
    Calls Tryz.prog 94 #[.slice (some ⟨g, 0, none⟩) n cap, .int .i64 0, .int .i64 j] w fun e w' => e = .returned (.slice (some ⟨g, 0, none⟩) (n - j) cap) ∧
      w' = (w.drew.setCells g 0 (xs.drop (j * 2))).setCells g ((n - j) * 2) (List.replicate (j * 2) (.string ByteArray.empty)) := by
  simp only [maxLen] at hcm
  obtain ⟨i0, hi0, hiz, his, hib⟩ := info_parts fld_info
  obtain ⟨news, hnews⟩ : ∃ news, xs.drop (j * 2) = news := ⟨_, rfl⟩
  have hlen : news.length = (n - j) * 2 := by rw [← hnews]; simp [hxl]; omega
  have hcell : ∀ t, t < n * 2 → w.drew.cell? ⟨g, t, none⟩ = xs[t]? := fun t ht => by
    rw [(hb.drew).cell, ← hx, List.getElem?_take_of_lt ht, Array.getElem?_toList]
  have hfz : ∀ t, w.drew.frozen? ⟨g, t, none⟩ = false := fun t => (hb.drew).frozen t
  have hsm : ∀ t, t < n * 2 → (w.drew.cell? ⟨g, t, none⟩).isSome = true := fun t ht => by
    rw [hcell t ht, List.getElem?_eq_getElem (by omega)]; rfl
  obtain ⟨A, hA, hsrc⟩ : ∃ A : Addr, (if cap = j then some (⟨g, 0, none⟩ : Addr) else some ⟨g, j * 2, none⟩) = some A ∧ Hid (∀ t u, news[t]? = some u → w.drew.cell? (A.add t) = some u) := by
    by_cases h : cap = j
    · refine ⟨⟨g, 0, none⟩, by simp [h], Lib.hid (fun t u hu => ?_)⟩
      have h0 : news.length = 0 := by rw [hlen]; omega
      rw [List.length_eq_zero_iff.1 h0] at hu
      simp at hu
    · refine ⟨⟨g, j * 2, none⟩, by simp [h], Lib.hid (fun t u hu => ?_)⟩
      have ht : t < (n - j) * 2 := by rw [← hlen]; exact (List.getElem?_eq_some_iff.1 hu).1
      rw [← hnews, List.getElem?_drop] at hu
      rw [add_eq _ _ rfl]
      exact (hcell (j * 2 + t) (by omega)).trans hu
  have s1 : Hid (news.length = (n - j) * 2) := Lib.hid hlen
  have s2 : Hid (∀ u ∈ news, u.oneCell' = true) := Lib.hid (fun u hu => h1 u (by rw [← hnews] at hu; exact List.mem_of_mem_drop hu))
  have s3 : Hid (∀ t, t < news.length → (w.drew.cell? ⟨g, 0 + 0 * 2 + t, none⟩).isSome = true ∧ w.drew.frozen? ⟨g, 0 + 0 * 2 + t, none⟩ = false) := Lib.hid (fun t ht => by
    rw [hlen] at ht
    rw [show 0 + 0 * 2 + t = t by omega]
    exact ⟨hsm t (by omega), hfz t⟩)
  obtain ⟨W1, hW1⟩ : ∃ W1, W1 = w.drew.setCells g (0 + 0 * 2) news := ⟨_, rfl⟩
  have hb1 : Blk W1 g 62 (setL cur 0 news) := by rw [hW1]; exact Blk.setCells news 0 hb.drew
  have hcl : ∀ ty, (Builtin.clear_ #[109] ty #[.slice (some ⟨g, (n - j) * 2, none⟩) (n - (n - j)) (cap - (n - j))]).run Tryz.prog W1 = .ok (.tuple #[]) (W1.setCells g ((n - j) * 2) (List.replicate (j * 2) (.string ByteArray.empty))) := fun ty => by
    rw [show n - (n - j) = j by omega]
    refine run_clear_any W1 _ 62 ty (.agg #[.string ByteArray.empty, .string ByteArray.empty]) _ Tryz.underlying109 Tryz.zeroValue62 g ((n - j) * 2) j _ hj0 (zero_fields j) (fun v hv => by rw [List.eq_of_mem_replicate hv]; rfl) (fun t ht => ?_) (fun t ht => hb1.frozen _)
    rw [hb1.cell, Array.getElem?_eq_getElem (by rw [setL_size, hcs]; simp at ht; omega)]
    rfl
  have HW := Lib.hid hW1
  have HN := Lib.hid hnews
  clear hW1 hb1 hsm hcell hfz hnews hb hlen h1 hx hxl hcs
  have hb0 : ((0 : Int) == (j : Int)) = false := by simp; omega
  have mixed : Tryz.prog.follows .mixedOrders = true := by kernel_rfl
  go_enter Tryz.func94, Tryz.ntmps94
  go_wp2_with fail
  go_region_law_o (refine step_append_room rfl (.tmp 22) (.tmp 25) 109 rfl 62 i0 2 Tryz.underlying109 hi0 his g 0 0 cap (by simp [Act.eval, Act.put]) A (n - j) (cap - j) news (by simp [Act.eval, Act.put]) s1.out hsrc.out s2.out (by omega) s3.out ?_; rw [← HW.out])
  go_wp2
  go_ret
  exact ⟨rfl, by rw [HW.out, HN.out]⟩
theorem dy_delete (base : Nat) (v : Value) (fs : List FldT) (j : Nat) (w : World) (h : Own w base 62 2 v fs.length (rowD fs)) (hj : j ≤ fs.length) :
    Calls Tryz.prog 94 #[v, .int .i64 0, .int .i64 j] w (DelP w base v fs j) := by
  rcases Nat.eq_zero_or_pos j with rfl | hj0
  · refine (dy_delete0 base v fs w h).mono ?_
    rintro e w' ⟨rfl, rfl⟩
    exact ⟨v, rfl, h, rfl, Only.refl _ _⟩
  · rcases h.2 with ⟨_, h0⟩ | ⟨g, cap, cur, rfl, hb, hh, hn, hc, hs, hx⟩
    · omega
    · have hk : Blk w g 62 cur := hh
      refine (dy_delete1 base g fs.length j cap cur (rowD fs) w hk hn hc hs hx (rowD_length fs) (fld_one fs) hj0 hj).mono ?_
      rintro e w' ⟨rfl, rfl⟩
      have hb1 := Blk.setCells (List.replicate (j * 2) (.string ByteArray.empty)) ((fs.length - j) * 2) (Blk.setCells ((rowD fs).drop (j * 2)) 0 hk.drew)
      refine ⟨_, rfl, ⟨by rw [rowD_length]; simp, .inr ⟨g, cap, _, rfl, hb, hb1, by omega, hc, by rw [setL_size, setL_size]; exact hs, ?_⟩⟩, rfl, ?_⟩
      · have := setL_front cur (rowD fs) (List.replicate (j * 2) (.string ByteArray.empty)) (fs.length * 2) (j * 2) hx (rowD_length fs) (by rw [hs]; omega) (by omega) (by simp)
        rw [← rowD_drop, Nat.sub_mul]
        exact this
      · exact (Only.mono ((Only.of_fresh (Fresh.drew w)).trans ((Only.setCells g _ _ _).trans (Only.setCells g _ _ _))) (fun i e => by rw [e]; rfl))
end Go.Proofs.YtginhebfjbhmnaaGreat

/-
  A region that draws its order, by an invariant: each operation by itself, whatever came ahead of it.
-/
namespace Go.Proofs.YtginhebfjbhmnaaGreat
set_option maxRecDepth 100000
set_option linter.unusedVariables false
open Go.RowKit

theorem filter_lt {α : Type} {p q : α → Bool} : ∀ {l : List α}, (∀ x ∈ l, p x = true → q x = true) → (∃ x ∈ l, q x = true ∧ p x = false) → (l.filter p).length < (l.filter q).length
  | [], _, h => by obtain ⟨x, hx, _⟩ := h; cases hx
  | y :: l, h1, h2 => by
    have hle : (l.filter p).length ≤ (l.filter q).length := by
      clear h2
      induction l with
      | nil => simp
      | cons z l ih =>
        have ih' := ih (fun x hx => h1 x (by rcases List.mem_cons.1 hx with e | e <;> simp [e]))
        have hz := h1 z (by simp)
        simp only [List.filter_cons]
        cases hp : p z <;> cases hq : q z <;> simp_all <;> omega
    obtain ⟨x, hx, hq, hp⟩ := h2
    rcases List.mem_cons.1 hx with rfl | hx
    · simp [List.filter_cons, hp, hq]; omega
    · have := filter_lt (l := l) (fun x hx => h1 x (by simp [hx])) ⟨x, hx, hq, hp⟩
      have hy := h1 y (by simp)
      simp only [List.filter_cons]
      cases hpy : p y <;> cases hqy : q y <;> simp_all <;> omega

/-- What is not yet listed. -/
def openCount (n : Nat) (listed : Array Bool) : Nat := ((List.range n).filter fun i => !listed.getD i true).length
theorem getD_set (l : Array Bool) (i j : Nat) (d : Bool) (hi : i < l.size) : (l.setIfInBounds i true).getD j d = if j = i then true else l.getD j d := by
  by_cases hj : j = i
  · subst hj
    simp [Array.getD, hi]
  · simp only [hj, if_false, Array.getD_eq_getD_getElem?]
    rw [Array.getElem?_setIfInBounds_ne (fun e => hj e.symm)]
theorem openCount_set {n : Nat} {listed : Array Bool} {i : Nat} (hs : listed.size = n) (hi : i < n) (hf : listed.getD i true = false) : openCount n (listed.setIfInBounds i true) < openCount n listed := by
  unfold openCount
  refine filter_lt (fun x hx h => ?_) ⟨i, List.mem_range.2 hi, by simp [hf], ?_⟩
  · rw [getD_set _ _ _ _ (by omega)] at h
    by_cases e : x = i
    · simp [e] at h
    · simpa [e] using h
  · rw [getD_set _ _ _ _ (by omega)]
    simp

/-- Each edge that binds leads back. -/
def dagB (md : Region.Mode) (ops : Array Oper) : Bool := (List.range ops.size).all fun i => ((ops[i]?).map fun o => o.after.all fun e => !Region.binds md e || decide (e.on < i)).getD true

section
variable {P : Program} {ops : Array Oper} {Q : Exit → Act → World → Prop} {md : Region.Mode}
theorem mem_ready {listed : Array Bool} {i : Nat} : i ∈ Region.ready md ops listed ↔ i < ops.size ∧ listed.getD i true = false ∧ ∃ o, ops[i]? = some o ∧ ∀ e ∈ o.after, Region.binds md e = true → listed.getD e.on false = true := by
  unfold Region.ready
  rw [List.mem_filter, List.mem_range]
  constructor
  · rintro ⟨hi, h⟩
    rw [Array.getElem?_eq_getElem hi] at h ⊢
    simp only [Option.map_some, Option.getD_some, Bool.and_eq_true, Bool.not_eq_true'] at h
    refine ⟨hi, h.1, _, rfl, fun e he hb => ?_⟩
    have h2 := Array.all_eq_true_iff_forall_mem.1 h.2 e he
    simpa [hb] using h2
  · rintro ⟨hi, hf, o, ho, h⟩
    refine ⟨hi, ?_⟩
    rw [ho]
    simp only [Option.map_some, Option.getD_some, Bool.and_eq_true, Bool.not_eq_true']
    refine ⟨hf, Array.all_eq_true_iff_forall_mem.2 fun e he => ?_⟩
    cases hb : Region.binds md e with
    | false => rfl
    | true => simpa using h e he hb
theorem ready_nil (hd : dagB md ops = true) {listed : Array Bool} (hs : listed.size = ops.size) (h : Region.ready md ops listed = []) : ∀ i, i < ops.size → listed.getD i false = true := by
  intro i
  induction i using Nat.strongRecOn with
  | _ i ih =>
    intro hi
    cases hl : listed.getD i true with
    | true =>
      have : listed[i]? = some (listed[i]'(by omega)) := Array.getElem?_eq_getElem (by omega)
      simp only [Array.getD_eq_getD_getElem?, this, Option.getD_some] at hl ⊢
      exact hl
    | false =>
      exfalso
      have ho : ops[i]? = some ops[i] := Array.getElem?_eq_getElem hi
      have hm : i ∈ Region.ready md ops listed := mem_ready.2 ⟨hi, hl, _, ho, fun e he hb => by
        have h1 := List.all_eq_true.1 hd i (List.mem_range.2 hi)
        rw [ho] at h1
        simp only [Option.map_some, Option.getD_some] at h1
        have h2 := Array.all_eq_true_iff_forall_mem.1 h1 e he
        simp [hb] at h2
        exact ih e.on h2 (by omega)⟩
      rw [h] at hm
      cases hm
theorem wpAny_inv (hd : dagB md ops = true) (I : Array Bool → Act → World → Prop)
    (hstep : ∀ (listed : Array Bool) (a : Act) (w : World) (i : Nat) (o : Oper), listed.size = ops.size → ops[i]? = some o → listed.getD i true = false → (∀ e ∈ o.after, Region.binds md e = true → listed.getD e.on false = true) → I listed a w →
      ∀ K : Act → World → Prop, (∀ a' w', I (listed.setIfInBounds i true) a' w' → K a' w') → if Region.wanted o (yielded ops a.tmps) = true then Oper.wp P o a w K Q else K (a.put o.dst undef) w)
    (hend : ∀ (listed : Array Bool) (a : Act) (w : World), listed.size = ops.size → (∀ i, i < ops.size → listed.getD i false = true) → I listed a w → Q .normal a w) :
    ∀ (fuel : Nat) (listed : Array Bool) (a : Act) (w : World), listed.size = ops.size → openCount ops.size listed ≤ fuel → I listed a w → wpAny P md ops Q fuel listed a w
  | 0, listed, a, w, hs, hc, hI => by
    have hr : Region.ready md ops listed = [] := by
      apply List.eq_nil_iff_forall_not_mem.2
      intro i hi
      obtain ⟨h1, h2, _⟩ := mem_ready.1 hi
      have h0 : openCount ops.size listed = 0 := by omega
      unfold openCount at h0
      have h3 := List.length_eq_zero_iff.1 h0
      have h4 : i ∈ (List.range ops.size).filter fun i => !listed.getD i true := List.mem_filter.2 ⟨List.mem_range.2 h1, by simp [h2]⟩
      rw [h3] at h4
      cases h4
    exact ⟨hr, hend _ _ _ hs (ready_nil hd hs hr) hI⟩
  | fuel + 1, listed, a, w, hs, hc, hI => by
    refine ⟨fun hr => hend _ _ _ hs (ready_nil hd hs hr) hI, fun i hi => ?_⟩
    obtain ⟨h1, h2, o, ho, h3⟩ := mem_ready.1 hi
    refine wpOp_step ho fun K hK => hstep listed a w i o hs ho h2 h3 hI K fun a' w' hI' => hK _ _ ?_
    exact wpAny_inv hd I hstep hend fuel _ a' w' (by simp [hs]) (by have := openCount_set hs h1 h2; omega) hI'
/-- A region by an invariant. -/
theorem wp_region_inv {id : Nat} {a : Act} {w : World} (hm : P.follows .mixedOrders = true) (hd : dagB .any ops = true) (I : Array Bool → Act → World → Prop) (h0 : I (Array.replicate ops.size false) a w.drew)
    (hstep : ∀ (listed : Array Bool) (a : Act) (w : World) (i : Nat) (o : Oper), listed.size = ops.size → ops[i]? = some o → listed.getD i true = false → (∀ e ∈ o.after, Region.binds .any e = true → listed.getD e.on false = true) → I listed a w →
      ∀ K : Act → World → Prop, (∀ a' w', I (listed.setIfInBounds i true) a' w' → K a' w') → if Region.wanted o (yielded ops a.tmps) = true then Oper.wp P o a w K Q else K (a.put o.dst undef) w)
    (hend : ∀ (listed : Array Bool) (a : Act) (w : World), listed.size = ops.size → (∀ i, i < ops.size → listed.getD i false = true) → I listed a w → Q .normal a w) : (Code.region id ops true).wp P Q a w := by
  refine wp_region_any hm (wpAny_inv hd I hstep hend ops.size _ a w.drew (by simp) ?_ h0)
  unfold openCount
  exact Nat.le_trans (List.length_filter_le _ _) (by simp)
end
end Go.Proofs.YtginhebfjbhmnaaGreat

/-
  A region that draws its order, by an invariant on what the operations have yielded.
-/
namespace Go.Proofs.YtginhebfjbhmnaaGreat
set_option maxRecDepth 100000
set_option linter.unusedVariables false
open Go.RowKit

/-- The frame once operation i has yielded u i, for each i < n. -/
def actOf (dst : Nat → Option Tmp) (a0 : Act) (u : Nat → Value) : Nat → Act
  | 0 => a0
  | n + 1 => (actOf dst a0 u n).put (dst n) (u n)
def updV (u : Nat → Value) (i : Nat) (v : Value) : Nat → Value := fun j => if j = i then v else u j
theorem updV_same (u : Nat → Value) (i : Nat) (v : Value) : updV u i v i = v := if_pos rfl
theorem updV_ne {u : Nat → Value} {i j : Nat} {v : Value} (h : j ≠ i) : updV u i v j = u j := if_neg h
theorem put_put (a : Act) (d : Option Tmp) (v u : Value) : (a.put d v).put d u = a.put d u := by
  cases d with
  | none => rfl
  | some d => simp [Act.put]
theorem put_size (a : Act) (d : Option Tmp) (v : Value) : (a.put d v).tmps.size = a.tmps.size := by
  cases d with
  | none => rfl
  | some d => simp [Act.put]
section
variable {dst : Nat → Option Tmp} {a0 : Act} {u : Nat → Value}
theorem actOf_congr {u' : Nat → Value} : ∀ {n : Nat}, (∀ i, i < n → u i = u' i) → actOf dst a0 u n = actOf dst a0 u' n
  | 0, _ => rfl
  | n + 1, h => by
    show (actOf dst a0 u n).put _ _ = (actOf dst a0 u' n).put _ _
    rw [actOf_congr (fun i hi => h i (by omega)), h n (by omega)]
theorem actOf_size : ∀ n : Nat, (actOf dst a0 u n).tmps.size = a0.tmps.size
  | 0 => rfl
  | n + 1 => (put_size _ _ _).trans (actOf_size n)
theorem actOf_put {v : Value} {i : Nat} : ∀ {n : Nat}, (∀ i j, i < n → j < n → i ≠ j → ∀ d, dst i = some d → dst j ≠ some d) → i < n → (actOf dst a0 u n).put (dst i) v = actOf dst a0 (updV u i v) n
  | 0, _, hi => by omega
  | n + 1, hd, hi => by
    by_cases e : i = n
    · subst e
      show ((actOf dst a0 u i).put (dst i) (u i)).put (dst i) v = (actOf dst a0 (updV u i v) i).put (dst i) (updV u i v i)
      rw [put_put, updV_same]
      congr 1
      exact actOf_congr fun j hj => (updV_ne (by omega)).symm
    · show ((actOf dst a0 u n).put (dst n) (u n)).put (dst i) v = (actOf dst a0 (updV u i v) n).put (dst n) (updV u i v n)
      rw [updV_ne (fun h => e h.symm), ← actOf_put (fun i j hi hj => hd i j (by omega) (by omega)) (show i < n by omega)]
      exact Act.put_comm _ _ _ fun d h1 h2 => hd n i (by omega) (by omega) (fun h => e h.symm) d h1 h2
theorem actOf_other {d : Tmp} : ∀ {n : Nat}, (∀ i, i < n → dst i ≠ some d) → (actOf dst a0 u n).eval (.tmp d) = a0.eval (.tmp d)
  | 0, _ => rfl
  | n + 1, h => by
    show ((actOf dst a0 u n).put (dst n) (u n)).eval _ = _
    rw [Act.eval_put fun e he hd => by cases hd; exact h n (by omega) he]
    exact actOf_other fun i hi => h i (by omega)
theorem actOf_eval {d : Tmp} {i : Nat} (hb : d < a0.tmps.size) (hi0 : dst i = some d) : ∀ {n : Nat}, (∀ i j, i < n → j < n → i ≠ j → ∀ d, dst i = some d → dst j ≠ some d) → i < n → (actOf dst a0 u n).eval (.tmp d) = u i
  | 0, _, hi => by omega
  | n + 1, hd, hi => by
    show ((actOf dst a0 u n).put (dst n) (u n)).eval _ = _
    by_cases e : i = n
    · subst e
      rw [hi0]
      have hs : d < (actOf dst a0 u i).tmps.size := by rw [actOf_size]; exact hb
      simp [Act.eval, Act.put, hs]
    · rw [Act.eval_put fun d' he hd' => by cases hd'; exact hd i n (by omega) (by omega) e _ hi0 he]
      exact actOf_eval hb hi0 (fun i j hi hj => hd i j (by omega) (by omega)) (by omega)
theorem actOf_self : ∀ {n : Nat}, (∀ i d, i < n → dst i = some d → u i = a0.eval (.tmp d)) → actOf dst a0 u n = a0
  | 0, _ => rfl
  | n + 1, h => by
    show (actOf dst a0 u n).put (dst n) (u n) = a0
    rw [actOf_self fun i d hi => h i d (by omega)]
    cases hd : dst n with
    | none => rfl
    | some d =>
      rw [h n d (by omega) hd]
      have : a0.tmps.setIfInBounds d (a0.eval (.tmp d)) = a0.tmps := by
        apply Array.ext
        · simp
        · intro k h1 h2
          rw [Array.getElem_setIfInBounds]
          split
          · rename_i e
            subst e
            simp [Act.eval, h2]
          · rfl
      simp [Act.put, this]
end
def dstOf (ops : Array Oper) (i : Nat) : Option Tmp := (ops[i]?).bind (·.dst)
/-- No two operations yield into one slot. -/
def apartB (ops : Array Oper) : Bool := (List.range ops.size).all fun i => (List.range ops.size).all fun j => i == j || (match dstOf ops i with
  | none => true
  | some d => dstOf ops j != some d)
theorem apart_of {ops : Array Oper} (h : apartB ops = true) : ∀ i j, i < ops.size → j < ops.size → i ≠ j → ∀ d, dstOf ops i = some d → dstOf ops j ≠ some d := by
  intro i j hi hj hne d hd he
  have h1 := List.all_eq_true.1 h i (List.mem_range.2 hi)
  have h2 := List.all_eq_true.1 h1 j (List.mem_range.2 hj)
  rw [hd] at h2
  simp [hne, he] at h2
/-- A region by an invariant on what was yielded. -/
theorem wp_region_inv2 {P : Program} {ops : Array Oper} {Q : Exit → Act → World → Prop} {id : Nat} {a0 : Act} {w : World} (hm : P.follows .mixedOrders = true) (hd : dagB .any ops = true) (ha : apartB ops = true) (J : Array Bool → (Nat → Value) → World → Prop)
    (h0 : ∀ u, J (Array.replicate ops.size false) u w.drew)
    (hstep : ∀ (listed : Array Bool) (u : Nat → Value) (w : World) (i : Nat) (o : Oper), listed.size = ops.size → ops[i]? = some o → listed.getD i true = false → (∀ e ∈ o.after, Region.binds .any e = true → listed.getD e.on false = true) → J listed u w →
      ∀ K : Act → World → Prop, (∀ v w', J (listed.setIfInBounds i true) (updV u i v) w' → K ((actOf (dstOf ops) a0 u ops.size).put o.dst v) w') →
        if Region.wanted o (yielded ops (actOf (dstOf ops) a0 u ops.size).tmps) = true then Oper.wp P o (actOf (dstOf ops) a0 u ops.size) w K Q else K ((actOf (dstOf ops) a0 u ops.size).put o.dst undef) w)
    (hend : ∀ (listed : Array Bool) (u : Nat → Value) (w : World), (∀ i, i < ops.size → listed.getD i false = true) → J listed u w → Q .normal (actOf (dstOf ops) a0 u ops.size) w) : (Code.region id ops true).wp P Q a0 w := by
  refine wp_region_inv hm hd (fun listed a w => ∃ u, a = actOf (dstOf ops) a0 u ops.size ∧ J listed u w) ?_ ?_ ?_
  · exact ⟨fun i => match dstOf ops i with
      | none => undef
      | some d => a0.eval (.tmp d), (actOf_self fun i d _ h => by simp only [h]).symm, h0 _⟩
  · rintro listed a w i o hs ho hf hdep ⟨u, rfl, hJ⟩ K hK
    refine hstep listed u w i o hs ho hf hdep hJ K fun v w' hJ' => hK _ _ ⟨updV u i v, ?_, hJ'⟩
    have hdo : o.dst = dstOf ops i := by unfold dstOf; rw [ho]; rfl
    rw [hdo]
    exact actOf_put (apart_of ha) (Array.getElem?_eq_some_iff.1 ho).1
  · rintro listed a w hs hl ⟨u, rfl, hJ⟩
    exact hend listed u w hl hJ
end Go.Proofs.YtginhebfjbhmnaaGreat

