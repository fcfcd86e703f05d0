/-
  Texts laid together: Dyn Dyn2.
-/
import Derived.Test.YtapikjhfgcbifaaGreatDoorOwn
import Derived.Test.YtapikjhfgcbifaaGreatDoorMore
import Derived.Test.YtapikjhfgcbifaaGreatDoorMake
import Derived.Test.YtapikjhfgcbifaaGreatDoorRet
import Derived.Test.YtapikjhfgcbifaaGreatDoorGen
import Derived.Test.YtapikjhfgcbifaaGreatDoorLnd
import Derived.Lib.SliceRun
import Derived.Deep.RegionLaw
import Derived.Shelf.RegionOpenPlain
/-
  Package dyn: what a table is; slices.Delete on a row of fields.
-/
namespace Go.Proofs.YtapikjhfgcbifaaGreatDoor
set_option linter.unusedVariables false
set_option linter.unusedSimpArgs false
open Go.RowKit

def fz (p : FldT) : Nat := p.1.size + p.2.size + 32
def tz (l : List FldT) : Nat := (l.map fz).sum
/-- How many of the oldest go. -/
def goneN : List FldT → Int → Nat
  | [], _ => 0
  | f :: r, room => if room < (tz (f :: r) : Int) then goneN r room + 1 else 0
theorem rowD_drop (l : List FldT) (j : Nat) : (rowD l).drop (j * 2) = rowD (l.drop j) := by
  induction l generalizing j with
  | nil => simp [rowD]
  | cons f r ih =>
    cases j with
    | zero => simp
    | succ j =>
      have := ih j
      simp only [rowD, List.flatMap_cons, List.drop_succ_cons] at this ⊢
      rw [← this]
      simp [fldD, Nat.succ_mul]
theorem tz_cons (f : FldT) (r : List FldT) : tz (f :: r) = fz f + tz r := by simp [tz]
theorem tz_append (a b : List FldT) : tz (a ++ b) = tz a + tz b := by simp [tz]
theorem goneN_le (l : List FldT) (room : Int) : goneN l room ≤ l.length := by
  induction l with
  | nil => simp [goneN]
  | cons f r ih => unfold goneN; split <;> simp; omega
theorem fld_one (l : List FldT) : ∀ u ∈ rowD l, u.oneCell' = true := by
  intro u hu
  simp only [rowD, List.mem_flatMap, fldD, List.mem_cons, List.not_mem_nil, or_false] at hu
  obtain ⟨p, _, rfl | rfl⟩ := hu <;> rfl
/-! Cells in a row. -/
def setL (cur : Array Value) (o : Nat) : List Value → Array Value
  | [] => cur
  | v :: r => setL (cur.setIfInBounds o v) (o + 1) r
theorem setL_size : ∀ (vs : List Value) (cur : Array Value) (o : Nat), (setL cur o vs).size = cur.size
  | [], _, _ => rfl
  | v :: r, cur, o => by rw [setL, setL_size r]; simp
theorem setL_get : ∀ (vs : List Value) (cur : Array Value) (o i : Nat), o + vs.length ≤ cur.size → (setL cur o vs)[i]? = if o ≤ i ∧ i < o + vs.length then vs[i - o]? else cur[i]?
  | [], cur, o, i, _ => by simp [setL]; intro h1 h2; omega
  | v :: r, cur, o, i, h => by
    rw [setL, setL_get r _ _ _ (by simp at h ⊢; omega)]
    simp only [List.length_cons] at h ⊢
    by_cases h1 : o + 1 ≤ i ∧ i < o + 1 + r.length
    · rw [if_pos h1, if_pos (by omega), show i - o = (i - (o + 1)) + 1 by omega]
      rfl
    · rw [if_neg h1]
      by_cases h2 : i = o
      · subst h2
        rw [if_pos (by omega)]
        simp [show i < cur.size by omega]
      · rw [if_neg (by omega)]
        rw [Array.getElem?_setIfInBounds_ne (fun e => h2 e.symm)]
theorem Blk.setCells {g : Nat} {t : TypeId} : ∀ (vs : List Value) {w : World} {cur : Array Value} (o : Nat), Blk w g t cur → Blk (w.setCells g o vs) g t (setL cur o vs)
  | [], _, _, _, h => h
  | v :: r, _, _, o, h => Blk.setCells r (o + 1) (h.set o v)
theorem Only.setCells (g : Nat) : ∀ (vs : List Value) (w : World) (o : Nat), Only (· = g) w (w.setCells g o vs)
  | [], w, _ => Only.refl _ w
  | v :: r, w, o => (Only.setCell w ⟨g, o, none⟩ v).trans (Only.setCells g r _ (o + 1))
/-- The row when its first j elements of two cells are gone, and the rest is laid to the front. -/
theorem setL_front (cur : Array Value) (xs z : List Value) (n j : Nat) (hx : cur.toList.take n = xs) (hxn : xs.length = n) (hc : n ≤ cur.size) (hj : j ≤ n) (hz : z.length = j) :
    (setL (setL cur 0 (xs.drop j)) (n - j) z).toList.take (n - j) = xs.drop j := by
  apply List.ext_getElem?
  intro i
  rw [List.getElem?_take]
  have l1 : (xs.drop j).length = n - j := by simp [hxn]
  by_cases hi : i < n - j
  · rw [if_pos hi, Array.getElem?_toList, setL_get _ _ _ _ (by rw [setL_size, hz]; omega), if_neg (by omega), setL_get _ _ _ _ (by rw [l1]; omega), if_pos (by rw [l1]; omega), Nat.sub_zero]
  · rw [if_neg hi, List.getElem?_eq_none (by rw [l1]; omega)]

section
variable {P : Program}
/-- clear(s), whatever the elements. -/
theorem run_clear_any (w : World) (t e ty : TypeId) (z : Value) (vs : List Value) (ht : P.underlying t = some (.slice e)) (hv : ∀ w, (zeroValue e).run P w = .ok z w) (b o n c : Nat) (hn : 0 < n) (hvs : (Builtin.zeroCells z.cells n).toList = vs) (h1 : ∀ v ∈ vs, v.oneCell' = true)
    (hc : ∀ j, j < vs.length → (w.cell? ⟨b, o + j, none⟩).isSome = true) (hf : ∀ j, j < vs.length → w.frozen? ⟨b, o + j, none⟩ = false) :
    (Builtin.clear_ #[t] ty #[.slice (some ⟨b, o, none⟩) n c]).run P w = .ok (.tuple #[]) (w.setCells b o vs) := by
  have hst := run_storeCells_cells (P := P) b o vs 0 w (by simpa using hc) (by simpa using hf) h1
  simp only [Nat.add_zero] at hst
  obtain ⟨m, rfl⟩ : ∃ m, n = m + 1 := ⟨n - 1, by omega⟩
  simp [Builtin.clear_, run_underlying ht, hv, hvs, hst]
end
/-! A table. -/
structure TabAt (w : World) (base p : Nat) (v : Value) (fs : List FldT) (lim : Int) : Prop where
  blk : Blk w p 92 #[v, .int .i64 (tz fs), .int .i64 lim]
  own : Own w base 29 2 v fs.length (rowD fs)
def DelP (w : World) (base : Nat) (v : Value) (fs : List FldT) (j : Nat) (e : Ending) (w' : World) : Prop :=
  ∃ v', e = .returned v' ∧ Own w' base 29 2 v' (fs.length - j) (rowD (fs.drop j)) ∧ v'.ownBlock = v.ownBlock ∧ Only (fun k => v.ownBlock = some k) w w'
end Go.Proofs.YtapikjhfgcbifaaGreatDoor

/-
  Package dyn: slices.Delete of a row of fields.
-/
namespace Go.Proofs.YtapikjhfgcbifaaGreatDoor
set_option linter.unusedVariables false
set_option linter.unusedSimpArgs false
open Go.RowKit

theorem dy_delete0 (base : Nat) (v : Value) (fs : List FldT) (w : World) (h : Own w base 29 2 v fs.length (rowD fs)) :
    Calls Tryz.prog 117 #[v, .int .i64 0, .int .i64 0] w fun e w' => e = .returned v ∧ w' = w := by
  obtain ⟨A, c, rfl, h1, h2, _⟩ := h.slice
  simp only [maxLen] at h2
  obtain ⟨n, hn⟩ : ∃ n, fs.length = n := ⟨_, rfl⟩
  rw [hn] at h1 ⊢
  clear h
  go_enter Tryz.func117, Tryz.ntmps117
  go_wp2
  all_goals (go_ret; exact ⟨rfl, rfl⟩)
theorem zero_fields (j : Nat) : (Builtin.zeroCells (Value.agg #[.string ByteArray.empty, .string ByteArray.empty]).cells j).toList = List.replicate (j * 2) (.string ByteArray.empty) := by
  rw [List.eq_replicate_iff]
  refine ⟨?_, fun v hv => ?_⟩
  · simp [Builtin.zeroCells, Value.cells]
  · simp only [Builtin.zeroCells, Value.cells, Array.toList_map, List.mem_map] at hv
    obtain ⟨i, _, rfl⟩ := hv
    have h2 : i % 2 = 0 ∨ i % 2 = 1 := by omega
    show (#[Value.string ByteArray.empty, Value.string ByteArray.empty])[i % 2]! = _
    rcases h2 with h | h <;> rw [h] <;> rfl
set_option maxRecDepth 100000 in
set_option maxHeartbeats 4000000 in
theorem dy_delete1 (base g n j cap : Nat) (cur : Array Value) (xs : List Value) (w : World) (hb : Blk w g 29 cur) (hn : n ≤ cap) (hcm : cap ≤ maxLen) (hcs : cur.size = cap * 2) (hx : cur.toList.take (n * 2) = xs) (hxl : xs.length = n * 2) (h1 : ∀ u ∈ xs, u.oneCell' = true) (hj0 : 0 < j) (hj : j ≤ n) :
    Calls Tryz.prog 117 #[.slice (some ⟨g, 0, none⟩) n cap, .int .i64 0, .int .i64 j] w fun e w' => e = .returned (.slice (some ⟨g, 0, none⟩) (n - j) cap) ∧
      w' = (w.drew.setCells g 0 (xs.drop (j * 2))).setCells g ((n - j) * 2) (List.replicate (j * 2) (.string ByteArray.empty)) := by
  simp only [maxLen] at hcm
  obtain ⟨i0, hi0, hiz, his, hib⟩ := info_parts fld_info
  obtain ⟨news, hnews⟩ : ∃ news, xs.drop (j * 2) = news := ⟨_, rfl⟩
  have hlen : news.length = (n - j) * 2 := by rw [← hnews]; simp [hxl]; omega
  have hcell : ∀ t, t < n * 2 → w.drew.cell? ⟨g, t, none⟩ = xs[t]? := fun t ht => by
    rw [(hb.drew).cell, ← hx, List.getElem?_take_of_lt ht, Array.getElem?_toList]
  have hfz : ∀ t, w.drew.frozen? ⟨g, t, none⟩ = false := fun t => (hb.drew).frozen t
  have hsm : ∀ t, t < n * 2 → (w.drew.cell? ⟨g, t, none⟩).isSome = true := fun t ht => by
    rw [hcell t ht, List.getElem?_eq_getElem (by omega)]; rfl
  obtain ⟨A, hA, hsrc⟩ : ∃ A : Addr, (if cap = j then some (⟨g, 0, none⟩ : Addr) else some ⟨g, j * 2, none⟩) = some A ∧ Hid (∀ t u, news[t]? = some u → w.drew.cell? (A.add t) = some u) := by
    by_cases h : cap = j
    · refine ⟨⟨g, 0, none⟩, by simp [h], Lib.hid (fun t u hu => ?_)⟩
      have h0 : news.length = 0 := by rw [hlen]; omega
      rw [List.length_eq_zero_iff.1 h0] at hu
      simp at hu
    · refine ⟨⟨g, j * 2, none⟩, by simp [h], Lib.hid (fun t u hu => ?_)⟩
      have ht : t < (n - j) * 2 := by rw [← hlen]; exact (List.getElem?_eq_some_iff.1 hu).1
      rw [← hnews, List.getElem?_drop] at hu
      rw [add_eq _ _ rfl]
      exact (hcell (j * 2 + t) (by omega)).trans hu
  have s1 : Hid (news.length = (n - j) * 2) := Lib.hid hlen
  have s2 : Hid (∀ u ∈ news, u.oneCell' = true) := Lib.hid (fun u hu => h1 u (by rw [← hnews] at hu; exact List.mem_of_mem_drop hu))
  have s3 : Hid (∀ t, t < news.length → (w.drew.cell? ⟨g, 0 + 0 * 2 + t, none⟩).isSome = true ∧ w.drew.frozen? ⟨g, 0 + 0 * 2 + t, none⟩ = false) := Lib.hid (fun t ht => by
    rw [hlen] at ht
    rw [show 0 + 0 * 2 + t = t by omega]
    exact ⟨hsm t (by omega), hfz t⟩)
  obtain ⟨W1, hW1⟩ : ∃ W1, W1 = w.drew.setCells g (0 + 0 * 2) news := ⟨_, rfl⟩
  have hb1 : Blk W1 g 29 (setL cur 0 news) := by rw [hW1]; exact Blk.setCells news 0 hb.drew
  have hcl : ∀ ty, (Builtin.clear_ #[22] ty #[.slice (some ⟨g, (n - j) * 2, none⟩) (n - (n - j)) (cap - (n - j))]).run Tryz.prog W1 = .ok (.tuple #[]) (W1.setCells g ((n - j) * 2) (List.replicate (j * 2) (.string ByteArray.empty))) := fun ty => by
    rw [show n - (n - j) = j by omega]
    refine run_clear_any W1 _ 29 ty (.agg #[.string ByteArray.empty, .string ByteArray.empty]) _ Tryz.underlying22 Tryz.zeroValue29 g ((n - j) * 2) j _ hj0 (zero_fields j) (fun v hv => by rw [List.eq_of_mem_replicate hv]; rfl) (fun t ht => ?_) (fun t ht => hb1.frozen _)
    rw [hb1.cell, Array.getElem?_eq_getElem (by rw [setL_size, hcs]; simp at ht; omega)]
    rfl
  have HW := Lib.hid hW1
  have HN := Lib.hid hnews
  clear hW1 hb1 hsm hcell hfz hnews hb hlen h1 hx hxl hcs
  have hb0 : ((0 : Int) == (j : Int)) = false := by simp; omega
  have mixed : Tryz.prog.follows .mixedOrders = true := by kernel_rfl
  go_enter Tryz.func117, Tryz.ntmps117
  go_wp2_with fail
  go_region_law_o (refine step_append_room rfl (.tmp 22) (.tmp 25) 22 rfl 29 i0 2 Tryz.underlying22 hi0 his g 0 0 cap (by simp [Act.eval, Act.put]) A (n - j) (cap - j) news (by simp [Act.eval, Act.put]) s1.out hsrc.out s2.out (by omega) s3.out ?_; rw [← HW.out])
  go_wp2
  go_ret
  exact ⟨rfl, by rw [HW.out, HN.out]⟩
theorem dy_delete (base : Nat) (v : Value) (fs : List FldT) (j : Nat) (w : World) (h : Own w base 29 2 v fs.length (rowD fs)) (hj : j ≤ fs.length) :
    Calls Tryz.prog 117 #[v, .int .i64 0, .int .i64 j] w (DelP w base v fs j) := by
  rcases Nat.eq_zero_or_pos j with rfl | hj0
  · refine (dy_delete0 base v fs w h).mono ?_
    rintro e w' ⟨rfl, rfl⟩
    exact ⟨v, rfl, h, rfl, Only.refl _ _⟩
  · rcases h.2 with ⟨_, h0⟩ | ⟨g, cap, cur, rfl, hb, hh, hn, hc, hs, hx⟩
    · omega
    · have hk : Blk w g 29 cur := hh
      refine (dy_delete1 base g fs.length j cap cur (rowD fs) w hk hn hc hs hx (rowD_length fs) (fld_one fs) hj0 hj).mono ?_
      rintro e w' ⟨rfl, rfl⟩
      have hb1 := Blk.setCells (List.replicate (j * 2) (.string ByteArray.empty)) ((fs.length - j) * 2) (Blk.setCells ((rowD fs).drop (j * 2)) 0 hk.drew)
      refine ⟨_, rfl, ⟨by rw [rowD_length]; simp, .inr ⟨g, cap, _, rfl, hb, hb1, by omega, hc, by rw [setL_size, setL_size]; exact hs, ?_⟩⟩, rfl, ?_⟩
      · have := setL_front cur (rowD fs) (List.replicate (j * 2) (.string ByteArray.empty)) (fs.length * 2) (j * 2) hx (rowD_length fs) (by rw [hs]; omega) (by omega) (by simp)
        rw [← rowD_drop, Nat.sub_mul]
        exact this
      · exact (Only.mono ((Only.of_fresh (Fresh.drew w)).trans ((Only.setCells g _ _ _).trans (Only.setCells g _ _ _))) (fun i e => by rw [e]; rfl))
end Go.Proofs.YtapikjhfgcbifaaGreatDoor

