/-
  Package queue: slices.Delete of one item.
-/
import Derived.Test.YthfifeclmikbgaaQue5
import Derived.Test.YthfifeclmikbgaaSetL
namespace Go.Proofs.Ythfifeclmikbgaa
set_option linter.unusedVariables false
set_option linter.unusedSimpArgs false
open Go.RowKit
def zI3 : List Value := [.int .i64 0, .slice none 0 0, .slice none 0 0]
theorem zero_item : (Builtin.zeroCells (Value.agg #[.int .i64 0, .slice none 0 0, .slice none 0 0]).cells 1).toList = zI3 := by kernel_rfl
/-- The row when one element of three cells is gone, and the last place is laid bare. -/
theorem setL_del (cur : Array Value) (xs z : List Value) (n k : Nat) (hx : cur.toList.take (n * 3) = xs) (hxn : xs.length = n * 3) (hc : n * 3 ≤ cur.size) (hk : k < n) (hz : z.length = 3) :
    (setL (setL cur (k * 3) (xs.drop ((k + 1) * 3))) ((n - 1) * 3) z).toList.take ((n - 1) * 3) = xs.take (k * 3) ++ xs.drop ((k + 1) * 3) := by
  apply List.ext_getElem?
  intro i
  rw [List.getElem?_take]
  have l1 : (xs.drop ((k + 1) * 3)).length = (n - 1 - k) * 3 := by rw [List.length_drop, hxn, ← Nat.sub_mul]; congr 1; omega
  have l2 : (xs.take (k * 3)).length = k * 3 := by rw [List.length_take, hxn]; omega
  have l3 : (n - 1 - k) * 3 + k * 3 = (n - 1) * 3 := by rw [← Nat.add_mul]; congr 1; omega
  by_cases hi : i < (n - 1) * 3
  · rw [if_pos hi, Array.getElem?_toList, setL_get _ _ _ _ (by rw [setL_size, hz]; omega), if_neg (by omega), setL_get _ _ _ _ (by rw [l1]; omega)]
    by_cases h1 : i < k * 3
    · rw [if_neg (by omega), List.getElem?_append_left (by omega), ← hx, List.getElem?_take_of_lt h1, List.getElem?_take_of_lt (by omega), Array.getElem?_toList]
    · rw [if_pos (by rw [l1]; omega), List.getElem?_append_right (by omega), l2]
  · rw [if_neg hi, List.getElem?_eq_none (by rw [List.length_append, l1, l2]; omega)]
set_option maxRecDepth 100000 in
set_option maxHeartbeats 4000000 in
theorem qd_delete1 (g n k cap : Nat) (cur : Array Value) (xs : List Value) (w : World) (hb : Blk w g 34 cur) (hn : n ≤ cap) (hcm : cap ≤ maxLen) (hcs : cur.size = cap * 3) (hx : cur.toList.take (n * 3) = xs) (hxl : xs.length = n * 3) (h1 : ∀ u ∈ xs, u.oneCell' = true) (hk : k < n) (hn2 : n ≤ 100000) :
    Calls Try.prog 33 #[.slice (some ⟨g, 0, none⟩) n cap, .int .i64 (k : Int), .int .i64 ((k : Int) + 1)] w fun e w' => e = .returned (.slice (some ⟨g, 0, none⟩) (n - 1) cap) ∧
      w' = (w.drew.setCells g (k * 3) (xs.drop ((k + 1) * 3))).setCells g ((n - 1) * 3) zI3 := by
  simp only [maxLen] at hcm
  obtain ⟨i0, hi0, hiz, his, hib⟩ := info_parts qi_info
  obtain ⟨news, hnews⟩ : ∃ news, xs.drop ((k + 1) * 3) = news := ⟨_, rfl⟩
  obtain ⟨d, hd⟩ : ∃ d, n = k + 1 + d := ⟨n - (k + 1), by omega⟩
  have hlen : news.length = d * 3 := by rw [← hnews]; simp [hxl]; omega
  have hcell : ∀ t, t < n * 3 → w.drew.cell? ⟨g, t, none⟩ = xs[t]? := fun t ht => by
    rw [(hb.drew).cell, ← hx, List.getElem?_take_of_lt ht, Array.getElem?_toList]
  have hfz : ∀ t, w.drew.frozen? ⟨g, t, none⟩ = false := fun t => (hb.drew).frozen t
  have hsm : ∀ t, t < n * 3 → (w.drew.cell? ⟨g, t, none⟩).isSome = true := fun t ht => by
    rw [hcell t ht, List.getElem?_eq_getElem (by omega)]; rfl
  obtain ⟨A, hA, hsrc⟩ : ∃ A : Addr, (if cap = k + 1 then some (⟨g, 0, none⟩ : Addr) else some ⟨g, (k + 1) * 3, none⟩) = some A ∧ Hid (∀ t u, news[t]? = some u → w.drew.cell? (A.add t) = some u) := by
    by_cases h : cap = k + 1
    · refine ⟨⟨g, 0, none⟩, by simp [h], Lib.hid (fun t u hu => ?_)⟩
      have h0 : news.length = 0 := by rw [hlen]; omega
      rw [List.length_eq_zero_iff.1 h0] at hu
      simp at hu
    · refine ⟨⟨g, (k + 1) * 3, none⟩, by simp [h], Lib.hid (fun t u hu => ?_)⟩
      have ht : t < d * 3 := by rw [← hlen]; exact (List.getElem?_eq_some_iff.1 hu).1
      rw [← hnews, List.getElem?_drop] at hu
      rw [add_eq _ _ rfl]
      exact (hcell ((k + 1) * 3 + t) (by omega)).trans hu
  have s1 : Hid (news.length = (n - (k + 1)) * 3) := Lib.hid (by rw [hlen]; congr 1; omega)
  have s2 : Hid (∀ u ∈ news, u.oneCell' = true) := Lib.hid (fun u hu => h1 u (by rw [← hnews] at hu; exact List.mem_of_mem_drop hu))
  have s3 : Hid (∀ t, t < news.length → (w.drew.cell? ⟨g, 0 + k * 3 + t, none⟩).isSome = true ∧ w.drew.frozen? ⟨g, 0 + k * 3 + t, none⟩ = false) := Lib.hid (fun t ht => by
    rw [hlen] at ht
    rw [show 0 + k * 3 + t = k * 3 + t by omega]
    exact ⟨hsm (k * 3 + t) (by omega), hfz _⟩)
  obtain ⟨W1, hW1⟩ : ∃ W1, W1 = w.drew.setCells g (0 + k * 3) news := ⟨_, rfl⟩
  have hb1 : Blk W1 g 34 (setL cur (k * 3) news) := by rw [hW1, Nat.zero_add]; exact Blk.setCells news (k * 3) hb.drew
  have hcl : ∀ ty, (Builtin.clear_ #[61] ty #[.slice (some ⟨g, (n - 1) * 3, none⟩) (n - (n - 1)) (cap - (n - 1))]).run Try.prog W1 = .ok (.tuple #[]) (W1.setCells g ((n - 1) * 3) zI3) := fun ty => by
    rw [show n - (n - 1) = 1 by omega]
    refine run_clear_any W1 _ 34 ty (.agg #[.int .i64 0, .slice none 0 0, .slice none 0 0]) _ Try.underlying61 Try.zeroValue34 g ((n - 1) * 3) 1 _ (by omega) zero_item (fun v hv => by simp [zI3] at hv; rcases hv with rfl | rfl | rfl <;> rfl) (fun t ht => ?_) (fun t ht => hb1.frozen _)
    rw [hb1.cell, Array.getElem?_eq_getElem (by rw [setL_size, hcs]; simp [zI3] at ht; omega)]
    rfl
  have HW := Lib.hid hW1
  have HN := Lib.hid hnews
  have hkn : k + (n - (k + 1)) = n - 1 := by omega
  have HKN := Lib.hid hkn
  clear hW1 hb1 hsm hcell hfz hnews hb hlen h1 hx hxl hcs hd hkn
  have hb0 : ((k : Int) == (k : Int) + 1) = false := by simp; omega
  have i1 : (0 : Int) ≤ (k : Int) := by omega
  have i2 : (k : Int) ≤ (cap : Int) := by omega
  have i3 : (0 : Int) ≤ (k : Int) + 1 := by omega
  have i4 : (k : Int) + 1 ≤ (n : Int) := by omega
  have i5 : k ≤ cap := by omega
  have i6 : k + 1 ≤ n := by omega
  have i7 : ((k : Int) + 1).toNat = k + 1 := by omega
  have i8 : (n : Int) ≤ (cap : Int) := by omega
  have mixed : Try.prog.follows .mixedOrders = true := by kernel_rfl
  go_enter Try.func33, Try.ntmps33
  go_wp2_with fail
  go_region_law_o (refine step_append_room rfl (.tmp 22) (.tmp 25) 61 rfl 34 i0 3 Try.underlying61 hi0 his g 0 k cap (by simp [Act.eval, Act.put]) A (n - (k + 1)) (cap - (k + 1)) news (by simp [Act.eval, Act.put]) s1.out hsrc.out s2.out (by omega) s3.out ?_; rw [← HW.out, HKN.out])
  go_wp2
  go_ret
  exact ⟨rfl, by rw [HW.out, HN.out, Nat.zero_add]⟩
/-- One item is gone. -/
theorem qd_delete {base : Nat} {v : Value} {l : List QI} {w : World} (k : Nat) (h : Own w base 34 3 v l.length (rowQ l)) (hk : k < l.length) (hl : l.length ≤ 100000) :
    Calls Try.prog 33 #[v, .int .i64 (k : Int), .int .i64 ((k : Int) + 1)] w fun e w' => ∃ g c, v = .slice (some ⟨g, 0, none⟩) l.length c ∧ e = .returned (.slice (some ⟨g, 0, none⟩) (l.length - 1) c) ∧ Own w' base 34 3 (.slice (some ⟨g, 0, none⟩) (l.length - 1) c) (l.length - 1) (rowQ (l.eraseIdx k)) ∧ Only (· = g) w w' := by
  rcases h.2 with ⟨_, h0⟩ | ⟨g, cap, cur, rfl, hb, hh, hn, hc, hs, hx⟩
  · omega
  · have hB : Blk w g 34 cur := hh
    refine (qd_delete1 g l.length k cap cur (rowQ l) w hB hn hc hs hx (rowQ_length l) (rowQ_one l) hk hl).mono ?_
    rintro e w' ⟨rfl, rfl⟩
    have hb1 := Blk.setCells zI3 ((l.length - 1) * 3) (Blk.setCells ((rowQ l).drop ((k + 1) * 3)) (k * 3) hB.drew)
    have he : rowQ (l.eraseIdx k) = (rowQ l).take (k * 3) ++ (rowQ l).drop ((k + 1) * 3) := by
      rw [rowQ_drop, List.eraseIdx_eq_take_drop_succ]
      have h1 : (rowQ l).take (k * 3) = rowQ (l.take k) := by
        have h2 : rowQ l = rowQ (l.take k) ++ rowQ (l.drop k) := by simp only [rowQ]; rw [← List.flatMap_append, List.take_append_drop]
        rw [h2, List.take_append_of_le_length (by rw [rowQ_length, List.length_take]; omega), List.take_of_length_le (by rw [rowQ_length, List.length_take]; omega)]
      rw [h1]
      simp [rowQ]
    refine ⟨g, cap, rfl, rfl, ⟨?_, .inr ⟨g, cap, _, rfl, hb, hb1, by omega, hc, by rw [setL_size, setL_size]; exact hs, ?_⟩⟩, ?_⟩
    · rw [rowQ_length, List.length_eraseIdx_of_lt hk]
    · rw [he]
      exact setL_del cur (rowQ l) zI3 l.length k hx (rowQ_length l) (by rw [hs]; omega) hk rfl
    · exact (Only.of_fresh (Fresh.drew w)).trans ((Only.setCells g _ _ _).trans (Only.setCells g _ _ _))
end Go.Proofs.Ythfifeclmikbgaa
