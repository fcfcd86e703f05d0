/-
  Layer 13: states: plain functions, and the contracts of package state.
-/
import Derived.Test.YtjediikcfhdgiaaDoorLaid
import Derived.Test.YtjediikcfhdgiaaDoorMake
import Derived.Test.YtjediikcfhdgiaaDoorRet
namespace Go.Proofs.YtjediikcfhdgiaaDoor
set_option linter.unusedVariables false
open Go.RowKit Go.ChangeShapes Go.WideShapes Go.Deep

/-- The table's rows. -/
def folL : List (List Int) := [[1, 5, 5, 5, 6, 6, 6, 6, 6], [1, 1, 3, 4, 1, 1, 2, 4, 1], [2, 2, 4, 4, 7, 7, 7, 4, 2], [5, 5, 5, 4, 3, 3, 4, 4, 3], [5, 5, 5, 5, 7, 7, 7, 4, 4]]
def fol (s e : Nat) : Int := (folL.getD s []).getD e 0
theorem fol_bd : ∀ s, s < 5 → ∀ e, e < 9 → 1 ≤ fol s e ∧ fol s e ≤ 7 := by decide
theorem fol_send : ∀ s, s < 5 → ∀ e, e < 4 → (1 ≤ fol s e ∧ fol s e ≤ 4) ∨ fol s e = 5 := by decide
theorem fol_get : ∀ s, s < 5 → ∀ e, e < 9 → 4 ≤ e → (1 ≤ fol s e ∧ fol s e ≤ 4) ∨ fol s e = 6 ∨ fol s e = 7 := by decide

def Tbl (w : World) : Prop := ∀ s e, s < 5 → e < 9 → w.cell? ⟨0, s * 9 + e, none⟩ = some (.int .i64 (fol s e))
theorem Tbl.lt {w : World} (h : Tbl w) : 0 < w.heap.size := cell_block_lt (h 0 0 (by omega) (by omega))
theorem Tbl.fresh {w w' : World} (h : Tbl w) (hf : Fresh w w') : Tbl w' := fun s e hs he => (hf.cell (p := ⟨_, _, none⟩) h.lt).trans (h s e hs he)
theorem Tbl.only {S : Nat → Prop} {w w' : World} (h : Tbl w) (hf : Only S w w') (hS : ¬ S 0) : Tbl w' := fun s e hs he => (hf.cell (p := ⟨_, _, none⟩) h.lt hS).trans (h s e hs he)
theorem Tbl.laid {w : World} {l : List (String × DataW Unit)} (hL : laidMetH Tryd.prog l w) (hp : (l.all fun x => x.2.handleName?.isNone) = true) (hm : ("squint/state.follows", Rows.laid_squint_state_follows) ∈ l) : Tbl w := by
  obtain ⟨cs, fuel, p, hc, ht⟩ := laid_cells (P := Tryd.prog) hL hp hm (g := 0) (t := 99) (by kernel_rfl) (by kernel_rfl)
  have ht' : DataW.trod (fun _ => ()) Tryd.prog w 0 (fun _ => true) false fuel 99 cs = some (.agg (folL.map fun zs => .agg (zs.map fun z => .lit (.int .i64 z))), p) := ht
  obtain ⟨hl, hi⟩ := trod_rows (sz := 9) (n := 5) (f := fun i => (folL.getD i []).map (Value.int .i64)) Tryd.underlying99 (by kernel_rfl) (by kernel_rfl) ht' (fun i d hd fu c q hq => by
    rw [List.getElem?_map] at hd
    have hlen : ∀ zs ∈ folL, zs.length = 9 := by decide
    cases hz : folL[i]? with
    | none => rw [hz] at hd; cases hd
    | some zs =>
      rw [hz] at hd
      cases hd
      have := trod_ints (n := 9) Tryd.underlying98 Tryd.underlying39 (by kernel_rfl) (by kernel_rfl) (hlen zs (List.mem_of_getElem? hz)) hq
      rw [this]
      simp [List.getD, hz])
  intro s e hs he
  rw [hc _ (by omega), hi s e hs he]
  have hlen : ∀ s, s < 5 → (folL.getD s []).length = 9 := by decide
  rw [List.getElem?_map, List.getElem?_eq_getElem (by rw [hlen s hs]; exact he)]
  rw [Option.map_some]
  congr 2
  have e1 : ∀ (l : List Int) (h : e < l.length), l[e] = l.getD e 0 := fun l h => by simp [List.getD, h]
  exact e1 _ _

/-! What is sent, what is got. -/
def sendS (s e : Int) : Int := if 0 ≤ s ∧ s ≤ 4 ∧ 0 ≤ e ∧ e ≤ 3 then (if fol s.toNat e.toNat = 5 then 0 else fol s.toNat e.toNat) else 0
def sendE (s e : Int) : Int := if 0 ≤ s ∧ s ≤ 4 ∧ 0 ≤ e ∧ e ≤ 3 then (if fol s.toNat e.toNat = 5 then 25 else 0) else 11
def getS (s e : Int) : Int := if 0 ≤ s ∧ s ≤ 4 ∧ 4 ≤ e ∧ e ≤ 8 then (if fol s.toNat e.toNat = 6 then s else if fol s.toNat e.toNat = 7 then 4 else fol s.toNat e.toNat) else 4
def getC (s e : Int) : Int := if 0 ≤ s ∧ s ≤ 4 ∧ 4 ≤ e ∧ e ≤ 8 then (if fol s.toNat e.toNat = 6 then 101 else if fol s.toNat e.toNat = 7 then 105 else 0) else 102
def getB (s e : Int) : Bool := decide (¬ (0 ≤ s ∧ s ≤ 4 ∧ 4 ≤ e ∧ e ≤ 8)) || decide (fol s.toNat e.toNat = 6)

set_option maxHeartbeats 800000 in
theorem ssend (s e : Int) (w : World) (hT : Tbl w) :
    Calls Tryd.prog 44 #[.int .i64 s, .int .i64 e] w fun en w' => en = .returned (.tuple #[.int .i64 (sendS s e), .int .i64 (sendE s e)]) ∧ w = w' := by
  by_cases h : 0 ≤ s ∧ s ≤ 4 ∧ 0 ≤ e ∧ e ≤ 3
  · have HS : Hid (sendS s e = if fol s.toNat e.toNat = 5 then 0 else fol s.toNat e.toNat) := if_pos h
    have HE : Hid (sendE s e = if fol s.toNat e.toNat = 5 then 25 else 0) := if_pos h
    obtain ⟨s0, s1, e0, e1⟩ := h
    obtain ⟨k, rfl⟩ : ∃ k : Nat, s = (k : Int) := ⟨s.toNat, by omega⟩
    obtain ⟨j, rfl⟩ : ∃ j : Nat, e = (j : Int) := ⟨e.toNat, by omega⟩
    rw [Int.toNat_natCast, Int.toNat_natCast] at HS HE
    have hc := hT k j (by omega) (by omega)
    have hbd := fol_send k (by omega) j (by omega)
    clear hT
    have s2 : (k : Int) < 5 := by omega
    by_cases h5 : fol k j = 5
    · rw [if_pos h5] at HS HE
      rw [h5] at hc
      clear h5 hbd
      go_enter Tryd.func44, Tryd.ntmps44
      go_wp2
      go_ret2
      exact ⟨ret_two (val_i HS.out) (val_i HE.out), rfl⟩
    · rw [if_neg h5] at HS HE
      have h5' : (fol k j == 5) = false := by simpa using h5
      clear hbd
      generalize fol k j = z at *
      go_enter Tryd.func44, Tryd.ntmps44
      go_wp2
      go_ret2
      exact ⟨ret_two (val_i HS.out) (val_i HE.out), rfl⟩
  · have HS : Hid (sendS s e = 0) := if_neg h
    have HE : Hid (sendE s e = 11) := if_neg h
    clear hT
    by_cases s0 : s < 0
    · clear h
      go_enter Tryd.func44, Tryd.ntmps44
      go_wp2
      go_ret2
      exact ⟨ret_two (val_i HS.out) (val_i HE.out), rfl⟩
    · by_cases s1 : 5 ≤ s
      · clear h
        go_enter Tryd.func44, Tryd.ntmps44
        go_wp2
        go_ret2
        exact ⟨ret_two (val_i HS.out) (val_i HE.out), rfl⟩
      · by_cases e0 : e < 0
        · clear h
          go_enter Tryd.func44, Tryd.ntmps44
          go_wp2
          go_ret2
          exact ⟨ret_two (val_i HS.out) (val_i HE.out), rfl⟩
        · have e1 : ¬ e ≤ 3 := by omega
          have e2 : decide (e ≤ 3) = false := decide_eq_false e1
          clear h
          go_enter Tryd.func44, Tryd.ntmps44
          go_wp2
          go_ret2
          exact ⟨ret_two (val_i HS.out) (val_i HE.out), rfl⟩

theorem sright (s : Int) (w : World) : Calls Tryd.prog 50 #[.int .i64 s] w fun en w' => en = .returned (.bool (decide (0 ≤ s) && decide (s < 5))) ∧ w = w' := by
  go_enter Tryd.func50, Tryd.ntmps50
  go_wp2
  all_goals
    go_ret
    exact ⟨ret_bool (by simp [*] <;> omega), rfl⟩
set_option maxHeartbeats 1600000 in
theorem sget (s e : Int) (w : World) (hT : Tbl w) :
    Calls Tryd.prog 46 #[.int .i64 s, .int .i64 e] w fun en w' => en = .returned (.tuple #[.int .i64 (getS s e), .agg #[.int .i64 (getC s e), .bool (getB s e)]]) ∧ Fresh w w' := by
  by_cases h : 0 ≤ s ∧ s ≤ 4 ∧ 4 ≤ e ∧ e ≤ 8
  · have HS : Hid (getS s e = if fol s.toNat e.toNat = 6 then s else if fol s.toNat e.toNat = 7 then 4 else fol s.toNat e.toNat) := if_pos h
    have HC : Hid (getC s e = if fol s.toNat e.toNat = 6 then 101 else if fol s.toNat e.toNat = 7 then 105 else 0) := if_pos h
    have HB : Hid (getB s e = decide (fol s.toNat e.toNat = 6)) := Lib.hid (by unfold getB; rw [decide_eq_false (by simpa using h), Bool.false_or])
    obtain ⟨s0, s1, e0, e1⟩ := h
    obtain ⟨k, rfl⟩ : ∃ k : Nat, s = (k : Int) := ⟨s.toNat, by omega⟩
    obtain ⟨j, rfl⟩ : ∃ j : Nat, e = (j : Int) := ⟨e.toNat, by omega⟩
    rw [Int.toNat_natCast, Int.toNat_natCast] at HS HC HB
    have hc := hT k j (by omega) (by omega)
    have hz : 0 < w.heap.size := hT.lt
    clear hT
    have s2 : (k : Int) < 5 := by omega
    have e2 : 0 ≤ (j : Int) := by omega
    by_cases h6 : fol k j = 6
    · rw [if_pos h6] at HS HC
      rw [h6] at hc HB
      clear h6
      go_enter Tryd.func46, Tryd.ntmps46
      go_wp2
      exact bodyPost_ret (v := .tuple #[.int .i64 (k : Int), .agg #[.int .i64 101, .bool true]]) (by simp [results, Tryd.results46, go_sem]) rfl ⟨ret_two (val_i HS.out) (agg_ib HC.out HB.out), Fresh.alloc _ _⟩
    · rw [if_neg h6] at HS HC
      rw [decide_eq_false h6] at HB
      have h6' : (fol k j == 6) = false := by simpa using h6
      by_cases h7 : fol k j = 7
      · rw [if_pos h7] at HS HC
        rw [h7] at hc
        clear h7 h6 h6'
        go_enter Tryd.func46, Tryd.ntmps46
        go_wp2
        exact bodyPost_ret (v := .tuple #[.int .i64 4, .agg #[.int .i64 105, .bool false]]) (by simp [results, Tryd.results46, go_sem]) rfl ⟨ret_two (val_i HS.out) (agg_ib HC.out HB.out), Fresh.alloc _ _⟩
      · rw [if_neg h7] at HS HC
        have h7' : (fol k j == 7) = false := by simpa using h7
        clear h6 h7
        generalize fol k j = z at *
        go_enter Tryd.func46, Tryd.ntmps46
        go_wp2
        exact bodyPost_ret (v := .tuple #[.int .i64 z, .agg #[.int .i64 0, .bool false]]) (by simp [results, Tryd.results46, go_sem]) rfl ⟨ret_two (val_i HS.out) (agg_ib HC.out HB.out), Fresh.alloc _ _⟩
  · have HS : Hid (getS s e = 4) := if_neg h
    have HC : Hid (getC s e = 102) := if_neg h
    have HB : Hid (getB s e = true) := Lib.hid (by unfold getB; rw [decide_eq_true h, Bool.true_or])
    clear hT
    have key : s < 0 ∨ (0 ≤ s ∧ 5 ≤ s) ∨ (0 ≤ s ∧ s < 5 ∧ e < 4) ∨ (0 ≤ s ∧ s < 5 ∧ 4 ≤ e ∧ decide (e ≤ 8) = false) := by
      by_cases h8 : e ≤ 8
      · omega
      · by_cases a : s < 0
        · exact .inl a
        · by_cases b : s < 5
          · exact .inr (.inr (.inr ⟨by omega, b, by omega, decide_eq_false h8⟩))
          · exact .inr (.inl ⟨by omega, by omega⟩)
    clear h
    rcases key with h | ⟨h, h'⟩ | ⟨h, h', h''⟩ | ⟨h, h', h'', h'''⟩
    all_goals
      go_enter Tryd.func46, Tryd.ntmps46
      go_wp2
      exact bodyPost_ret (v := .tuple #[.int .i64 4, .agg #[.int .i64 102, .bool true]]) (by simp [results, Tryd.results46, go_sem]) rfl ⟨ret_two (val_i HS.out) (agg_ib HC.out HB.out), Fresh.alloc _ _⟩
theorem fok (c : Int) (b : Bool) (w : World) :
    Calls Tryd.prog 24 #[.agg #[.int .i64 c, .bool b]] w fun en w' => en = .returned (.bool (decide (c = 0) && !b)) ∧ Fresh w w' := by
  go_enter Tryd.func24, Tryd.ntmps24
  go_wp2
  all_goals
    go_ret
    exact ⟨ret_bool (by simp [*]), Fresh.alloc _ _⟩
end Go.Proofs.YtjediikcfhdgiaaDoor

