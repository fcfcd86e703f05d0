/-
  Package huff: New; the codes.
-/
import Derived.Test.YtdoddpigiencjaaHuf
namespace Go.Proofs.Ytdoddpigiencjaa
set_option linter.unusedVariables false
set_option linter.unusedSimpArgs false
open Go.RowKit
theorem coder_info : (Try.prog.info? 156).map (fun i => i.size) = some 611 := by kernel_rfl
def codZ : List Value := [.int .u32 0, .int .i32 0, .int .u32 0, .int .i64 0] ++ List.replicate 257 (.int .u32 0) ++ List.replicate 257 (.int .i64 0) ++ List.replicate 31 (.int .u32 0) ++ List.replicate 62 (.int .i64 0)
theorem coder_zero : (Try.prog.info? 156).map (fun i => i.zero) = some (some (.agg codZ.toArray)) := by kernel_rfl
theorem run_coderZ (w : World) : (zeroValue 156).run Try.prog w = .ok (.agg codZ.toArray) w := by
  obtain ⟨i, hi, hz⟩ := Option.map_eq_some_iff.1 coder_zero
  simp [zeroValue, typeInfo, hi, hz]
def NewC (w : World) (e : Ending) (w' : World) : Prop := ∃ p, e = .returned (.pointer (some ⟨p, 0, none⟩)) ∧ Blk w' p 156 codZ.toArray ∧ w.heap.size ≤ p ∧ Fresh w w'
set_option maxRecDepth 100000 in
set_option maxHeartbeats 800000 in
theorem hf_new (w : World) : Calls Try.prog 86 #[] w (NewC w) := by
  have hz := run_coderZ
  have HB : Hid (NewC w (.returned (.pointer (some ⟨w.heap.size, 0, none⟩))) (w.alloc (.cells codZ.toArray 156))) := Lib.hid ⟨_, rfl, Blk.new _ _ _, Nat.le_refl _, Fresh.alloc _ _⟩
  generalize codZ.toArray = Z at *
  go_enter Try.func86, Try.ntmps86
  go_wp2
  go_ret
  exact HB.out
/-! The codes in a coder's block. -/
def tab (k : IntKind) (n : Nat) (f : Nat → Nat) : List Value := (List.range n).map fun i => Value.int k (f i : Int)
theorem tab_length (k : IntKind) (n : Nat) (f : Nat → Nat) : (tab k n f).length = n := by simp [tab]
theorem tab_get {k : IntKind} {n : Nat} {f : Nat → Nat} {i : Nat} (h : i < n) : (tab k n f)[i]? = some (.int k (f i : Int)) := by simp [tab, h]
def upF (f : Nat → Nat) (i v : Nat) : Nat → Nat := fun j => if j = i then v else f j
theorem tab_set (k : IntKind) (n : Nat) (f : Nat → Nat) (i v : Nat) : (tab k n f).set i (.int k (v : Int)) = tab k n (upF f i v) := by
  apply List.ext_getElem
  · simp [tab]
  · intro j h1 h2
    simp only [tab, List.length_set, List.length_map, List.length_range] at h1
    rw [List.getElem_set]
    by_cases e : i = j
    · subst e; simp [tab, upF]
    · rw [if_neg e]
      have : ¬ j = i := fun h => e h.symm
      simp [tab, upF, this]
theorem tab_congr {k : IntKind} {n : Nat} {f g : Nat → Nat} (h : ∀ i, i < n → f i = g i) : tab k n f = tab k n g := by
  apply List.map_congr_left
  intro i hi
  rw [h i (List.mem_range.1 hi)]
/-- The cells of a coder: what stands ahead, and the codes. -/
structure Cod where
  (num ord fst plc cnt : Nat → Nat)
def Cod.cells (c : Cod) (hd : List Value) : List Value := hd ++ (tab .u32 257 c.num ++ (tab .i64 257 c.ord ++ (tab .u32 31 c.fst ++ (tab .i64 31 c.plc ++ tab .i64 31 c.cnt))))
def Cod.zero : Cod := ⟨fun _ => 0, fun _ => 0, fun _ => 0, fun _ => 0, fun _ => 0⟩
theorem codZ_eq : codZ = Cod.zero.cells [.int .u32 0, .int .i32 0, .int .u32 0, .int .i64 0] := by kernel_rfl
def CodAt (w : World) (p : Nat) (hd : List Value) (c : Cod) : Prop := hd.length = 4 ∧ Blk w p 156 (c.cells hd).toArray
section
variable {w : World} {p : Nat} {hd : List Value} {c : Cod}
theorem Cod.get_hd (hh : hd.length = 4) {i : Nat} (h : i < 4) : (c.cells hd)[i]? = hd[i]? := by
  unfold Cod.cells
  rw [List.getElem?_append_left (by omega)]
theorem Cod.get_num (hh : hd.length = 4) {i : Nat} (h : i < 257) : (c.cells hd)[4 + i]? = some (.int .u32 (c.num i : Int)) := by
  unfold Cod.cells
  rw [List.getElem?_append_right (by omega), hh, List.getElem?_append_left (by rw [tab_length]; omega), show 4 + i - 4 = i by omega]
  exact tab_get h
theorem Cod.get_ord (hh : hd.length = 4) {i : Nat} (h : i < 257) : (c.cells hd)[261 + i]? = some (.int .i64 (c.ord i : Int)) := by
  unfold Cod.cells
  rw [List.getElem?_append_right (by omega), hh, List.getElem?_append_right (by rw [tab_length]; omega), tab_length, List.getElem?_append_left (by rw [tab_length]; omega), show 261 + i - 4 - 257 = i by omega]
  exact tab_get h
theorem Cod.get_fst (hh : hd.length = 4) {i : Nat} (h : i < 31) : (c.cells hd)[518 + i]? = some (.int .u32 (c.fst i : Int)) := by
  unfold Cod.cells
  rw [List.getElem?_append_right (by omega), hh, List.getElem?_append_right (by rw [tab_length]; omega), tab_length, List.getElem?_append_right (by rw [tab_length]; omega), tab_length, List.getElem?_append_left (by rw [tab_length]; omega), show 518 + i - 4 - 257 - 257 = i by omega]
  exact tab_get h
theorem Cod.get_plc (hh : hd.length = 4) {i : Nat} (h : i < 31) : (c.cells hd)[549 + i]? = some (.int .i64 (c.plc i : Int)) := by
  unfold Cod.cells
  rw [List.getElem?_append_right (by omega), hh, List.getElem?_append_right (by rw [tab_length]; omega), tab_length, List.getElem?_append_right (by rw [tab_length]; omega), tab_length, List.getElem?_append_right (by rw [tab_length]; omega), tab_length, List.getElem?_append_left (by rw [tab_length]; omega), show 549 + i - 4 - 257 - 257 - 31 = i by omega]
  exact tab_get h
theorem Cod.get_cnt (hh : hd.length = 4) {i : Nat} (h : i < 31) : (c.cells hd)[580 + i]? = some (.int .i64 (c.cnt i : Int)) := by
  unfold Cod.cells
  rw [List.getElem?_append_right (by omega), hh, List.getElem?_append_right (by rw [tab_length]; omega), tab_length, List.getElem?_append_right (by rw [tab_length]; omega), tab_length, List.getElem?_append_right (by rw [tab_length]; omega), tab_length, List.getElem?_append_right (by rw [tab_length]; omega), tab_length, show 580 + i - 4 - 257 - 257 - 31 - 31 = i by omega]
  exact tab_get h
theorem Cod.set_hd (hh : hd.length = 4) {i : Nat} (h : i < 4) (v : Value) : (c.cells hd).set i v = c.cells (hd.set i v) := by
  unfold Cod.cells
  rw [List.set_append_left _ _ (by omega)]
theorem Cod.set_num (hh : hd.length = 4) {i : Nat} (h : i < 257) (v : Nat) : (c.cells hd).set (4 + i) (.int .u32 (v : Int)) = ({ c with num := upF c.num i v } : Cod).cells hd := by
  unfold Cod.cells
  rw [List.set_append_right _ _ (by omega), hh, List.set_append_left _ _ (by rw [tab_length]; omega), show 4 + i - 4 = i by omega, tab_set]
theorem Cod.set_ord (hh : hd.length = 4) {i : Nat} (h : i < 257) (v : Nat) : (c.cells hd).set (261 + i) (.int .i64 (v : Int)) = ({ c with ord := upF c.ord i v } : Cod).cells hd := by
  unfold Cod.cells
  rw [List.set_append_right _ _ (by omega), hh, List.set_append_right _ _ (by rw [tab_length]; omega), tab_length, List.set_append_left _ _ (by rw [tab_length]; omega), show 261 + i - 4 - 257 = i by omega, tab_set]
theorem Cod.set_fst (hh : hd.length = 4) {i : Nat} (h : i < 31) (v : Nat) : (c.cells hd).set (518 + i) (.int .u32 (v : Int)) = ({ c with fst := upF c.fst i v } : Cod).cells hd := by
  unfold Cod.cells
  rw [List.set_append_right _ _ (by omega), hh, List.set_append_right _ _ (by rw [tab_length]; omega), tab_length, List.set_append_right _ _ (by rw [tab_length]; omega), tab_length, List.set_append_left _ _ (by rw [tab_length]; omega), show 518 + i - 4 - 257 - 257 = i by omega, tab_set]
theorem Cod.set_plc (hh : hd.length = 4) {i : Nat} (h : i < 31) (v : Nat) : (c.cells hd).set (549 + i) (.int .i64 (v : Int)) = ({ c with plc := upF c.plc i v } : Cod).cells hd := by
  unfold Cod.cells
  rw [List.set_append_right _ _ (by omega), hh, List.set_append_right _ _ (by rw [tab_length]; omega), tab_length, List.set_append_right _ _ (by rw [tab_length]; omega), tab_length, List.set_append_right _ _ (by rw [tab_length]; omega), tab_length, List.set_append_left _ _ (by rw [tab_length]; omega), show 549 + i - 4 - 257 - 257 - 31 = i by omega, tab_set]
theorem Cod.set_cnt (hh : hd.length = 4) {i : Nat} (h : i < 31) (v : Nat) : (c.cells hd).set (580 + i) (.int .i64 (v : Int)) = ({ c with cnt := upF c.cnt i v } : Cod).cells hd := by
  unfold Cod.cells
  rw [List.set_append_right _ _ (by omega), hh, List.set_append_right _ _ (by rw [tab_length]; omega), tab_length, List.set_append_right _ _ (by rw [tab_length]; omega), tab_length, List.set_append_right _ _ (by rw [tab_length]; omega), tab_length, List.set_append_right _ _ (by rw [tab_length]; omega), tab_length, show 580 + i - 4 - 257 - 257 - 31 - 31 = i by omega, tab_set]
theorem CodAt.cellL (h : CodAt w p hd c) (i : Nat) : w.cell? ⟨p, i, none⟩ = (c.cells hd)[i]? := by
  rw [h.2.cell]
  simp
theorem CodAt.frozen (h : CodAt w p hd c) (i : Nat) : w.frozen? ⟨p, i, none⟩ = false := h.2.frozen i
theorem CodAt.setL (h : CodAt w p hd c) (i : Nat) (v : Value) {hd' : List Value} {c' : Cod} (hh : hd'.length = 4) (he : (c.cells hd).set i v = c'.cells hd') : CodAt (w.setCell ⟨p, i, none⟩ v) p hd' c' := by
  refine ⟨hh, ?_⟩
  have := h.2.set i v
  rw [show ((c.cells hd).toArray.setIfInBounds i v) = (c'.cells hd').toArray by rw [← he]; simp] at this
  exact this
theorem CodAt.fresh {w' : World} (h : CodAt w p hd c) (hf : Fresh w w') : CodAt w' p hd c := ⟨h.1, h.2.fresh hf⟩
theorem CodAt.only {S : Nat → Prop} {w' : World} (h : CodAt w p hd c) (hf : Only S w w') (hs : ¬ S p) : CodAt w' p hd c := ⟨h.1, h.2.only hf hs⟩
end
theorem cod_congr {hd : List Value} {c d : Cod} (h1 : ∀ i, i < 257 → c.num i = d.num i) (h2 : ∀ i, i < 257 → c.ord i = d.ord i) (h3 : ∀ i, i < 31 → c.fst i = d.fst i) (h4 : ∀ i, i < 31 → c.plc i = d.plc i) (h5 : ∀ i, i < 31 → c.cnt i = d.cnt i) : c.cells hd = d.cells hd := by
  unfold Cod.cells
  rw [tab_congr h1, tab_congr h2, tab_congr h3, tab_congr h4, tab_congr h5]
/-- The codes, made. -/
def Cod.made : Cod := ⟨numF, ordF, fstF, plcF, cntF⟩
end Go.Proofs.Ytdoddpigiencjaa

