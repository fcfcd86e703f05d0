/-
  Texts laid together: HufC HufD HufE HufF HufG Huf Huf2.
-/
import Derived.Test.YtginhebfjbhmnaaGreatG18
import Derived.Test.YtginhebfjbhmnaaGreatG03
import Derived.Handy
import Derived.Deep.Cut
import Derived.Laws.Tables
import Derived.Test.YtginhebfjbhmnaaGreatG00
import Derived.Laws.Strings
import Derived.Laws.Rows
import Derived.Test.YtginhebfjbhmnaaGreatG01
import Derived.Test.YtginhebfjbhmnaaGreatG02
import Derived.Test.YtginhebfjbhmnaaGreatG05
import Derived.Deep.RegionHeld3
import Derived.Deep.RegionLaw
/-
  The document's code: a symbol's bits.
-/
namespace Go.Proofs.YtginhebfjbhmnaaGreat
set_option maxRecDepth 100000
set_option linter.unusedVariables false
open Go.RowKit
/-- What a row of literals makes, with no look at the world. -/
def pureStepA (P : Program) (a : Act) (o : Oper) : Option Act :=
  match o.guard, o.op with
  | none, .build t parts => (P.built t (parts.map fun (i, x) => (i, a.eval x)).toList).map fun cs => a.put o.dst (.agg cs)
  | _, _ => none
theorem wpList_built {P : Program} {ops : Array Oper} {Q : Exit → Act → World → Prop} {w : World} {a : Act} (l : List Oper) (d : Nat) (cs : Array Value) (h : (l.head?).bind (pureStepA P a) = some (a.put (some d) (.agg cs))) (hr : wpList P ops Q (l.drop 1) (a.put (some d) (.agg cs)) w) : wpList P ops Q l a w := by
  cases l with
  | nil => cases h
  | cons o r =>
    simp only [List.head?_cons, Option.bind_some] at h
    unfold pureStepA at h
    split at h
    · rename_i t parts hg ho
      cases hb : P.built t (parts.map fun (i, x) => (i, a.eval x)).toList with
      | none => rw [hb] at h; cases h
      | some cs =>
        rw [hb] at h
        have h2 := Option.some.inj h
        rw [← h2] at hr
        refine wpList_build hg t parts ho (by rw [hb]; rfl) ?_
        rw [hb]
        exact hr
    · cases h
theorem wpList_allocZ {P : Program} {ops : Array Oper} {Q : Exit → Act → World → Prop} {rest : List Oper} {o : Oper} {w : World} {a : Act} (hgd : o.guard = none) (t : TypeId) (ho : o.op = .alloc t) (cells : Array Value) (hz : (zeroValue t).run P w = .ok (.agg cells) w) (h : wpList P ops Q rest (a.put o.dst (.pointer (some ⟨w.heap.size, 0, none⟩))) (w.alloc (.cells cells t))) : wpList P ops Q (o :: rest) a w :=
  wpList_plain hgd fun _ hK => by
    have := hK _ _ h
    unfold Oper.wp execOp
    simp [ho, go_sem, hz]
    exact this
def lnC : Array Value := (lnL.map fun (n : Nat) => Value.int .i64 (n : Int)).toArray
theorem lnC_get {s : Nat} (h : s < 257) : lnC[s]? = some (.int .i64 (ln s : Int)) := by
  have hk : s < lnL.length := by rw [lnL_length]; exact h
  have e : ln s = lnL[s] := by simp [ln, List.getD, List.getElem?_eq_getElem hk]
  simp [lnC, List.getElem?_eq_getElem hk, e]
end Go.Proofs.YtginhebfjbhmnaaGreat

/-
  The document's code: the next code's text.
-/
namespace Go.Proofs.YtginhebfjbhmnaaGreat
set_option maxRecDepth 100000
set_option linter.unusedVariables false
open Go.RowKit
def chB (b : Bool) : UInt8 := if b then 49 else 48
theorem chB_inj {a b : Bool} (h : chB a = chB b) : a = b := by revert h; cases a <;> cases b <;> decide
/-- Bits as a text of noughts and ones. -/
def txB (D : List Bool) : ByteArray := strB (D.map chB)
theorem txB_size (D : List Bool) : (txB D).size = D.length := by simp [txB, strB_size]
theorem txB_inj {a b : List Bool} (h : txB a = txB b) : a = b := (List.map_inj_right (fun _ _ => chB_inj)).1 (strB_inj h)
theorem txB_append (a b : List Bool) : txB a ++ txB b = txB (a ++ b) := by
  unfold txB
  rw [strB_append, List.map_append]
theorem txB_get {D : List Bool} {k : Nat} (h : k < (txB D).size) : (txB D)[k] = chB (D[k]'(by rw [txB_size] at h; exact h)) := by
  have h2 : k < (txB D).data.toList.length := h
  have : (txB D).data.toList[k] = chB (D[k]'(by rw [txB_size] at h; exact h)) := by
    simp [txB, strB]
  exact this
/-- A block of one byte, made last, as a text. -/
theorem one_str (w : World) (c : UInt8) (v : Int) (hv : v = (c.toNat : Int)) (t : TypeId) : (convert 28 9 (.slice (some ⟨w.heap.size, 0, none⟩) 1 1)).run Tryz.prog (w.alloc (.cells #[.int .u8 v] t)) = .ok (.string (strB [c])) (w.alloc (.cells #[.int .u8 v] t)) := by
  subst hv
  exact run_str (l := [c]) (BS.row (g := w.heap.size) (t := t) (Blk.new w t #[.int .u8 (c.toNat : Int)])) 28 9 5 Tryz.underlying28 Tryz.underlying5 Tryz.underlying9 1
/-- A number's bits, and one: what is carried, and the bits. -/
def nxt : List Bool → Bool × List Bool
  | [] => (true, [])
  | b :: r => (b && (nxt r).1, (b != (nxt r).1) :: (nxt r).2)
theorem nxt_length : ∀ D, (nxt D).2.length = D.length
  | [] => rfl
  | b :: r => by simp [nxt, nxt_length r]
theorem bitsOf_succ (v n : Nat) : bitsOf v (n + 1) = v.testBit n :: bitsOf v n := by
  apply List.ext_getElem
  · simp [bitsOf_length]
  · intro i h1 h2
    rw [bitsOf_get]
    cases i with
    | zero => simp
    | succ j => 
      rw [List.getElem_cons_succ, bitsOf_get]
      congr 1
      omega
theorem nxt_bits (v : Nat) : ∀ n, nxt (bitsOf v n) = (decide ((v + 1) % 2 ^ n = 0), bitsOf (v + 1) n)
  | 0 => by simp [bitsOf, nxt, Nat.mod_one]
  | n + 1 => by
    rw [bitsOf_succ, bitsOf_succ, nxt, nxt_bits v n]
    have hp : 0 < 2 ^ n := Nat.pow_pos (by omega)
    have e1 : v.testBit n = decide (v / 2 ^ n % 2 = 1) := Nat.testBit_eq_decide_div_mod_eq
    have e2 : (v + 1).testBit n = decide ((v + 1) / 2 ^ n % 2 = 1) := Nat.testBit_eq_decide_div_mod_eq
    have h3 : (v + 1) / 2 ^ n = v / 2 ^ n + if (v + 1) % 2 ^ n = 0 then 1 else 0 := by
      rw [Nat.succ_div]
      congr 1
      simp only [Nat.dvd_iff_mod_eq_zero]
    have h4 : (v + 1) % 2 ^ (n + 1) = (v + 1) % 2 ^ n + 2 ^ n * ((v + 1) / 2 ^ n % 2) := by
      rw [Nat.pow_succ, Nat.mod_mul]
    rw [e1, e2]
    simp only [Prod.mk.injEq, List.cons.injEq, and_true]
    generalize hq : v / 2 ^ n = q at *
    rw [h4, h3]
    by_cases h : (v + 1) % 2 ^ n = 0
    · rw [h]
      simp only [if_pos]
      constructor
      · rcases Nat.mod_two_eq_zero_or_one q with e | e
        · have : (q + 1) % 2 = 1 := by omega
          simp [e, this]
        · have : (q + 1) % 2 = 0 := by omega
          simp [e, this]
      · rcases Nat.mod_two_eq_zero_or_one q with e | e
        · have : (q + 1) % 2 = 1 := by omega
          simp [e, this]
        · have : (q + 1) % 2 = 0 := by omega
          simp [e, this]
    · rw [if_neg h]
      simp [h]
theorem chB_flip (b : Bool) : (if chB b = 48 then (49 : UInt8) else 48) = chB (!b) := by cases b <;> rfl
end Go.Proofs.YtginhebfjbhmnaaGreat

/-
  The document's code: all codes as texts.
-/
namespace Go.Proofs.YtginhebfjbhmnaaGreat
set_option maxRecDepth 100000
set_option linter.unusedVariables false
open Go.RowKit
def oS (q y : Nat) : ByteArray := if posF y < q then txB (codeB y) else ByteArray.empty
/-- The texts while the first q codes are laid. -/
def oC (q : Nat) : Array Value := ((List.range 257).map fun y => Value.string (oS q y)).toArray
theorem oC_size (q : Nat) : (oC q).size = 257 := by simp [oC]
theorem oC_get (q : Nat) {y : Nat} (h : y < 257) : (oC q)[y]? = some (.string (oS q y)) := by simp [oC, h]
theorem oC_zero : oC 0 = Array.replicate 257 (.string ByteArray.empty) := by
  apply Array.ext
  · simp [oC]
  · intro i h1 h2
    simp [oC, oS]
theorem oC_set {q x : Nat} (hx : x < 257) (h : posF x = q) : (oC q).setIfInBounds x (.string (txB (codeB x))) = oC (q + 1) := by
  apply Array.ext
  · simp [oC]
  · intro i h1 h2
    have hi : i < 257 := by simpa [oC] using h2
    rw [Array.getElem_setIfInBounds (by simpa [oC] using hi)]
    by_cases e : x = i
    · subst e
      rw [if_pos rfl]
      simp [oC, oS, h]
    · rw [if_neg e]
      have hne : posF i ≠ q := fun h2 => e (posF_inj hx hi (by rw [h, h2]))
      simp only [oC, oS, List.getElem_toArray, List.getElem_map, List.getElem_range]
      by_cases h3 : posF i < q
      · rw [if_pos h3, if_pos (by omega)]
      · rw [if_neg h3, if_neg (by omega)]
def codC : Array Value := oC 257
theorem codC_get {y : Nat} (h : y < 257) : codC[y]? = some (.string (txB (codeB y))) := by
  rw [codC, oC_get _ h, oS, if_pos (sym h).2.2.1]
/-- The text behind q codes. -/
def cT (q : Nat) : List Bool := if q = 0 then [] else codeB (ordF (q - 1))
theorem next_ok : (List.range 256).all (fun q => Nat.ble (ln (ordF q)) (ln (ordF (q + 1))) && Nat.beq (numF (ordF (q + 1))) ((numF (ordF q) + 1) * 2 ^ (ln (ordF (q + 1)) - ln (ordF q)))) = true := by kernel_rfl
theorem nextP {q : Nat} (h : q < 256) : ln (ordF q) ≤ ln (ordF (q + 1)) ∧ numF (ordF (q + 1)) = (numF (ordF q) + 1) * 2 ^ (ln (ordF (q + 1)) - ln (ordF q)) := by
  have := List.all_eq_true.1 next_ok q (List.mem_range.2 h)
  simpa only [Bool.and_eq_true, Nat.ble_eq, Nat.beq_eq] using this
def zB (n : Nat) : List Bool := List.replicate n false
theorem zB_bits (n : Nat) : bitsOf 0 n = zB n := by
  apply List.ext_getElem
  · simp [bitsOf_length, zB]
  · intro i h1 h2
    rw [bitsOf_get]
    simp [zB]
/-- The next code: one more, and noughts behind. -/
theorem code_step {q : Nat} (h : q < 256) : codeB (ordF (q + 1)) = (nxt (codeB (ordF q))).2 ++ zB (ln (ordF (q + 1)) - ln (ordF q)) := by
  obtain ⟨h1, h2⟩ := nextP h
  unfold codeB
  rw [nxt_bits, ← zB_bits, ← bitsOf_cat _ _ _ _ (Nat.pow_pos (by omega)), h2, Nat.add_zero]
  congr 1
  omega
theorem code_first : codeB (ordF 0) = zB 5 := by kernel_rfl
theorem qF_end : plcF 30 + cntF 30 = 257 := by kernel_rfl
end Go.Proofs.YtginhebfjbhmnaaGreat

/-
  The document's code: bytes as noughts and ones.
-/
namespace Go.Proofs.YtginhebfjbhmnaaGreat
set_option maxRecDepth 100000
set_option linter.unusedVariables false
set_option linter.unusedSimpArgs false
open Go.RowKit
theorem u8_infoF : (Tryz.prog.info? 5).map (fun i => (i.zero, i.size, i.bytes)) = some (some (.int .u8 0), 1, 1) := by kernel_rfl
def bitV (D : List Bool) : List Value := (D.map chB).map byteV
/-- The bits so far stand in new memory. -/
def BitR (w : World) (D : List Bool) (out : Value) (wr : World) : Prop := Own wr w.heap.size 5 1 out D.length (bitV D) ∧ Fresh w wr
theorem bb_get (c : UInt8) (j : Nat) (h : j < (bb c).length) : (bb c)[j] = c.toNat.testBit (7 - j) := by
  exact bitsOf_get _ _ _ h
theorem bit_byte (c : UInt8) (j : Nat) (h : j < (bb c).length) : (48 + ((c.toNat / 2 ^ (7 - j) % 2 : Nat) : Int)) = ((chB (bb c)[j]).toNat : Int) := by
  rw [bb_get, Nat.testBit_eq_decide_div_mod_eq]
  rcases Nat.mod_two_eq_zero_or_one (c.toNat / 2 ^ (7 - j)) with e | e
  · rw [e]; rfl
  · rw [e]; rfl
end Go.Proofs.YtginhebfjbhmnaaGreat

/-
  The document's code: the bits of a text, with the ones behind.
-/
namespace Go.Proofs.YtginhebfjbhmnaaGreat
set_option maxRecDepth 100000
set_option linter.unusedVariables false
set_option linter.unusedSimpArgs false
open Go.RowKit
theorem codC_all : codC.all (·.oneCell') = true := by
  rw [Array.all_eq_true_iff_forall_mem]
  intro v hv
  simp only [codC, oC, List.mem_toArray, List.mem_map] at hv
  obtain ⟨y, _, rfl⟩ := hv
  rfl
theorem encB_take {l : List UInt8} {k : Nat} (h : k < l.length) : encB (l.take (k + 1)) = encB (l.take k) ++ codeB l[k].toNat := by
  rw [List.take_succ_eq_append_getElem h, encB_append]
  simp [encB]
/-- How many ones stand behind. -/
theorem pads (z : Nat) : ∃ P, P ≤ 7 ∧ (z + P) % 8 = 0 ∧ ∀ j, j < P → (z + j) % 8 ≠ 0 := ⟨(8 - z % 8) % 8, by omega, by omega, fun j h => by omega⟩
end Go.Proofs.YtginhebfjbhmnaaGreat

/-
  Package huff: Size.
-/
namespace Go.Proofs.YtginhebfjbhmnaaGreat
set_option maxRecDepth 100000
set_option linter.unusedVariables false
set_option linter.unusedSimpArgs false
open Go.RowKit
theorem run_index_lnA {P : Program} (w : World) (t : TypeId) (k : IntKind) (i : Int) (h : P.underlying t = some .string) (h0 : 0 ≤ i) (h1 : i ≤ 256) :
    (Instr.index t (.string lnA) (.int k i)).run P w = .ok (.int .u8 (lnI i)) w := by
  have hi : 0 ≤ i ∧ i < (lnA.size : Int) := by rw [lnA_size]; omega
  have h2 : i.toNat < lnA.size := by rw [lnA_size]; omega
  rw [run_index_string w t lnA k i h, dif_pos hi]
  simp only [lnI, ByteArray.getElem?_lt' _ _ h2, Option.getD_some]
attribute [local go_sem high] fold_lnA run_index_lnA
end Go.Proofs.YtginhebfjbhmnaaGreat

/-
  Package huff: New; the codes.
-/
namespace Go.Proofs.YtginhebfjbhmnaaGreat
set_option maxRecDepth 100000
set_option linter.unusedVariables false
set_option linter.unusedSimpArgs false
open Go.RowKit
theorem coder_info : (Tryz.prog.info? 185).map (fun i => i.size) = some 611 := by kernel_rfl
def codZ : List Value := [.int .u32 0, .int .i32 0, .int .u32 0, .int .i64 0] ++ List.replicate 257 (.int .u32 0) ++ List.replicate 257 (.int .i64 0) ++ List.replicate 31 (.int .u32 0) ++ List.replicate 62 (.int .i64 0)
theorem coder_zero : (Tryz.prog.info? 185).map (fun i => i.zero) = some (some (.agg codZ.toArray)) := by kernel_rfl
theorem run_coderZ (w : World) : (zeroValue 185).run Tryz.prog w = .ok (.agg codZ.toArray) w := by
  obtain ⟨i, hi, hz⟩ := Option.map_eq_some_iff.1 coder_zero
  simp [zeroValue, typeInfo, hi, hz]
def NewC (w : World) (e : Ending) (w' : World) : Prop := ∃ p, e = .returned (.pointer (some ⟨p, 0, none⟩)) ∧ Blk w' p 185 codZ.toArray ∧ w.heap.size ≤ p ∧ Fresh w w'
set_option maxRecDepth 100000 in
set_option maxHeartbeats 800000 in
theorem hf_new (w : World) : Calls Tryz.prog 99 #[] w (NewC w) := by
  have hz := run_coderZ
  have HB : Hid (NewC w (.returned (.pointer (some ⟨w.heap.size, 0, none⟩))) (w.alloc (.cells codZ.toArray 185))) := Lib.hid ⟨_, rfl, Blk.new _ _ _, Nat.le_refl _, Fresh.alloc _ _⟩
  generalize codZ.toArray = Z at *
  go_enter Tryz.func99, Tryz.ntmps99
  go_wp2
  go_ret
  exact HB.out
/-! The codes in a coder's block. -/
def tab (k : IntKind) (n : Nat) (f : Nat → Nat) : List Value := (List.range n).map fun i => Value.int k (f i : Int)
theorem tab_length (k : IntKind) (n : Nat) (f : Nat → Nat) : (tab k n f).length = n := by simp [tab]
theorem tab_get {k : IntKind} {n : Nat} {f : Nat → Nat} {i : Nat} (h : i < n) : (tab k n f)[i]? = some (.int k (f i : Int)) := by simp [tab, h]
def upF (f : Nat → Nat) (i v : Nat) : Nat → Nat := fun j => if j = i then v else f j
theorem tab_set (k : IntKind) (n : Nat) (f : Nat → Nat) (i v : Nat) : (tab k n f).set i (.int k (v : Int)) = tab k n (upF f i v) := by
  apply List.ext_getElem
  · simp [tab]
  · intro j h1 h2
    simp only [tab, List.length_set, List.length_map, List.length_range] at h1
    rw [List.getElem_set]
    by_cases e : i = j
    · subst e; simp [tab, upF]
    · rw [if_neg e]
      have : ¬ j = i := fun h => e h.symm
      simp [tab, upF, this]
theorem tab_congr {k : IntKind} {n : Nat} {f g : Nat → Nat} (h : ∀ i, i < n → f i = g i) : tab k n f = tab k n g := by
  apply List.map_congr_left
  intro i hi
  rw [h i (List.mem_range.1 hi)]
/-- The cells of a coder: what stands ahead, and the codes. -/
structure Cod where
  (num ord fst plc cnt : Nat → Nat)
def Cod.cells (c : Cod) (hd : List Value) : List Value := hd ++ (tab .u32 257 c.num ++ (tab .i64 257 c.ord ++ (tab .u32 31 c.fst ++ (tab .i64 31 c.plc ++ tab .i64 31 c.cnt))))
def Cod.zero : Cod := ⟨fun _ => 0, fun _ => 0, fun _ => 0, fun _ => 0, fun _ => 0⟩
theorem codZ_eq : codZ = Cod.zero.cells [.int .u32 0, .int .i32 0, .int .u32 0, .int .i64 0] := by kernel_rfl
def CodAt (w : World) (p : Nat) (hd : List Value) (c : Cod) : Prop := hd.length = 4 ∧ Blk w p 185 (c.cells hd).toArray
section
variable {w : World} {p : Nat} {hd : List Value} {c : Cod}
theorem Cod.get_hd (hh : hd.length = 4) {i : Nat} (h : i < 4) : (c.cells hd)[i]? = hd[i]? := by
  unfold Cod.cells
  rw [List.getElem?_append_left (by omega)]
theorem Cod.get_num (hh : hd.length = 4) {i : Nat} (h : i < 257) : (c.cells hd)[4 + i]? = some (.int .u32 (c.num i : Int)) := by
  unfold Cod.cells
  rw [List.getElem?_append_right (by omega), hh, List.getElem?_append_left (by rw [tab_length]; omega), show 4 + i - 4 = i by omega]
  exact tab_get h
theorem Cod.get_ord (hh : hd.length = 4) {i : Nat} (h : i < 257) : (c.cells hd)[261 + i]? = some (.int .i64 (c.ord i : Int)) := by
  unfold Cod.cells
  rw [List.getElem?_append_right (by omega), hh, List.getElem?_append_right (by rw [tab_length]; omega), tab_length, List.getElem?_append_left (by rw [tab_length]; omega), show 261 + i - 4 - 257 = i by omega]
  exact tab_get h
theorem Cod.get_fst (hh : hd.length = 4) {i : Nat} (h : i < 31) : (c.cells hd)[518 + i]? = some (.int .u32 (c.fst i : Int)) := by
  unfold Cod.cells
  rw [List.getElem?_append_right (by omega), hh, List.getElem?_append_right (by rw [tab_length]; omega), tab_length, List.getElem?_append_right (by rw [tab_length]; omega), tab_length, List.getElem?_append_left (by rw [tab_length]; omega), show 518 + i - 4 - 257 - 257 = i by omega]
  exact tab_get h
theorem Cod.get_plc (hh : hd.length = 4) {i : Nat} (h : i < 31) : (c.cells hd)[549 + i]? = some (.int .i64 (c.plc i : Int)) := by
  unfold Cod.cells
  rw [List.getElem?_append_right (by omega), hh, List.getElem?_append_right (by rw [tab_length]; omega), tab_length, List.getElem?_append_right (by rw [tab_length]; omega), tab_length, List.getElem?_append_right (by rw [tab_length]; omega), tab_length, List.getElem?_append_left (by rw [tab_length]; omega), show 549 + i - 4 - 257 - 257 - 31 = i by omega]
  exact tab_get h
theorem Cod.get_cnt (hh : hd.length = 4) {i : Nat} (h : i < 31) : (c.cells hd)[580 + i]? = some (.int .i64 (c.cnt i : Int)) := by
  unfold Cod.cells
  rw [List.getElem?_append_right (by omega), hh, List.getElem?_append_right (by rw [tab_length]; omega), tab_length, List.getElem?_append_right (by rw [tab_length]; omega), tab_length, List.getElem?_append_right (by rw [tab_length]; omega), tab_length, List.getElem?_append_right (by rw [tab_length]; omega), tab_length, show 580 + i - 4 - 257 - 257 - 31 - 31 = i by omega]
  exact tab_get h
theorem Cod.set_hd (hh : hd.length = 4) {i : Nat} (h : i < 4) (v : Value) : (c.cells hd).set i v = c.cells (hd.set i v) := by
  unfold Cod.cells
  rw [List.set_append_left _ _ (by omega)]
theorem Cod.set_num (hh : hd.length = 4) {i : Nat} (h : i < 257) (v : Nat) : (c.cells hd).set (4 + i) (.int .u32 (v : Int)) = ({ c with num := upF c.num i v } : Cod).cells hd := by
  unfold Cod.cells
  rw [List.set_append_right _ _ (by omega), hh, List.set_append_left _ _ (by rw [tab_length]; omega), show 4 + i - 4 = i by omega, tab_set]
theorem Cod.set_ord (hh : hd.length = 4) {i : Nat} (h : i < 257) (v : Nat) : (c.cells hd).set (261 + i) (.int .i64 (v : Int)) = ({ c with ord := upF c.ord i v } : Cod).cells hd := by
  unfold Cod.cells
  rw [List.set_append_right _ _ (by omega), hh, List.set_append_right _ _ (by rw [tab_length]; omega), tab_length, List.set_append_left _ _ (by rw [tab_length]; omega), show 261 + i - 4 - 257 = i by omega, tab_set]
theorem Cod.set_fst (hh : hd.length = 4) {i : Nat} (h : i < 31) (v : Nat) : (c.cells hd).set (518 + i) (.int .u32 (v : Int)) = ({ c with fst := upF c.fst i v } : Cod).cells hd := by
  unfold Cod.cells
  rw [List.set_append_right _ _ (by omega), hh, List.set_append_right _ _ (by rw [tab_length]; omega), tab_length, List.set_append_right _ _ (by rw [tab_length]; omega), tab_length, List.set_append_left _ _ (by rw [tab_length]; omega), show 518 + i - 4 - 257 - 257 = i by omega, tab_set]
theorem Cod.set_plc (hh : hd.length = 4) {i : Nat} (h : i < 31) (v : Nat) : (c.cells hd).set (549 + i) (.int .i64 (v : Int)) = ({ c with plc := upF c.plc i v } : Cod).cells hd := by
  unfold Cod.cells
  rw [List.set_append_right _ _ (by omega), hh, List.set_append_right _ _ (by rw [tab_length]; omega), tab_length, List.set_append_right _ _ (by rw [tab_length]; omega), tab_length, List.set_append_right _ _ (by rw [tab_length]; omega), tab_length, List.set_append_left _ _ (by rw [tab_length]; omega), show 549 + i - 4 - 257 - 257 - 31 = i by omega, tab_set]
theorem Cod.set_cnt (hh : hd.length = 4) {i : Nat} (h : i < 31) (v : Nat) : (c.cells hd).set (580 + i) (.int .i64 (v : Int)) = ({ c with cnt := upF c.cnt i v } : Cod).cells hd := by
  unfold Cod.cells
  rw [List.set_append_right _ _ (by omega), hh, List.set_append_right _ _ (by rw [tab_length]; omega), tab_length, List.set_append_right _ _ (by rw [tab_length]; omega), tab_length, List.set_append_right _ _ (by rw [tab_length]; omega), tab_length, List.set_append_right _ _ (by rw [tab_length]; omega), tab_length, show 580 + i - 4 - 257 - 257 - 31 - 31 = i by omega, tab_set]
theorem CodAt.cellL (h : CodAt w p hd c) (i : Nat) : w.cell? ⟨p, i, none⟩ = (c.cells hd)[i]? := by
  rw [h.2.cell]
  simp
theorem CodAt.frozen (h : CodAt w p hd c) (i : Nat) : w.frozen? ⟨p, i, none⟩ = false := h.2.frozen i
theorem CodAt.setL (h : CodAt w p hd c) (i : Nat) (v : Value) {hd' : List Value} {c' : Cod} (hh : hd'.length = 4) (he : (c.cells hd).set i v = c'.cells hd') : CodAt (w.setCell ⟨p, i, none⟩ v) p hd' c' := by
  refine ⟨hh, ?_⟩
  have := h.2.set i v
  rw [show ((c.cells hd).toArray.setIfInBounds i v) = (c'.cells hd').toArray by rw [← he]; simp] at this
  exact this
theorem CodAt.fresh {w' : World} (h : CodAt w p hd c) (hf : Fresh w w') : CodAt w' p hd c := ⟨h.1, h.2.fresh hf⟩
theorem CodAt.only {S : Nat → Prop} {w' : World} (h : CodAt w p hd c) (hf : Only S w w') (hs : ¬ S p) : CodAt w' p hd c := ⟨h.1, h.2.only hf hs⟩
end
theorem cod_congr {hd : List Value} {c d : Cod} (h1 : ∀ i, i < 257 → c.num i = d.num i) (h2 : ∀ i, i < 257 → c.ord i = d.ord i) (h3 : ∀ i, i < 31 → c.fst i = d.fst i) (h4 : ∀ i, i < 31 → c.plc i = d.plc i) (h5 : ∀ i, i < 31 → c.cnt i = d.cnt i) : c.cells hd = d.cells hd := by
  unfold Cod.cells
  rw [tab_congr h1, tab_congr h2, tab_congr h3, tab_congr h4, tab_congr h5]
/-- The codes, made. -/
def Cod.made : Cod := ⟨numF, ordF, fstF, plcF, cntF⟩
end Go.Proofs.YtginhebfjbhmnaaGreat

