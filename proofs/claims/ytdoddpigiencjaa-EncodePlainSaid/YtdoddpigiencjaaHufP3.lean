/-
  Texts laid together: HufC HufD HufE HufF HufG.
-/
import Derived.Test.YtdoddpigiencjaaHufB
import Derived.Test.YtdoddpigiencjaaRet
import Derived.Test.YtdoddpigiencjaaGen
import Derived.Handy
import Derived.Deep.Cut
import Derived.Laws.Tables
import Derived.Test.YtdoddpigiencjaaBytes
import Derived.Laws.Strings
import Derived.Laws.Rows
import Derived.Test.YtdoddpigiencjaaOwn
import Derived.Test.YtdoddpigiencjaaMore
/-
  The document's code: a symbol's bits.
-/
namespace Go.Proofs.Ytdoddpigiencjaa
set_option linter.unusedVariables false
open Go.RowKit
/-- What a row of literals makes, with no look at the world. -/
def pureStepA (P : Program) (a : Act) (o : Oper) : Option Act :=
  match o.guard, o.op with
  | none, .build t parts => (P.built t (parts.map fun (i, x) => (i, a.eval x)).toList).map fun cs => a.put o.dst (.agg cs)
  | _, _ => none
theorem wpList_built {P : Program} {ops : Array Oper} {Q : Exit → Act → World → Prop} {w : World} {a : Act} (l : List Oper) (d : Nat) (cs : Array Value) (h : (l.head?).bind (pureStepA P a) = some (a.put (some d) (.agg cs))) (hr : wpList P ops Q (l.drop 1) (a.put (some d) (.agg cs)) w) : wpList P ops Q l a w := by
  cases l with
  | nil => cases h
  | cons o r =>
    simp only [List.head?_cons, Option.bind_some] at h
    unfold pureStepA at h
    split at h
    · rename_i t parts hg ho
      cases hb : P.built t (parts.map fun (i, x) => (i, a.eval x)).toList with
      | none => rw [hb] at h; cases h
      | some cs =>
        rw [hb] at h
        have h2 := Option.some.inj h
        rw [← h2] at hr
        refine wpList_build hg t parts ho (by rw [hb]; rfl) ?_
        rw [hb]
        exact hr
    · cases h
theorem wpList_allocZ {P : Program} {ops : Array Oper} {Q : Exit → Act → World → Prop} {rest : List Oper} {o : Oper} {w : World} {a : Act} (hgd : o.guard = none) (t : TypeId) (ho : o.op = .alloc t) (cells : Array Value) (hz : (zeroValue t).run P w = .ok (.agg cells) w) (h : wpList P ops Q rest (a.put o.dst (.pointer (some ⟨w.heap.size, 0, none⟩))) (w.alloc (.cells cells t))) : wpList P ops Q (o :: rest) a w :=
  wpList_plain hgd fun _ hK => by
    have := hK _ _ h
    unfold Oper.wp execOp
    simp [ho, go_sem, hz]
    exact this
def lnC : Array Value := (lnL.map fun (n : Nat) => Value.int .i64 (n : Int)).toArray
theorem lnC_get {s : Nat} (h : s < 257) : lnC[s]? = some (.int .i64 (ln s : Int)) := by
  have hk : s < lnL.length := by rw [lnL_length]; exact h
  have e : ln s = lnL[s] := by simp [ln, List.getD, List.getElem?_eq_getElem hk]
  simp [lnC, List.getElem?_eq_getElem hk, e]
set_option maxRecDepth 100000 in
set_option maxHeartbeats 6400000 in
theorem rf_len (w : World) (s : Nat) (hs : s < 257) : Calls Try.prog 84 #[.int .i64 (s : Int)] w fun e w' => e = .returned (.int .i64 (ln s : Int)) ∧ Fresh w w' := by
  obtain ⟨Z, hZ⟩ : ∃ Z : Array Value, Z = Array.replicate 257 (.int .i64 0) := ⟨_, rfl⟩
  have HZ := Lib.hid hZ
  have hz : ∀ W : World, (zeroValue 134).run Try.prog W = .ok (.agg Z) W := fun W => by rw [hZ]; kernel_rfl
  clear hZ
  go_enter Try.func84, Try.ntmps84
  go_upto_region 1 with fail
  refine wp_region_list ?_
  have hb := Blk.new w 134 Z
  refine wpList_built _ 4 lnC (by as_aux_lemma => kernel_rfl) ?_
  refine wpList_allocZ rfl 134 rfl Z (hz _) ?_
  refine wpList_store_row rfl 134 (.tmp 3) (.tmp 4) rfl w.heap.size lnC (by as_aux_lemma => kernel_rfl) (by as_aux_lemma => kernel_rfl) 134 Z hb (by kernel_rfl) (by rw [HZ.out]; kernel_rfl) (by kernel_rfl) ?_
  refine wpList_nil ?_
  rename_i K hK
  refine hK _ _ ?_
  have hb2 : Blk ((w.alloc (.cells Z 134)).setRow w.heap.size lnC) w.heap.size 134 lnC := setRow_heap _ _ Z lnC _ _ hb
  have hf : Fresh w ((w.alloc (.cells Z 134)).setRow w.heap.size lnC) := Only.fresh (S := fun k => k = w.heap.size) ((Only.of_fresh (Fresh.alloc _ _)).trans ⟨rfl, rfl, rfl, by simp [World.setRow], fun k _ hk => setRow_other _ _ k _ hk⟩) (fun k hk h => by omega)
  have hc := (hb2.cell s).trans (lnC_get hs)
  generalize (w.alloc (.cells Z 134)).setRow w.heap.size lnC = W at *
  generalize w.heap.size = b at *
  have HF := Lib.hid hf
  clear hf hb hb2 hz HZ Z K hK
  go_wp2
  exact bodyPost_ret (v := .int .i64 (ln s : Int)) (by simp [results, Try.f84, go_sem]) rfl ⟨rfl, HF.out⟩
end Go.Proofs.Ytdoddpigiencjaa

/-
  The document's code: the next code's text.
-/
namespace Go.Proofs.Ytdoddpigiencjaa
set_option linter.unusedVariables false
open Go.RowKit
def chB (b : Bool) : UInt8 := if b then 49 else 48
theorem chB_inj {a b : Bool} (h : chB a = chB b) : a = b := by revert h; cases a <;> cases b <;> decide
/-- Bits as a text of noughts and ones. -/
def txB (D : List Bool) : ByteArray := strB (D.map chB)
theorem txB_size (D : List Bool) : (txB D).size = D.length := by simp [txB, strB_size]
theorem txB_inj {a b : List Bool} (h : txB a = txB b) : a = b := (List.map_inj_right (fun _ _ => chB_inj)).1 (strB_inj h)
theorem txB_append (a b : List Bool) : txB a ++ txB b = txB (a ++ b) := by
  unfold txB
  rw [strB_append, List.map_append]
theorem txB_get {D : List Bool} {k : Nat} (h : k < (txB D).size) : (txB D)[k] = chB (D[k]'(by rw [txB_size] at h; exact h)) := by
  have h2 : k < (txB D).data.toList.length := h
  have : (txB D).data.toList[k] = chB (D[k]'(by rw [txB_size] at h; exact h)) := by
    simp [txB, strB]
  exact this
/-- A block of one byte, made last, as a text. -/
theorem one_str (w : World) (c : UInt8) (v : Int) (hv : v = (c.toNat : Int)) (t : TypeId) : (convert 29 9 (.slice (some ⟨w.heap.size, 0, none⟩) 1 1)).run Try.prog (w.alloc (.cells #[.int .u8 v] t)) = .ok (.string (strB [c])) (w.alloc (.cells #[.int .u8 v] t)) := by
  subst hv
  exact run_str (l := [c]) (BS.row (g := w.heap.size) (t := t) (Blk.new w t #[.int .u8 (c.toNat : Int)])) 29 9 5 Try.underlying29 Try.underlying5 Try.underlying9 1
/-- A number's bits, and one: what is carried, and the bits. -/
def nxt : List Bool → Bool × List Bool
  | [] => (true, [])
  | b :: r => (b && (nxt r).1, (b != (nxt r).1) :: (nxt r).2)
theorem nxt_length : ∀ D, (nxt D).2.length = D.length
  | [] => rfl
  | b :: r => by simp [nxt, nxt_length r]
theorem bitsOf_succ (v n : Nat) : bitsOf v (n + 1) = v.testBit n :: bitsOf v n := by
  apply List.ext_getElem
  · simp [bitsOf_length]
  · intro i h1 h2
    rw [bitsOf_get]
    cases i with
    | zero => simp
    | succ j => 
      rw [List.getElem_cons_succ, bitsOf_get]
      congr 1
      omega
theorem nxt_bits (v : Nat) : ∀ n, nxt (bitsOf v n) = (decide ((v + 1) % 2 ^ n = 0), bitsOf (v + 1) n)
  | 0 => by simp [bitsOf, nxt, Nat.mod_one]
  | n + 1 => by
    rw [bitsOf_succ, bitsOf_succ, nxt, nxt_bits v n]
    have hp : 0 < 2 ^ n := Nat.pow_pos (by omega)
    have e1 : v.testBit n = decide (v / 2 ^ n % 2 = 1) := Nat.testBit_eq_decide_div_mod_eq
    have e2 : (v + 1).testBit n = decide ((v + 1) / 2 ^ n % 2 = 1) := Nat.testBit_eq_decide_div_mod_eq
    have h3 : (v + 1) / 2 ^ n = v / 2 ^ n + if (v + 1) % 2 ^ n = 0 then 1 else 0 := by
      rw [Nat.succ_div]
      congr 1
      simp only [Nat.dvd_iff_mod_eq_zero]
    have h4 : (v + 1) % 2 ^ (n + 1) = (v + 1) % 2 ^ n + 2 ^ n * ((v + 1) / 2 ^ n % 2) := by
      rw [Nat.pow_succ, Nat.mod_mul]
    rw [e1, e2]
    simp only [Prod.mk.injEq, List.cons.injEq, and_true]
    generalize hq : v / 2 ^ n = q at *
    rw [h4, h3]
    by_cases h : (v + 1) % 2 ^ n = 0
    · rw [h]
      simp only [if_pos]
      constructor
      · rcases Nat.mod_two_eq_zero_or_one q with e | e
        · have : (q + 1) % 2 = 1 := by omega
          simp [e, this]
        · have : (q + 1) % 2 = 0 := by omega
          simp [e, this]
      · rcases Nat.mod_two_eq_zero_or_one q with e | e
        · have : (q + 1) % 2 = 1 := by omega
          simp [e, this]
        · have : (q + 1) % 2 = 0 := by omega
          simp [e, this]
    · rw [if_neg h]
      simp [h]
theorem chB_flip (b : Bool) : (if chB b = 48 then (49 : UInt8) else 48) = chB (!b) := by cases b <;> rfl
set_option maxRecDepth 100000 in
set_option maxHeartbeats 6400000 in
theorem rf_next (w : World) (D : List Bool) (hD : D.length ≤ 100) : Calls Try.prog 85 #[.string (txB D)] w fun e w' => e = .returned (.string (txB (nxt D).2)) ∧ Fresh w w' := by
  obtain ⟨S, hS⟩ : ∃ S, txB D = S := ⟨_, rfl⟩
  have HS := Lib.hid hS
  have hl : S.size = D.length := by rw [← hS, txB_size]
  rw [hS]
  clear hS
  go_enter Try.func85, Try.ntmps85
  go_wp2
  go_loopw [3, 4, 5] (fun o c i wr => ∃ k : Nat, k ≤ D.length ∧ i = .int .i64 ((k : Int) - 1) ∧ c = .bool (nxt (D.drop k)).1 ∧ o = .string (txB (nxt (D.drop k)).2) ∧ Fresh w wr) (fun _ _ i _ => (intOf i + 1).toNat)
  case atStart => exact ⟨D.length, Nat.le_refl _, rfl, by simp [nxt], by simp [nxt]; rfl, Fresh.refl _⟩
  case round =>
    obtain ⟨k, hk, rfl, rfl, rfl, hf⟩ := hrel
    rcases k with _ | k
    · go_wp2
      exact bodyPost_ret (v := .string (txB (nxt (List.drop 0 D)).2)) (by simp [results, Try.f85, go_sem]) rfl ⟨by rw [List.drop_zero], hf⟩
    · have h0 : (0 : Int) ≤ ((k + 1 : Nat) : Int) - 1 := by omega
      have e1 : ((k + 1 : Nat) : Int) - 1 = (k : Int) := by omega
      rw [e1] at h0 ⊢
      have hlt : (k : Int) < (S.size : Int) := by omega
      have hlt2 : k < S.size := by omega
      have hkD : k < D.length := by omega
      have hd : D.drop k = D[k] :: D.drop (k + 1) := List.drop_eq_getElem_cons hkD
      obtain ⟨x, hx⟩ : ∃ x, D[k] = x := ⟨_, rfl⟩
      have hg : S[k] = chB x := by
        have := HS.out
        subst this
        rw [txB_get, hx]
      have h8 := one_str wr 48 48 rfl 5
      have h9 := one_str wr 49 49 rfl 5
      rw [hx] at hd
      obtain ⟨cr, hcr⟩ : ∃ cr, (nxt (D.drop (k + 1))).1 = cr := ⟨_, rfl⟩
      obtain ⟨O, hO⟩ : ∃ O, txB (nxt (D.drop (k + 1))).2 = O := ⟨_, rfl⟩
      rw [hcr, hO]
      have hO2 : O.size = D.length - (k + 1) := by rw [← hO, txB_size, nxt_length, List.length_drop]
      have h88 : ¬ 9223372036854775807 < (strB [48]).size + O.size := by rw [strB_size, hO2]; simp only [List.length_cons, List.length_nil]; omega
      have h99 : ¬ 9223372036854775807 < (strB [49]).size + O.size := by rw [strB_size, hO2]; simp only [List.length_cons, List.length_nil]; omega
      have hx0 : nxt (D.drop k) = (x && cr, (x != cr) :: (nxt (D.drop (k + 1))).2) := by rw [hd, nxt, hcr]
      have hx1 : (nxt (D.drop k)).1 = (x && cr) := by rw [hx0]
      have hx2 : ByteArray.append (strB [chB (x != cr)]) O = txB (nxt (D.drop k)).2 := by
        rw [hx0, ← hO]
        exact txB_append [x != cr] _
      have HX1 := Lib.hid hx1
      have HX2 := Lib.hid hx2
      clear hx0 hx1 hx2 hcr hO hd hx
      cases x
      · rw [show chB false = 48 from rfl] at hg
        cases cr
        · go_wp2
          exact ⟨⟨k, by omega, rfl, by rw [HX1.out]; rfl, by rw [← HX2.out]; rfl, hf.trans (Fresh.alloc _ _)⟩, by simp [intOf]⟩
        · go_wp2
          exact ⟨⟨k, by omega, rfl, by rw [HX1.out]; rfl, by rw [← HX2.out]; rfl, hf.trans (Fresh.alloc _ _)⟩, by simp [intOf]⟩
      · rw [show chB true = 49 from rfl] at hg
        cases cr
        · go_wp2
          exact ⟨⟨k, by omega, rfl, by rw [HX1.out]; rfl, by rw [← HX2.out]; rfl, hf.trans (Fresh.alloc _ _)⟩, by simp [intOf]⟩
        · go_wp2
          exact ⟨⟨k, by omega, rfl, by rw [HX1.out]; rfl, by rw [← HX2.out]; rfl, hf.trans (Fresh.alloc _ _)⟩, by simp [intOf]⟩
end Go.Proofs.Ytdoddpigiencjaa

/-
  The document's code: all codes as texts.
-/
namespace Go.Proofs.Ytdoddpigiencjaa
set_option linter.unusedVariables false
open Go.RowKit
def oS (q y : Nat) : ByteArray := if posF y < q then txB (codeB y) else ByteArray.empty
/-- The texts while the first q codes are laid. -/
def oC (q : Nat) : Array Value := ((List.range 257).map fun y => Value.string (oS q y)).toArray
theorem oC_size (q : Nat) : (oC q).size = 257 := by simp [oC]
theorem oC_get (q : Nat) {y : Nat} (h : y < 257) : (oC q)[y]? = some (.string (oS q y)) := by simp [oC, h]
theorem oC_zero : oC 0 = Array.replicate 257 (.string ByteArray.empty) := by
  apply Array.ext
  · simp [oC]
  · intro i h1 h2
    simp [oC, oS]
theorem oC_set {q x : Nat} (hx : x < 257) (h : posF x = q) : (oC q).setIfInBounds x (.string (txB (codeB x))) = oC (q + 1) := by
  apply Array.ext
  · simp [oC]
  · intro i h1 h2
    have hi : i < 257 := by simpa [oC] using h2
    rw [Array.getElem_setIfInBounds (by simpa [oC] using hi)]
    by_cases e : x = i
    · subst e
      rw [if_pos rfl]
      simp [oC, oS, h]
    · rw [if_neg e]
      have hne : posF i ≠ q := fun h2 => e (posF_inj hx hi (by rw [h, h2]))
      simp only [oC, oS, List.getElem_toArray, List.getElem_map, List.getElem_range]
      by_cases h3 : posF i < q
      · rw [if_pos h3, if_pos (by omega)]
      · rw [if_neg h3, if_neg (by omega)]
def codC : Array Value := oC 257
theorem codC_get {y : Nat} (h : y < 257) : codC[y]? = some (.string (txB (codeB y))) := by
  rw [codC, oC_get _ h, oS, if_pos (sym h).2.2.1]
/-- The text behind q codes. -/
def cT (q : Nat) : List Bool := if q = 0 then [] else codeB (ordF (q - 1))
theorem next_ok : (List.range 256).all (fun q => Nat.ble (ln (ordF q)) (ln (ordF (q + 1))) && Nat.beq (numF (ordF (q + 1))) ((numF (ordF q) + 1) * 2 ^ (ln (ordF (q + 1)) - ln (ordF q)))) = true := by kernel_rfl
theorem nextP {q : Nat} (h : q < 256) : ln (ordF q) ≤ ln (ordF (q + 1)) ∧ numF (ordF (q + 1)) = (numF (ordF q) + 1) * 2 ^ (ln (ordF (q + 1)) - ln (ordF q)) := by
  have := List.all_eq_true.1 next_ok q (List.mem_range.2 h)
  simpa only [Bool.and_eq_true, Nat.ble_eq, Nat.beq_eq] using this
def zB (n : Nat) : List Bool := List.replicate n false
theorem zB_bits (n : Nat) : bitsOf 0 n = zB n := by
  apply List.ext_getElem
  · simp [bitsOf_length, zB]
  · intro i h1 h2
    rw [bitsOf_get]
    simp [zB]
/-- The next code: one more, and noughts behind. -/
theorem code_step {q : Nat} (h : q < 256) : codeB (ordF (q + 1)) = (nxt (codeB (ordF q))).2 ++ zB (ln (ordF (q + 1)) - ln (ordF q)) := by
  obtain ⟨h1, h2⟩ := nextP h
  unfold codeB
  rw [nxt_bits, ← zB_bits, ← bitsOf_cat _ _ _ _ (Nat.pow_pos (by omega)), h2, Nat.add_zero]
  congr 1
  omega
theorem code_first : codeB (ordF 0) = zB 5 := by kernel_rfl
theorem qF_end : plcF 30 + cntF 30 = 257 := by kernel_rfl
structure CdR (w : World) (b0 b1 q : Nat) (W : World) : Prop where
  ge : w.heap.size ≤ b0
  ne : b0 < b1
  r0 : Blk W b0 122 (oC 0)
  r1 : Blk W b1 122 (oC q)
  fr : Fresh w W
theorem CdR.fresh {w W W' : World} {b0 b1 q : Nat} (h : CdR w b0 b1 q W) (hf : Fresh W W') : CdR w b0 b1 q W' := ⟨h.ge, h.ne, h.r0.fresh hf, h.r1.fresh hf, h.fr.trans hf⟩
theorem CdR.set {w W : World} {b0 b1 q x : Nat} (h : CdR w b0 b1 q W) (hx : x < 257) (hp : posF x = q) : CdR w b0 b1 (q + 1) (W.setCell ⟨b1, x, none⟩ (.string (txB (codeB x)))) :=
  ⟨h.ge, h.ne, h.r0.far (by have := h.ne; simp; omega) _, by have := h.r1.set x (.string (txB (codeB x))); rwa [oC_set hx hp] at this, h.fr.step _ _ (by have := h.ge; have := h.ne; simp; omega)⟩
set_option maxRecDepth 100000 in
set_option maxHeartbeats 6400000 in
theorem rf_codes (w : World) : Calls Try.prog 73 #[] w fun e w' => e = .returned (.agg codC) ∧ Fresh w w' := by
  have hz : ∀ W : World, (zeroValue 122).run Try.prog W = .ok (.agg (oC 0)) W := fun W => by rw [oC_zero]; kernel_rfl
  go_enter Try.func73, Try.ntmps73
  go_wp2
  refine wp_gen (fun W => CdR w w.heap.size (w.heap.size + 1) 0 W) ⟨Nat.le_refl _, Nat.lt_succ_self _, (Blk.new w 122 (oC 0)).alloc _, ?_, (Fresh.alloc _ _).trans (Fresh.alloc _ _)⟩ ?_
  case refine_1 =>
    have := Blk.new (w.alloc (.cells (oC 0) 122)) 122 (oC 0)
    rwa [show (w.alloc (.cells (oC 0) 122)).heap.size = w.heap.size + 1 by unfold World.alloc; exact Array.size_push _] at this
  intro W0 hW0
  generalize w.heap.size + 1 = b1 at *
  generalize hb0 : w.heap.size = b0 at *
  have HW0 := Lib.hid hW0
  clear hz hW0
  go_loopw [2, 3] (fun c n wr => ∃ (m q : Nat), 5 ≤ m ∧ m ≤ 31 ∧ n = .int .i64 (m : Int) ∧ q ≤ 257 ∧ (m ≤ 30 → q = plcF m) ∧ (m = 31 → q = 257) ∧ c = .string (txB (cT q)) ∧ CdR w b0 b1 q wr) (fun _ n _ => 31 - (intOf n).toNat)
  case atStart => exact ⟨5, 0, by omega, by omega, rfl, by omega, fun _ => rfl, by omega, rfl, HW0.out⟩
  case round =>
    obtain ⟨m, q, hm5, hm31, rfl, hq, hq1, hq2, rfl, hc⟩ := hrel
    by_cases hm : m ≤ 30
    · have h1 : (m : Int) ≤ 30 := by omega
      have hq3 := hq1 hm
      clear hq1 hq2
      have HC := Lib.hid hc
      clear hc HW0
      go_wp2
      go_loopw [2, 4] (fun c x wr => ∃ (y q : Nat), y ≤ 257 ∧ x = .int .i64 (y : Int) ∧ plcF m + cntK y m = q ∧ c = .string (txB (cT q)) ∧ CdR w b0 b1 q wr) (fun _ x _ => 257 - (intOf x).toNat)
      case atStart => exact ⟨0, q, by omega, rfl, by rw [hq3]; rfl, rfl, HC.out⟩
      case round =>
        obtain ⟨y, q', hy, rfl, hq', rfl, hc⟩ := hrel
        clear HC
        by_cases hy2 : y < 257
        · have h2 : (y : Int) < 257 := by omega
          by_cases hly : ln y = m
          · have H : Hid (∀ W, Calls Try.prog 84 #[.int .i64 (y : Int)] W fun e w' => e = .returned (.int .i64 (m : Int)) ∧ Fresh W w') := Lib.hid fun W => by have := rf_len W y hy2; rwa [hly] at this
            have hpos : posF y = q' := by have := (sym hy2).2.1; rw [hly] at this; omega
            have hord : ordF q' = y := by have := (sym hy2).2.2.2.1; rwa [hpos] at this
            have hq257 : q' < 257 := by have := (sym hy2).2.2.1; omega
            have hcn : cntK (y + 1) m = cntK y m + 1 := by rw [cntK_succ hy2, if_pos hly]
            have hct : cT (q' + 1) = codeB y := by rw [cT, if_neg (by omega), Nat.add_sub_cancel, hord]
            have hcl : (codeB y).length = m := by rw [codeB_length, hly]
            clear hly
            by_cases hq0 : q' = 0
            · have hD : (zB 5).length ≤ m ∧ codeB y = zB 5 ++ zB (m - (zB 5).length) := by
                rw [← hord, hq0, code_first] at hcl
                rw [← hord, hq0, code_first, ← hcl]
                exact ⟨Nat.le_refl _, by rw [Nat.sub_self]; rfl⟩
              have hE : cT q' = [] := by rw [cT, if_pos hq0]
              rw [hE, show txB [] = ({ data := #[] } : ByteArray) from rfl]
              generalize hDD : zB 5 = D at *
              have HE := Lib.hid hE
              have HDD := Lib.hid hDD
              clear hDD hE
              go_wp2_with (go_at_call 84; with_reducible refine (H.out _).mono ?_; rintro e w1 ⟨rfl, hf⟩)
              have HC2 := Lib.hid (hc.fresh hf)
              clear hc hf
              have HD := Lib.hid hD
              clear hD
              go_loopw [2] (fun c wr => ∃ j : Nat, D.length + j ≤ m ∧ c = .string (txB (D ++ zB j)) ∧ CdR w b0 b1 q' wr) (fun c _ => m - match c with | .string s => s.size | _ => 0)
              case atStart => exact ⟨0, by have := HD.out.1; omega, by first | rfl | (rw [show zB 0 = [] from rfl, List.append_nil]; done) | (rw [show zB 0 = [] from rfl, List.append_nil, ← HDD.out]; rfl), HC2.out⟩
              case round =>
                obtain ⟨j, hj, rfl, hc⟩ := hrel
                have hS : (txB (D ++ zB j)).size = D.length + j := by rw [txB_size, List.length_append, zB, List.length_replicate]
                by_cases hj2 : D.length + j < m
                · have h4 : ((D.length + j : Nat) : Int) < (m : Int) := by omega
                  have hn : txB (D ++ zB j) ++ txB [false] = txB (D ++ zB (j + 1)) := by rw [txB_append, List.append_assoc]; unfold zB; rw [← List.replicate_succ']
                  have HN := Lib.hid hn
                  clear hn
                  generalize hSg : txB (D ++ zB j) = S at *
                  have hcat : ¬ 9223372036854775807 < S.size + 1 := by omega
                  have hsz : (S ++ ({ data := #[48] } : ByteArray)).size = S.size + 1 := by rw [ByteArray.size_append]; rfl
                  go_wp2
                  exact ⟨⟨j + 1, by omega, by rw [← HN.out]; rfl, hc⟩, by show m - (S ++ ({ data := #[48] } : ByteArray)).size < m - S.size; omega⟩
                · have h4 : ¬ ((D.length + j : Nat) : Int) < (m : Int) := by omega
                  have hjm : j = m - D.length := by omega
                  have hcell := (hc.r1.cell y).trans (oC_get q' hy2)
                  have hfz := hc.r1.frozen y
                  have hset := hc.set hy2 hpos
                  rw [HD.out.2, ← hjm] at hset
                  have HSET := Lib.hid hset
                  clear hset
                  generalize hSg : txB (D ++ zB j) = S at *
                  go_wp2
                  exact ⟨⟨y + 1, q' + 1, by omega, rfl, by rw [hcn]; omega, by rw [hct, HD.out.2, ← hjm, hSg], HSET.out⟩, by simp [intOf]; omega⟩
            · obtain ⟨p, hp⟩ : ∃ p, cT q' = p := ⟨_, rfl⟩
              have hp2 : p = codeB (ordF (q' - 1)) := by rw [← hp, cT, if_neg hq0]
              have hpl : p.length ≤ 100 ∧ 0 < p.length := by
                have := ln_ok (s := ordF (q' - 1)) (ordP (by omega)).1
                rw [hp2, codeB_length]; omega
              have HNX := Lib.hid (rf_next · p hpl.1)
              obtain ⟨D, hDn⟩ : ∃ D, (nxt p).2 = D := ⟨_, rfl⟩
              have hD : D.length ≤ m ∧ codeB y = D ++ zB (m - D.length) := by
                have h1 := code_step (q := q' - 1) (by omega)
                rw [show q' - 1 + 1 = q' by omega, hord, ← hp2, hDn] at h1
                have h2 : D.length = ln (ordF (q' - 1)) := by rw [← hDn, nxt_length, hp2, codeB_length]
                have h3 : ln y = m := by rw [← codeB_length, hcl]
                rw [← h2, h3] at h1
                have h4 := congrArg List.length h1
                rw [hcl, List.length_append, zB, List.length_replicate] at h4
                exact ⟨by omega, h1⟩
              rw [hDn] at HNX
              rw [hp]
              have hTe : (txB p).toList.isEmpty = false := by
                unfold txB
                rw [ByteArray.toList_eq, strB_data, List.isEmpty_eq_false_iff_exists_mem]
                obtain ⟨x, hx⟩ := List.exists_mem_of_length_pos hpl.2
                exact ⟨chB x, List.mem_map_of_mem hx⟩
              clear hp2 hDn
              generalize txB p = T at *
              go_wp2_with first | (go_at_call 84; with_reducible refine (H.out _).mono ?_; rintro e w1 ⟨rfl, hf⟩) | (go_at_call 85; with_reducible refine (HNX.out _).mono ?_; rintro e w2 ⟨rfl, hf2⟩)
              have HC2 := Lib.hid ((hc.fresh hf).fresh hf2)
              clear hc hf hf2
              have HD := Lib.hid hD
              clear hD
              go_loopw [2] (fun c wr => ∃ j : Nat, D.length + j ≤ m ∧ c = .string (txB (D ++ zB j)) ∧ CdR w b0 b1 q' wr) (fun c _ => m - match c with | .string s => s.size | _ => 0)
              case atStart => exact ⟨0, by have := HD.out.1; omega, by first | rfl | (rw [show zB 0 = [] from rfl, List.append_nil]; done) | (rw [show zB 0 = [] from rfl, List.append_nil, ← HDD.out]; rfl), HC2.out⟩
              case round =>
                obtain ⟨j, hj, rfl, hc⟩ := hrel
                have hS : (txB (D ++ zB j)).size = D.length + j := by rw [txB_size, List.length_append, zB, List.length_replicate]
                by_cases hj2 : D.length + j < m
                · have h4 : ((D.length + j : Nat) : Int) < (m : Int) := by omega
                  have hn : txB (D ++ zB j) ++ txB [false] = txB (D ++ zB (j + 1)) := by rw [txB_append, List.append_assoc]; unfold zB; rw [← List.replicate_succ']
                  have HN := Lib.hid hn
                  clear hn
                  generalize hSg : txB (D ++ zB j) = S at *
                  have hcat : ¬ 9223372036854775807 < S.size + 1 := by omega
                  have hsz : (S ++ ({ data := #[48] } : ByteArray)).size = S.size + 1 := by rw [ByteArray.size_append]; rfl
                  go_wp2
                  exact ⟨⟨j + 1, by omega, by rw [← HN.out]; rfl, hc⟩, by show m - (S ++ ({ data := #[48] } : ByteArray)).size < m - S.size; omega⟩
                · have h4 : ¬ ((D.length + j : Nat) : Int) < (m : Int) := by omega
                  have hjm : j = m - D.length := by omega
                  have hcell := (hc.r1.cell y).trans (oC_get q' hy2)
                  have hfz := hc.r1.frozen y
                  have hset := hc.set hy2 hpos
                  rw [HD.out.2, ← hjm] at hset
                  have HSET := Lib.hid hset
                  clear hset
                  generalize hSg : txB (D ++ zB j) = S at *
                  go_wp2
                  exact ⟨⟨y + 1, q' + 1, by omega, rfl, by rw [hcn]; omega, by rw [hct, HD.out.2, ← hjm, hSg], HSET.out⟩, by simp [intOf]; omega⟩
          · have hne : ¬ (ln y : Int) = (m : Int) := by omega
            have hne2 : ((ln y : Int) != (m : Int)) = true := by simpa using hne
            have H := Lib.hid (rf_len · y hy2)
            have hcn : cntK (y + 1) m = cntK y m := by rw [cntK_succ hy2, if_neg hly, Nat.add_zero]
            go_wp2_with (go_at_call 84; with_reducible refine (H.out _).mono ?_; rintro e w1 ⟨rfl, hf⟩)
            exact ⟨⟨y + 1, q', by omega, rfl, by rw [hcn]; omega, rfl, hc.fresh hf⟩, by simp [intOf]; omega⟩
        · have h2 : ¬ (y : Int) < 257 := by omega
          go_wp2
          refine ⟨⟨m + 1, q', by omega, by omega, rfl, ?_, fun h => ?_, fun h => ?_, rfl, hc⟩, by simp [intOf]; omega⟩
          · have := tab1 (n := m) (by omega)
            rw [← hq', show y = 257 by omega, this.1]; omega
          · rw [← hq', show y = 257 by omega, (tab1 (n := m) (by omega)).1, (tab2 (n := m) (by omega)).2.1]
          · rw [← hq', show y = 257 by omega, (tab1 (n := m) (by omega)).1, show m = 30 by omega, qF_end]
    · have h1 : ¬ (m : Int) ≤ 30 := by omega
      have hq7 := hq2 (by omega)
      subst hq7
      have hi : (Try.prog.info? 122).map (·.size) = some (oC 257).size := by rw [oC_size]; kernel_rfl
      have hall : (oC 257).all (·.oneCell') = true := by
        rw [Array.all_eq_true_iff_forall_mem]
        intro v hv
        simp only [oC, List.mem_toArray, List.mem_map] at hv
        obtain ⟨y, _, rfl⟩ := hv
        rfl
      go_upto_region 16 with fail
      refine wp_region_list ?_
      refine wpList_load_row rfl 122 (.tmp 1) rfl b1 (by rfl) 122 (oC 257) _ _ hc.r1 Try.underlying122 rfl hi ?_
      refine wpList_store_row rfl 122 (.tmp 0) (.tmp 30) rfl b0 (oC 257) (by rfl) (by rfl) 122 (oC 0) hc.r0 hi (by rw [oC_size, oC_size]) hall ?_
      refine wpList_nil ?_
      rename_i K hK
      refine hK _ _ ?_
      have hb2 : Blk (wr.setRow b0 (oC 257)) b0 122 (oC 257) := setRow_heap _ _ (oC 0) (oC 257) _ _ hc.r0
      have hf : Fresh w (wr.setRow b0 (oC 257)) := Only.fresh (S := fun k => k = b0) ((Only.of_fresh hc.fr).trans ⟨rfl, rfl, rfl, by simp [World.setRow], fun k _ hk => setRow_other _ _ k _ hk⟩) (fun k hk h => by have := hc.ge; omega)
      generalize wr.setRow b0 (oC 257) = W at *
      refine wp_ret ?_
      exact bodyPost_ret (v := .agg codC) (results_cell_row (by rfl) _ _ b0 122 (oC 257) _ _ (by rfl) hb2 Try.underlying122 rfl hi) rfl ⟨rfl, hf⟩
end Go.Proofs.Ytdoddpigiencjaa

/-
  The document's code: bytes as noughts and ones.
-/
namespace Go.Proofs.Ytdoddpigiencjaa
set_option linter.unusedVariables false
set_option linter.unusedSimpArgs false
open Go.RowKit
theorem u8_infoF : (Try.prog.info? 5).map (fun i => (i.zero, i.size, i.bytes)) = some (some (.int .u8 0), 1, 1) := by kernel_rfl
def bitV (D : List Bool) : List Value := (D.map chB).map byteV
/-- The bits so far stand in new memory. -/
def BitR (w : World) (D : List Bool) (out : Value) (wr : World) : Prop := Own wr w.heap.size 5 1 out D.length (bitV D) ∧ Fresh w wr
theorem bb_get (c : UInt8) (j : Nat) (h : j < (bb c).length) : (bb c)[j] = c.toNat.testBit (7 - j) := by
  exact bitsOf_get _ _ _ h
theorem bit_byte (c : UInt8) (j : Nat) (h : j < (bb c).length) : (48 + ((c.toNat / 2 ^ (7 - j) % 2 : Nat) : Int)) = ((chB (bb c)[j]).toNat : Int) := by
  rw [bb_get, Nat.testBit_eq_decide_div_mod_eq]
  rcases Nat.mod_two_eq_zero_or_one (c.toNat / 2 ^ (7 - j)) with e | e
  · rw [e]; rfl
  · rw [e]; rfl
set_option maxRecDepth 100000 in
set_option maxHeartbeats 3200000 in
theorem rf_bits (w : World) (l : List UInt8) (hl : l.length ≤ 100000000) : Calls Try.prog 61 #[.string (strB l)] w fun e w' => e = .returned (.string (txB (bitsL l))) ∧ Fresh w w' := by
  obtain ⟨n, hn⟩ : ∃ n, l.length = n := ⟨_, rfl⟩
  have HN := Lib.hid hn
  obtain ⟨S, hS⟩ : ∃ S, strB l = S := ⟨_, rfl⟩
  have HS := Lib.hid hS
  have hsl : S.size = n := by rw [← hS, strB_size, hn]
  rw [hn] at hl
  rw [hS]
  clear hS hn
  have HR0 : Hid (BitR w (bitsL (l.take 0)) (.slice none 0 0) w) := Lib.hid ⟨Own.nil _ _ _ _, Fresh.refl _⟩
  go_enter Try.func61, Try.ntmps61
  go_wp2
  go_loopw [3, 4] (fun out i wr => ∃ k : Nat, k ≤ n ∧ i = .int .i64 k ∧ BitR w (bitsL (l.take k)) out wr) (fun _ i _ => n - (intOf i).toNat)
  case atStart => exact ⟨0, by omega, rfl, HR0.out⟩
  case round =>
    obtain ⟨k, hk, rfl, hr⟩ := hrel
    have HR := Lib.hid hr
    clear hr
    by_cases hlt : k < n
    · have hlt' : (k : Int) < (n : Int) := by omega
      have h0 : (0 : Int) ≤ (k : Int) := by omega
      have hkl : k < l.length := by rw [HN.out]; exact hlt
      have hk2 : k < S.size := by omega
      have hg : S[k] = l[k] := by
        have := HS.out
        subst this
        rfl
      have HTK : Hid (bitsL (l.take (k + 1)) = bitsL (l.take k) ++ bb l[k]) := Lib.hid (by
        rw [List.take_succ_eq_append_getElem hkl, bitsL_append]
        simp [bitsL])
      generalize l[k] = c at *
      have hc := UInt8.toNat_lt c
      have hbl := bb_length c
      go_wp2
      go_loopw [3, 6] (fun out kk wr => ∃ (j K : Nat), j ≤ 8 ∧ K = 128 / 2 ^ j ∧ kk = .int .i64 (K : Int) ∧ BitR w (bitsL (l.take k) ++ (bb c).take j) out wr) (fun _ kk _ => (intOf kk).toNat)
      case atStart => exact ⟨0, 128, by omega, by simp, rfl, by rw [List.take_zero, List.append_nil]; exact HR.out⟩
      case round =>
        obtain ⟨j, K, hj, hK, rfl, hr⟩ := hrel
        by_cases hj8 : j < 8
        · have hKp : K = 2 ^ (7 - j) := by
            rw [hK, show (128 : Nat) = 2 ^ 7 from rfl, Nat.pow_div (by omega) (by omega)]
          have hK0 : (0 : Int) < (K : Int) := by have := Nat.pow_pos (n := 7 - j) (show 0 < 2 by omega); omega
          have hKn : (K : Int) ≠ 0 := by omega
          have hK1 : (K : Int) ≤ 128 := by have : K ≤ 128 := by rw [hK]; exact Nat.div_le_self _ _
                                           omega
          have hjl : j < (bb c).length := by omega
          obtain ⟨d, hd, hbit⟩ : ∃ d, d = chB ((bb c)[j]'hjl) ∧ (48 + ((c.toNat / K % 2 : Nat) : Int)) = (d.toNat : Int) := ⟨_, rfl, by rw [hKp]; exact bit_byte c j hjl⟩
          obtain ⟨q, hq⟩ : ∃ q, c.toNat / K = q := ⟨_, rfl⟩
          have hq2 : (c.toNat : Int) / (K : Int) = (q : Int) := by rw [← hq]; rfl
          have hq3 : q ≤ 255 := by rw [← hq]; have := Nat.div_le_self c.toNat K; omega
          rw [hq] at hbit
          have hbit2 : 48 + (q : Int) % 2 = (d.toNat : Int) := by rw [← hbit]; omega
          have hd2 := UInt8.toNat_lt d
          have HK2 : Hid (K / 2 = 128 / 2 ^ (j + 1)) := Lib.hid (by rw [hK, Nat.div_div_eq_div_mul, Nat.pow_succ])
          have HK3 : Hid (0 < K) := Lib.hid (by omega)
          obtain ⟨hown, hf⟩ := hr
          have hlen : (bitsL (l.take k) ++ (bb c).take j).length = 8 * k + j := by
            rw [List.length_append, bitsL_length, List.length_take, List.length_take, HN.out, hbl]; omega
          have hsnoc : (bitsL (l.take k) ++ (bb c).take (j + 1)) = (bitsL (l.take k) ++ (bb c).take j) ++ [(bb c)[j]] := by
            rw [List.append_assoc, List.take_succ_eq_append_getElem hjl]
          generalize bitsL (l.take k) ++ (bb c).take j = D at *
          obtain ⟨A', cc, rfl, _, _, _⟩ := hown.slice
          obtain ⟨v', w', hap, ho', hb', hne, _⟩ := hown.push (P := Try.prog) Try.underlying29 u8_infoF rfl (by omega) 29 hf (Nat.le_refl _) #[byteV d] rfl (by intro u hu; simp at hu; subst hu; rfl) (by unfold maxLen; omega) (by omega)
          have HREL : Hid (BitR w (bitsL (l.take k) ++ (bb c).take (j + 1)) v' w') := Lib.hid ⟨by
            rw [hsnoc]
            simpa [bitV, ← hd] using ho', hb'⟩
          unfold byteV at hap
          clear hown hf ho' hb' hne hsnoc hd hbit hK hq HR HTK hKp
          generalize d.toNat = dd at *
          go_wp2_with (at_builtin; refine wp_app rfl _ _ _ rfl hap rfl rfl rfl ?_)
          go_roundw
          case rel => exact ⟨j + 1, K / 2, by omega, HK2.out, by simp, HREL.out⟩
          case measure => have := HK3.out; simp [intOf]; omega
        · have hK0 : ¬ (0 : Int) < (K : Int) := by rw [hK, show j = 8 by omega]; simp
          have HREL : Hid (BitR w (bitsL (l.take (k + 1))) u3 wr) := Lib.hid (by
            rw [HTK.out]
            rwa [List.take_of_length_le (l := bb c) (by omega)] at hr)
          clear hK hr HTK HR
          go_wp2
          go_roundw
          case rel => exact ⟨k + 1, by omega, by go_num, HREL.out⟩
          case measure => simp [intOf]; omega
    · obtain rfl : k = n := by omega
      rw [List.take_of_length_le (by rw [HN.out]; exact Nat.le_refl _)] at HR
      obtain ⟨hown, hf⟩ := HR.out
      obtain ⟨A', cc, rfl, _, _, _⟩ := hown.slice
      have hcv : (convert 29 9 (.slice A' (bitsL l).length cc)).run Try.prog wr = .ok (.string (txB (bitsL l))) wr := by
        obtain ⟨h1, h2⟩ := Own.bytes hown
        have := run_str (P := Try.prog) h1 29 9 5 Try.underlying29 Try.underlying5 Try.underlying9 cc
        rwa [List.length_map] at this
      clear hown HR
      generalize (bitsL l).length = m at *
      go_wp2
      exact bodyPost_ret (v := .string (txB (bitsL l))) (by simp [results, Try.f61, go_sem]) rfl ⟨rfl, hf⟩
end Go.Proofs.Ytdoddpigiencjaa

/-
  The document's code: the bits of a text, with the ones behind.
-/
namespace Go.Proofs.Ytdoddpigiencjaa
set_option linter.unusedVariables false
set_option linter.unusedSimpArgs false
open Go.RowKit
/-- The table of all codes, in new memory. -/
structure CodsR (w : World) (b : Nat) (W : World) : Prop where
  ge : w.heap.size ≤ b
  row : Blk W b 122 codC
  fr : Fresh w W
theorem CodsR.cell {w W : World} {b : Nat} (h : CodsR w b W) {y : Nat} (hy : y < 257) : W.cell? ⟨b, y, none⟩ = some (.string (txB (codeB y))) := (h.row.cell y).trans (codC_get hy)
theorem CodsR.fresh {w W W' : World} {b : Nat} (h : CodsR w b W) (hf : Fresh W W') : CodsR w b W' := ⟨h.ge, h.row.fresh hf, h.fr.trans hf⟩
theorem codC_all : codC.all (·.oneCell') = true := by
  rw [Array.all_eq_true_iff_forall_mem]
  intro v hv
  simp only [codC, oC, List.mem_toArray, List.mem_map] at hv
  obtain ⟨y, _, rfl⟩ := hv
  rfl
theorem codC_info : (Try.prog.info? 122).map (·.size) = some codC.size := by rw [codC, oC_size]; kernel_rfl
theorem zero_cods (W : World) : (zeroValue 122).run Try.prog W = .ok (.agg (oC 0)) W := by rw [oC_zero]; kernel_rfl
theorem store_cods (W : World) : (storeCells ⟨W.heap.size, 0, none⟩ codC.toList).run Try.prog (W.alloc (.cells (oC 0) 122)) = .ok () ((W.alloc (.cells (oC 0) 122)).setRow W.heap.size codC) := by
  have h := run_storeCells_from (P := Try.prog) W.heap.size 122 codC.toList 0 (oC 0) (W.alloc (.cells (oC 0) 122)) (Blk.new W 122 (oC 0)) (by simp [codC, oC_size]) (fun v hv => (Array.all_eq_true_iff_forall_mem.1 codC_all) v (by simpa using hv))
  simpa using h
theorem cods_new (W : World) : CodsR W W.heap.size ((W.alloc (.cells (oC 0) 122)).setRow W.heap.size codC) :=
  ⟨Nat.le_refl _, setRow_heap _ _ (oC 0) codC _ _ (Blk.new W 122 (oC 0)), Only.fresh (S := fun k => k = W.heap.size) ((Only.of_fresh (Fresh.alloc _ _)).trans ⟨rfl, rfl, rfl, by simp [World.setRow], fun k _ hk => setRow_other _ _ k _ hk⟩) (fun k hk h => by omega)⟩
theorem CodsR.from {w w1 W : World} {b : Nat} (h : CodsR w1 b W) (hf : Fresh w w1) : CodsR w b W := ⟨Nat.le_trans hf.size h.ge, h.row, hf.trans h.fr⟩
theorem encB_take {l : List UInt8} {k : Nat} (h : k < l.length) : encB (l.take (k + 1)) = encB (l.take k) ++ codeB l[k].toNat := by
  rw [List.take_succ_eq_append_getElem h, encB_append]
  simp [encB]
/-- How many ones stand behind. -/
theorem pads (z : Nat) : ∃ P, P ≤ 7 ∧ (z + P) % 8 = 0 ∧ ∀ j, j < P → (z + j) % 8 ≠ 0 := ⟨(8 - z % 8) % 8, by omega, by omega, fun j h => by omega⟩
set_option maxRecDepth 100000 in
set_option maxHeartbeats 3200000 in
theorem rf_text (w : World) (l : List UInt8) (hl : l.length ≤ 100000000) : Calls Try.prog 67 #[.string (strB l)] w fun e w' => (∃ p, p ≤ 7 ∧ (szB l + p) % 8 = 0 ∧ e = .returned (.string (txB (encB l ++ ones p)))) ∧ Fresh w w' := by
  obtain ⟨n, hn⟩ : ∃ n, l.length = n := ⟨_, rfl⟩
  have HN := Lib.hid hn
  obtain ⟨S, hS⟩ : ∃ S, strB l = S := ⟨_, rfl⟩
  have HS := Lib.hid hS
  have hsl : S.size = n := by rw [← hS, strB_size, hn]
  rw [hn] at hl
  rw [hS]
  clear hS hn
  have HC := Lib.hid (rf_codes ·)
  go_enter Try.func67, Try.ntmps67
  have hz := zero_cods
  have hst := store_cods
  go_upto_region 2 with (go_at_call 73; with_reducible refine (HC.out _).mono ?_; rintro e w1 ⟨rfl, hf⟩)
  refine wp_gen (fun W => CodsR w w1.heap.size W) ((cods_new w1).from hf) ?_
  intro W0 hW0
  generalize w1.heap.size = bk at *
  have HW0 := Lib.hid hW0
  clear hz hst hW0 hf HC
  clear w1
  obtain ⟨Z, hZ⟩ : ∃ Z, szB l = Z := ⟨_, rfl⟩
  have HZ := Lib.hid hZ
  obtain ⟨P, hP7, hP, hPj⟩ := pads Z
  have HFIN : Hid (∀ (e : Ending) (W : World), e = .returned (.string (txB (encB l ++ ones P))) → CodsR w bk W → (∃ p, p ≤ 7 ∧ (szB l + p) % 8 = 0 ∧ e = .returned (.string (txB (encB l ++ ones p)))) ∧ Fresh w W) := Lib.hid (fun e W he hc => ⟨⟨P, hP7, by rw [hZ]; exact hP, he⟩, hc.fr⟩)
  have hZn : Z ≤ 3000000000 := by rw [← hZ]; have := szB_le l; rw [HN.out] at this; omega
  have HP := Lib.hid (And.intro hP7 (And.intro hP hPj))
  clear hP7 hP hPj hZ
  go_wp2
  go_loopw [4, 5] (fun o i wr => ∃ k : Nat, k ≤ n ∧ i = .int .i64 (k : Int) ∧ o = .string (txB (encB (l.take k))) ∧ CodsR w bk wr) (fun _ i _ => n - (intOf i).toNat)
  case atStart => exact ⟨0, by omega, rfl, rfl, HW0.out⟩
  case round =>
    obtain ⟨k, hk, rfl, rfl, hc⟩ := hrel
    clear HW0
    by_cases hlt : k < n
    · have hlt' : (k : Int) < (n : Int) := by omega
      have h0 : (0 : Int) ≤ (k : Int) := by omega
      have hkl : k < l.length := by rw [HN.out]; exact hlt
      have hk2 : k < S.size := by omega
      have hg : S[k] = l[k] := by
        have := HS.out
        subst this
        rfl
      have HTK := Lib.hid (encB_take hkl)
      have hsz : (txB (encB (l.take k))).size ≤ 3000000000 := by
        rw [txB_size]
        have := szB_le (l.take k)
        unfold szB at this
        have h2 : (l.take k).length ≤ n := by rw [List.length_take]; omega
        omega
      generalize l[k] = c at *
      have hcl := UInt8.toNat_lt c
      have hc7 : (c.toNat : Int) < 257 := by omega
      have hcell := hc.cell (y := c.toNat) (by omega)
      have hcs : (txB (codeB c.toNat)).size ≤ 30 := by rw [txB_size, codeB_length]; exact (ln_ok (s := c.toNat) (by omega)).2.1
      have HCAT : Hid (txB (encB (l.take k)) ++ txB (codeB c.toNat) = txB (encB (l.take (k + 1)))) := Lib.hid (by rw [txB_append, HTK.out])
      have HC := Lib.hid hc
      clear HTK hc
      generalize txB (encB (l.take k)) = T at *
      generalize txB (codeB c.toNat) = U at *
      have hcat : ¬ 9223372036854775807 < T.size + U.size := by omega
      go_wp2
      exact ⟨⟨k + 1, by omega, rfl, by rw [← HCAT.out], HC.out⟩, by simp [intOf]; omega⟩
    · obtain rfl : k = n := by omega
      rw [List.take_of_length_le (by rw [HN.out]; exact Nat.le_refl _)]
      have HC := Lib.hid hc
      clear hc
      rw [show encB l = encB l ++ ones 0 by simp [ones]]
      go_wp2
      go_loopw [4] (fun o wr => ∃ j : Nat, j ≤ P ∧ o = .string (txB (encB l ++ ones j)) ∧ CodsR w bk wr) (fun o _ => Z + P - match o with | .string s => s.size | _ => 0)
      case atStart => exact ⟨0, by omega, rfl, HC.out⟩
      case round =>
        obtain ⟨j, hj, rfl, hc⟩ := hrel
        have hS : (txB (encB l ++ ones j)).size = Z + j := by rw [txB_size, List.length_append, ones, List.length_replicate, ← HZ.out]; rfl
        by_cases hj2 : j < P
        · have h8 := HP.out.2.2 j hj2
          have hn : txB (encB l ++ ones j) ++ txB [true] = txB (encB l ++ ones (j + 1)) := by rw [txB_append, List.append_assoc]; unfold ones; rw [← List.replicate_succ']
          have HNN := Lib.hid hn
          clear hn
          generalize hSg : txB (encB l ++ ones j) = T at *
          have hcat : ¬ 9223372036854775807 < T.size + 1 := by have := HP.out.1; omega
          have hm8 : ¬ (T.size : Int) % 8 = 0 := by omega
          have hm9 : ((T.size : Int) % 8 != 0) = true := by simpa using hm8
          have hsz : (T ++ ({ data := #[49] } : ByteArray)).size = T.size + 1 := by rw [ByteArray.size_append]; rfl
          go_wp2
          exact ⟨⟨j + 1, by omega, by rw [← HNN.out]; rfl, hc⟩, by show Z + P - (T ++ ({ data := #[49] } : ByteArray)).size < Z + P - T.size; omega⟩
        · obtain rfl : j = P := by omega
          have h8 := HP.out.2.1
          generalize hSg : txB (encB l ++ ones j) = T at *
          have hm8 : (T.size : Int) % 8 = 0 := by omega
          have hm9 : ((T.size : Int) % 8 != 0) = false := by simpa using hm8
          go_wp2
          exact bodyPost_ret (v := .string T) (by simp [results, Try.f67, go_sem]) rfl (HFIN.out _ _ rfl hc)
end Go.Proofs.Ytdoddpigiencjaa

