/-
  Texts laid together: Huf5 Huf6 Huf7 Huf8.
-/
import Derived.Test.YtginhebfjbhmnaaGreatG20
import Derived.Laws.BitsAllLaws
/-
  Package huff: sync.Once's Do; ready.
-/
namespace Go.Proofs.YtginhebfjbhmnaaGreat
set_option maxRecDepth 100000
set_option linter.unusedVariables false
set_option linter.unusedSimpArgs false
open Go.RowKit
set_option maxRecDepth 100000 in
set_option maxHeartbeats 1600000 in
theorem slow_any (p pl : Nat) (w : World) (hpl : w.cell? ⟨pl, 0, none⟩ = some (.pointer (some ⟨p, 0, none⟩))) (hne : pl ≠ p) (h : CodAt w p (hdC 0 0 0) Cod.zero) :
    Calls Tryz.prog 109 #[.pointer (some ⟨p, 0, none⟩), .func (.func 105) #[] #[.pointer (some ⟨pl, 0, none⟩)]] w (MadeP p 1 0 w) := by
  have h1 := h.set1 (l' := 1)
  have HO1 : Hid (Only (· = p) w (w.setCell ⟨p, 1, none⟩ (.int .i32 1))) := Lib.hid (Only.setCell w ⟨p, 1, none⟩ _)
  have HPL1 : (w.setCell ⟨p, 1, none⟩ (.int .i32 1)).cell? ⟨pl, 0, none⟩ = some (.pointer (some ⟨p, 0, none⟩)) := (HO1.out.cell (cell_lt hpl) hne).trans hpl
  have HC := Lib.hid (ready_one p pl 0 1 _ HPL1 hne h1)
  have hl := run_call_load (P := Tryz.prog) Tryz.func111 (by kernel_rfl) (by kernel_rfl) (by kernel_rfl) .u32 (by kernel_rfl) (a := ⟨p, 0, none⟩) (x := 0) h1.h0.1
  have hnot : ∀ (x : Bool) (w : World), (Op.unary .not (.bool x)).run Tryz.prog w = .ok (.bool (!x)) w := fun _ _ => rfl
  have HLK := Lib.hid (lock_free ⟨p, 1, none⟩ w h.h0.2.1 (h.frozen 1))
  clear h HPL1 h1 hpl
  go_enter_defers Tryz.func109, Tryz.ntmps109
  go_wp2_with fail
  with_reducible refine HLK.out.mono ?_
  rintro e w' ⟨rfl, rfl⟩
  go_wp2_with (first | (go_at_call 108; go_in))
  with_reducible refine HC.out.mono ?_
  rintro e w2 ⟨rfl, hc2, ho2⟩
  have HX := Lib.hid (And.intro hc2 ho2)
  clear hc2 ho2
  go_wp2_with fail
  refine leaves_cons (f := 114) (args := #[.pointer (some ⟨p, 0, none⟩), .bool true]) (by simp) (by simp [go_sem]) ?_
  refine (store_deferred ⟨p, 0, none⟩ (.int .u32 0) .returning _ HX.out.1.h0.1 (HX.out.1.frozen 0)).mono ?_
  rintro e u' w'' ⟨rfl, rfl, rfl⟩
  have HY : Hid (CodAt (w2.drew.setCell ⟨p, 0, none⟩ (.int .u32 1)) p (hdC 1 1 1) Cod.made ∧ Only (· = p) w (w2.drew.setCell ⟨p, 0, none⟩ (.int .u32 1))) := Lib.hid ⟨(HX.out.1.fresh (Fresh.drew _)).set0, ((HO1.out.trans HX.out.2).drewS).step _ _ (.inl rfl)⟩
  refine leaves_cons (f := 113) (args := #[.pointer (some ⟨p, 1, none⟩)]) (by simp [settle]) (by simp [go_sem]) ?_
  refine (unlock_deferred ⟨p, 1, none⟩ _ _ HY.out.1.h0.2.1 (HY.out.1.frozen 1)).mono ?_
  rintro e u' w'' ⟨rfl, rfl, rfl⟩
  have HFIN : MadeP p 1 0 w (.returned (.tuple #[])) ((w2.drew.setCell ⟨p, 0, none⟩ (.int .u32 1)).setCell ⟨p, 1, none⟩ (.int .i32 0)) := ⟨rfl, HY.out.1.set1, HY.out.2.step _ _ (.inl rfl)⟩
  simp [Leaves, settle, results, Tryz.results109]
  exact HFIN
set_option maxRecDepth 100000 in
set_option maxHeartbeats 1600000 in
theorem do_first (p pl : Nat) (w : World) (hpl : w.cell? ⟨pl, 0, none⟩ = some (.pointer (some ⟨p, 0, none⟩))) (hne : pl ≠ p) (h : CodAt w p (hdC 0 0 0) Cod.zero) :
    Calls Tryz.prog 104 #[.pointer (some ⟨p, 0, none⟩), .func (.func 105) #[] #[.pointer (some ⟨pl, 0, none⟩)]] w (MadeP p 1 0 w) := by
  have HS := Lib.hid (slow_any p pl w hpl hne h)
  have hl := run_call_load (P := Tryz.prog) Tryz.func111 (by kernel_rfl) (by kernel_rfl) (by kernel_rfl) .u32 (by kernel_rfl) (a := ⟨p, 0, none⟩) (x := 0) h.h0.1
  have hnot : ∀ (x : Bool) (w : World), (Op.unary .not (.bool x)).run Tryz.prog w = .ok (.bool (!x)) w := fun _ _ => rfl
  clear h hpl
  go_enter Tryz.func104, Tryz.ntmps104
  go_wp2_with (first | (go_at_call 108; go_in))
  with_reducible refine HS.out.mono ?_
  rintro e w2 ⟨rfl, hc2, ho2⟩
  have HX := Lib.hid (And.intro hc2 ho2)
  clear hc2 ho2
  go_wp2
  go_end0
  exact ⟨rfl, HX.out.1, HX.out.2⟩
set_option maxRecDepth 100000 in
set_option maxHeartbeats 1600000 in
theorem do_done (p : Nat) (fv : Value) (w : World) (h : CodAt w p (hdC 1 0 1) Cod.made) :
    Calls Tryz.prog 104 #[.pointer (some ⟨p, 0, none⟩), fv] w (MadeP p 1 0 w) := by
  have H := Lib.hid h
  have hl := run_call_load (P := Tryz.prog) Tryz.func111 (by kernel_rfl) (by kernel_rfl) (by kernel_rfl) .u32 (by kernel_rfl) (a := ⟨p, 0, none⟩) (x := 1) h.h0.1
  have hnot : ∀ (x : Bool) (w : World), (Op.unary .not (.bool x)).run Tryz.prog w = .ok (.bool (!x)) w := fun _ _ => rfl
  clear h
  go_enter Tryz.func104, Tryz.ntmps104
  go_wp2
  go_end0
  exact ⟨rfl, H.out, Only.refl _ _⟩
/-- A coder: its codes aren't made yet, or are. -/
def CoderAt (w : World) (p : Nat) (r : Bool) : Prop := if r then CodAt w p (hdC 1 0 1) Cod.made else CodAt w p (hdC 0 0 0) Cod.zero
theorem CoderAt.fresh {w w' : World} {p : Nat} {r : Bool} (h : CoderAt w p r) (hf : Fresh w w') : CoderAt w' p r := by
  cases r with
  | true => exact CodAt.fresh h hf
  | false => exact CodAt.fresh h hf
theorem CoderAt.lt {w : World} {p : Nat} {r : Bool} (h : CoderAt w p r) : p < w.heap.size := by
  cases r with
  | true => exact (show CodAt w p (hdC 1 0 1) Cod.made from h).2.lt
  | false => exact (show CodAt w p (hdC 0 0 0) Cod.zero from h).2.lt
def RdyP (p : Nat) (w : World) (e : Ending) (w' : World) : Prop := e = .returned (.pointer (some ⟨p, 4, none⟩)) ∧ CodAt w' p (hdC 1 0 1) Cod.made ∧ Only (· = p) w w'
set_option maxRecDepth 100000 in
set_option maxHeartbeats 1600000 in
theorem hf_ready (p : Nat) (r : Bool) (w : World) (h : CoderAt w p r) : Calls Tryz.prog 101 #[.pointer (some ⟨p, 0, none⟩)] w (RdyP p w) := by
  have HD : Hid (∀ W (pl : Nat), Fresh w W → W.cell? ⟨pl, 0, none⟩ = some (.pointer (some ⟨p, 0, none⟩)) → pl ≠ p → Calls Tryz.prog 104 #[.pointer (some ⟨p, 0, none⟩), .func (.func 105) #[] #[.pointer (some ⟨pl, 0, none⟩)]] W (MadeP p 1 0 W)) := Lib.hid (fun W pl hw hpl hne => by
    cases r with
    | true => exact do_done p _ W (CodAt.fresh h hw)
    | false => exact do_first p pl W hpl hne (CodAt.fresh h hw))
  have hlt := h.lt
  have hmf : ∀ (fn : Fn) (first cap : Array Value) (w : World), (Instr.makeFunc fn first cap).run Tryz.prog w = .ok (.func fn first cap) w := fun _ _ _ _ => rfl
  clear h
  go_enter Tryz.func101, Tryz.ntmps101
  go_upto_region 1 with fail
  obtain ⟨b, hb⟩ : ∃ b, w.heap.size = b := ⟨_, rfl⟩
  rw [hb]
  refine wp_gen (fun W => Fresh w W ∧ W.cell? ⟨b, 0, none⟩ = some (.pointer (some ⟨p, 0, none⟩)) ∧ b < W.heap.size) ⟨Fresh.alloc _ _, by rw [← hb]; exact (Blk.new w _ _).cell 0, by simp [hb]⟩ ?_
  rintro W ⟨hf, hc, hbl⟩
  have HN : Hid (b ≠ p) := Lib.hid (by omega)
  have HF := Lib.hid hf
  have HC := Lib.hid hc
  clear hf hb
  go_wp2_with fail
  with_reducible refine (HD.out W b HF.out HC.out HN.out).mono ?_
  rintro e w2 ⟨rfl, hc2, ho2⟩
  have HX := Lib.hid (And.intro hc2 ho2)
  have hc' : w2.cell? ⟨b, 0, none⟩ = some (.pointer (some ⟨p, 0, none⟩)) := (ho2.cell (p := ⟨b, 0, none⟩) hbl HN.out).trans HC.out
  clear hc2 ho2 hc
  go_wp2
  go_ret
  exact ⟨rfl, HX.out.1, (Only.of_fresh HF.out).trans HX.out.2⟩
end Go.Proofs.YtginhebfjbhmnaaGreat

/-
  Package huff: Code.
-/
namespace Go.Proofs.YtginhebfjbhmnaaGreat
set_option maxRecDepth 100000
set_option linter.unusedVariables false
set_option linter.unusedSimpArgs false
open Go.RowKit
attribute [local go_sem high] fold_lnA run_index_lnA
theorem u8_infoH : (Tryz.prog.info? 5).map (fun i => (i.zero, i.size, i.bytes)) = some (some (.int .u8 0), 1, 1) := by kernel_rfl
end Go.Proofs.YtginhebfjbhmnaaGreat

/-
  Package huff: Encode.
-/
namespace Go.Proofs.YtginhebfjbhmnaaGreat
set_option maxRecDepth 100000
set_option linter.unusedVariables false
set_option linter.unusedSimpArgs false
open Go.RowKit
attribute [local go_sem high] fold_lnA run_index_lnA
/-- So far k bytes' codes are told, but for the last W bits. -/
def EncR (w : World) (p : Nat) (l : List UInt8) (k most : Nat) (out bits waiting : Value) (wr : World) : Prop :=
  ∃ (O : List UInt8) (V W : Nat), bits = .int .u64 (V : Int) ∧ V < 2 ^ 64 ∧ waiting = .int .i64 (W : Int) ∧ W < most ∧ Own wr w.heap.size 5 1 out O.length (O.map byteV) ∧ bitsL O ++ bitsOf V W = encB (l.take k) ∧ Fresh w wr
theorem EncR.fresh {w : World} {p : Nat} {l : List UInt8} {k most : Nat} {out bits waiting : Value} {wr wr' : World} (h : EncR w p l k most out bits waiting wr) (hf : Fresh wr wr') : EncR w p l k most out bits waiting wr' := by
  obtain ⟨O, V, W, a, b, c, d, e, f, g⟩ := h
  exact ⟨O, V, W, a, b, c, d, e.fresh hf, f, g.trans hf⟩
theorem or_shift (V W y nu : Nat) (hy : y ≤ 30) (hW : W < 8) (hn : nu < 2 ^ y) :
    ∃ V2 : Nat, bits .or .u64 (IntKind.u64.wrap ((V : Int) * 2 ^ y)) (IntKind.u64.wrap (nu : Int)) = (V2 : Int) ∧ V2 < 2 ^ 64 ∧ bitsOf V2 (W + y) = bitsOf V W ++ bitsOf nu y := by
  have hn64 : nu < 2 ^ 64 := Nat.lt_of_lt_of_le hn (Nat.pow_le_pow_right (by omega) (by omega))
  have ha : V * 2 ^ y % 2 ^ 64 < 2 ^ 64 := Nat.mod_lt _ (by decide)
  refine ⟨(V * 2 ^ y % 2 ^ 64) ||| nu, ?_, Nat.or_lt_two_pow ha hn64, ?_⟩
  · have e1 : IntKind.u64.wrap ((V : Int) * 2 ^ y) = ((V * 2 ^ y % 2 ^ 64 : Nat) : Int) := by
      rw [IntKind.wrap_u64]
      simp
    have e2 : IntKind.u64.wrap (nu : Int) = (nu : Int) := by
      rw [IntKind.wrap_u64]
      have : (2 : Nat) ^ 64 = 18446744073709551616 := by decide
      omega
    rw [e1, e2, bits_or_u64_nat _ _ ha hn64]
  · apply List.ext_getElem
    · simp [bitsOf_length]
    · intro i h1 h2
      rw [bitsOf_length] at h1
      rw [bitsOf_get, Nat.testBit_or, Nat.testBit_mod_two_pow, Nat.testBit_mul_two_pow]
      by_cases h : i < W
      · rw [List.getElem_append_left (by rw [bitsOf_length]; exact h), bitsOf_get]
        have hj : y ≤ W + y - 1 - i := by omega
        have h64 : W + y - 1 - i < 64 := by omega
        have hnu : nu.testBit (W + y - 1 - i) = false := Nat.testBit_lt_two_pow (Nat.lt_of_lt_of_le hn (Nat.pow_le_pow_right (by omega) hj))
        rw [hnu, show W + y - 1 - i - y = W - 1 - i by omega]
        simp [hj, h64]
      · rw [List.getElem_append_right (by rw [bitsOf_length]; omega), bitsOf_get, bitsOf_length]
        have hj : ¬ y ≤ W + y - 1 - i := by omega
        rw [show W + y - 1 - i = y - 1 - (i - W) by omega] at hj ⊢
        simp [hj]
theorem or_ones (V W q : Nat) (hq : W + q = 8) : ∃ c9 : UInt8, bits .or .u8 (IntKind.u8.wrap (IntKind.u64.wrap ((V : Int) * 2 ^ q))) (IntKind.u8.wrap (IntKind.u8.wrap (2 ^ q) - 1)) = (c9.toNat : Int) ∧ bb c9 = bitsOf V W ++ ones q ∨ q = 8 := by
  by_cases h8 : q = 8
  · exact ⟨0, .inr h8⟩
  have hq7 : q ≤ 7 := by omega
  have hp : 2 ^ q ≤ 2 ^ 7 := Nat.pow_le_pow_right (by omega) hq7
  have hp0 : 0 < 2 ^ q := Nat.pow_pos (by omega)
  have ha : V * 2 ^ q % 2 ^ 8 < 2 ^ 8 := Nat.mod_lt _ (by decide)
  have e1 : IntKind.u8.wrap (IntKind.u64.wrap ((V : Int) * 2 ^ q)) = ((V * 2 ^ q % 2 ^ 8 : Nat) : Int) := by
    rw [IntKind.wrap_u64, IntKind.wrap_u8]
    have : ((V : Int) * 2 ^ q) = ((V * 2 ^ q : Nat) : Int) := by simp
    rw [this]
    omega
  have e2 : IntKind.u8.wrap (IntKind.u8.wrap (2 ^ q) - 1) = ((2 ^ q - 1 : Nat) : Int) := by
    have : ((2 : Int) ^ q) = ((2 ^ q : Nat) : Int) := by simp
    rw [this, IntKind.wrap_u8, IntKind.wrap_u8]
    omega
  have hlt : V * 2 ^ q % 2 ^ 8 ||| (2 ^ q - 1) < 2 ^ 8 := Nat.or_lt_two_pow ha (by omega)
  refine ⟨UInt8.ofNat (V * 2 ^ q % 2 ^ 8 ||| (2 ^ q - 1)), .inl ⟨?_, ?_⟩⟩
  · rw [e1, e2, u8_or_nat _ _ (by omega) (by omega)]
    have : (UInt8.ofNat (V * 2 ^ q % 2 ^ 8 ||| (2 ^ q - 1))).toNat = (V * 2 ^ q % 2 ^ 8 ||| (2 ^ q - 1)) := by
      rw [UInt8.toNat_ofNat']
      exact Nat.mod_eq_of_lt hlt
    rw [this]
  · unfold bb
    rw [show (UInt8.ofNat (V * 2 ^ q % 2 ^ 8 ||| (2 ^ q - 1))).toNat = (V * 2 ^ q % 2 ^ 8 ||| (2 ^ q - 1)) by
      rw [UInt8.toNat_ofNat']
      exact Nat.mod_eq_of_lt hlt]
    apply List.ext_getElem
    · simp [bitsOf_length, ones]; omega
    · intro i h1 h2
      rw [bitsOf_length] at h1
      rw [bitsOf_get, Nat.testBit_or, Nat.testBit_mod_two_pow, Nat.testBit_mul_two_pow, Nat.testBit_two_pow_sub_one]
      by_cases h : i < W
      · rw [List.getElem_append_left (by rw [bitsOf_length]; exact h), bitsOf_get]
        have hj : q ≤ 8 - 1 - i := by omega
        have hj2 : ¬ 8 - 1 - i < q := by omega
        have hj3 : 8 - 1 - i < 8 := by omega
        rw [show 8 - 1 - i - q = W - 1 - i by omega]
        simp [hj, hj2, hj3]
      · rw [List.getElem_append_right (by rw [bitsOf_length]; omega)]
        have hj : ¬ q ≤ 8 - 1 - i := by omega
        have hj2 : 8 - 1 - i < q := by omega
        simp [hj, hj2, ones]
theorem emit (V w' : Nat) : bb (UInt8.ofNat (V / 2 ^ w')) ++ bitsOf V w' = bitsOf V (8 + w') := by
  unfold bb
  rw [bitsOf_append, show (UInt8.ofNat (V / 2 ^ w')).toNat = V / 2 ^ w' % 2 ^ 8 by simp, bitsOf_mod _ 8 8 (Nat.le_refl _)]
/-- The text of bytes, told in new memory. -/
def EncP (p : Nat) (l : List UInt8) (w : World) (e : Ending) (w' : World) : Prop :=
  ∃ (O : List UInt8) (A : Option Addr) (c : Nat), e = .returned (.slice A O.length c) ∧ IsEnc l O ∧ ∃ base, w.heap.size ≤ base ∧ Own w' base 5 1 (.slice A O.length c) O.length (O.map byteV) ∧ CodAt w' p (hdC 1 0 1) Cod.made ∧ Only (· = p) w w'
end Go.Proofs.YtginhebfjbhmnaaGreat

/-
  Package huff: next.
-/
namespace Go.Proofs.YtginhebfjbhmnaaGreat
set_option maxRecDepth 100000
set_option linter.unusedVariables false
set_option linter.unusedSimpArgs false
open Go.RowKit
theorem bitsL_get (l : List UInt8) (pos : Nat) (h : pos / 8 < l.length) : (bitsL l)[pos]? = some ((l[pos / 8]).toNat.testBit (7 - pos % 8)) := by
  induction l generalizing pos with
  | nil => simp at h
  | cons c r ih =>
    rw [bitsL_cons]
    by_cases h8 : pos < 8
    · have e0 : pos / 8 = 0 := by omega
      rw [List.getElem?_append_left (by rw [bb_length]; exact h8), List.getElem?_eq_getElem (by rw [bb_length]; exact h8)]
      unfold bb
      rw [bitsOf_get]
      simp only [e0, List.getElem_cons_zero]
      congr 2
      omega
    · have e1 : pos / 8 = (pos - 8) / 8 + 1 := by omega
      rw [List.getElem?_append_right (by rw [bb_length]; omega), bb_length, ih (pos - 8) (by simp at h; omega)]
      simp only [e1, List.getElem_cons_succ]
      congr 2
      omega
/-- No symbol of at most m bits stands there. -/
def NoSym (D : List Bool) (m : Nat) : Prop := ∀ s, s < 257 → ln s ≤ m → ¬ codeB s <+: D
theorem NoSym.none {D : List Bool} {m : Nat} (h : NoSym D m) (hm : 30 ≤ m ∨ D.length ≤ m) : nextS D = none := by
  rw [nextS_none]
  intro s hs hp
  refine h s hs ?_ hp
  rcases hm with hm | hm
  · have := (ln_ok hs).2.1; omega
  · have := hp.length_le
    rw [codeB_length] at this
    omega
/-- The code's number after one more bit. -/
theorem sym_iff {D : List Bool} {C m : Nat} (hC : C < 2 ^ m) (hm : m ≤ 30) (hb : bitsOf C m = D.take m) (hl : m ≤ D.length) :
    (∀ i, fstF m + i = C → i < cntF m → nextS D = some (ordF (plcF m + i)) ∧ ln (ordF (plcF m + i)) = m) ∧ ((C < fstF m ∨ cntF m ≤ C - fstF m) → ∀ s, s < 257 → ln s = m → ¬ codeB s <+: D) := by
  refine ⟨fun i he hi => ?_, fun hno s hs hls hp => ?_⟩
  · obtain ⟨h1, h2⟩ := placeP (n := m) (by omega) hi
    have hlt : plcF m + i < 257 := by have := (tab1 (n := m) (by omega)).2.2.2.1; omega
    refine ⟨nextS_some.2 ⟨(ordP hlt).1, ?_⟩, h1⟩
    unfold codeB
    rw [h1, h2, he, hb]
    exact List.take_prefix _ _
  · have he : codeB s = D.take m := by
      have := List.prefix_iff_eq_take.1 hp
      rwa [codeB_length, hls] at this
    rw [← hb] at he
    unfold codeB at he
    rw [hls] at he
    have hsy := sym hs
    rw [hls] at hsy
    have := bitsOf_inj (by exact hsy.2.2.2.2.1) hC he
    have h5 := hsy.1
    have h6 := hsy.2.2.2.2.2
    omega
theorem next_bit (C x y m : Nat) (hC : C < 2 ^ m) (hm : m ≤ 29) (hx : x < 256) (hy : y ≤ 7) :
    ∃ C2 : Nat, bits .or .u32 ((C : Int) * 2 % 4294967296) (bits .and .u8 ((x : Int) / 2 ^ y) 1 % 4294967296) = (C2 : Int) ∧ C2 < 2 ^ (m + 1) ∧ bitsOf C2 (m + 1) = bitsOf C m ++ [x.testBit y] := by
  have hp : 2 ^ m ≤ 2 ^ 29 := Nat.pow_le_pow_right (by omega) hm
  have hd : x / 2 ^ y < 256 := Nat.lt_of_le_of_lt (Nat.div_le_self _ _) hx
  have e1 : bits .and .u8 ((x : Int) / 2 ^ y) 1 = ((x / 2 ^ y % 2 : Nat) : Int) := by
    have : ((x : Int) / 2 ^ y) = ((x / 2 ^ y : Nat) : Int) := by simp
    rw [this, show (1 : Int) = ((1 : Nat) : Int) from rfl, u8_and_nat _ _ hd (by omega), Nat.and_one_is_mod]
  have e2 : (((x / 2 ^ y % 2 : Nat) : Int)) % 4294967296 = ((x / 2 ^ y % 2 : Nat) : Int) := by omega
  have e3 : (C : Int) * 2 % 4294967296 = ((C * 2 : Nat) : Int) := by omega
  have hor : C * 2 ||| x / 2 ^ y % 2 = C * 2 + x / 2 ^ y % 2 := by
    have := Nat.two_pow_add_eq_or_of_lt (i := 1) (b := x / 2 ^ y % 2) (by omega) C
    rw [Nat.pow_one, Nat.mul_comm] at this
    exact this.symm
  refine ⟨C * 2 + x / 2 ^ y % 2, ?_, by rw [Nat.pow_succ]; omega, ?_⟩
  · rw [e1, e2, e3, u32_or_nat _ _ (by omega) (by omega), hor]
  · have := bitsOf_cat C (x / 2 ^ y % 2) m 1 (by omega)
    rw [Nat.pow_one] at this
    rw [this]
    congr 1
    simp [bitsOf, Nat.testBit_eq_decide_div_mod_eq]
def NextP (D : List Bool) (w : World) (e : Ending) (w' : World) : Prop :=
  e = (match nextS D with | some s => .returned (.tuple #[.int .i64 (s : Int), .int .i64 (ln s : Int), .bool true]) | none => .returned (.tuple #[.int .i64 0, .int .i64 0, .bool false])) ∧ Fresh w w'
set_option maxRecDepth 100000 in
set_option maxHeartbeats 3200000 in
theorem hf_next (p : Nat) (hd : List Value) (A : Option Addr) (c at0 : Nat) (l : List UInt8) (w : World) (h : CodAt w p hd Cod.made) (hB : BS w A l) (hl : l.length ≤ 100000000) (hat : at0 ≤ 8 * l.length) :
    Calls Tryz.prog 102 #[.pointer (some ⟨p, 4, none⟩), .slice A l.length c, .int .i64 (at0 : Int)] w (NextP ((bitsL l).drop at0) w) := by
  obtain ⟨D, hD⟩ : ∃ D, (bitsL l).drop at0 = D := ⟨_, rfl⟩
  have HDL : Hid (D.length + at0 = 8 * l.length) := Lib.hid (by rw [← hD, List.length_drop, bitsL_length]; omega)
  have HDG : Hid (∀ m, (hm : (at0 + m) / 8 < l.length) → D[m]? = some ((l[(at0 + m) / 8]).toNat.testBit (7 - (at0 + m) % 8))) := Lib.hid (fun m hm => by
    rw [← hD, List.getElem?_drop, bitsL_get _ _ hm])
  rw [hD]
  have H := Lib.hid hB
  have HC := Lib.hid h
  obtain ⟨n, hn⟩ : ∃ n, l.length = n := ⟨_, rfl⟩
  have HN := Lib.hid hn
  rw [hn] at hl hat ⊢
  have HDL2 : Hid (D.length + at0 = 8 * n) := Lib.hid (by have := HDL.out; omega)
  clear h hB hn hD HDL
  go_enter Tryz.func102, Tryz.ntmps102
  go_wp2
  go_loop [2, 9, 10] (fun a c n' => ∃ m C : Nat, m ≤ 30 ∧ at0 + m ≤ 8 * n ∧ a = .int .i64 ((at0 + m : Nat) : Int) ∧ c = .int .u32 (C : Int) ∧ n' = .int .i64 ((m : Int) + 1) ∧ C < 2 ^ m ∧ bitsOf C m = D.take m ∧ NoSym D m) (fun _ _ n' => 31 - (intOf n').toNat)
  case atStart => exact ⟨0, 0, by omega, by omega, rfl, rfl, rfl, by simp, by simp [bitsOf], fun s hs hl => by have := (ln_ok hs).1; omega⟩
  case round =>
    obtain ⟨m, C, hm, ham, rfl, rfl, rfl, hC, hb, hns⟩ := hrel
    by_cases hend : 30 ≤ m ∨ 8 * n ≤ at0 + m
    · have HFIN : Hid (NextP D w (.returned (.tuple #[.int .i64 0, .int .i64 0, .bool false])) w) := Lib.hid ⟨by rw [hns.none (by have := HDL2.out; omega)], Fresh.refl _⟩
      clear hb hns hC
      have e0 : IntKind.i64.wrap (8 * (n : Int)) = 8 * (n : Int) := IntWalk.i64_in _ (by omega)
      by_cases h30 : 30 ≤ m
      · have h1 : ¬ (m : Int) + 1 ≤ 30 := by omega
        go_wp2
        go_ret3
        exact HFIN.out
      · have h1 : (m : Int) + 1 ≤ 30 := by omega
        have h2 : ¬ ((at0 + m : Nat) : Int) < 8 * (n : Int) := by omega
        go_wp2
        go_ret3
        exact HFIN.out
    · have h1 : (m : Int) + 1 ≤ 30 := by omega
      have h2 : ((at0 + m : Nat) : Int) < 8 * (n : Int) := by omega
      obtain ⟨pos, hpos⟩ : ∃ pos, at0 + m = pos := ⟨_, rfl⟩
      have HPOS := Lib.hid hpos
      rw [hpos] at h2 ham ⊢
      have hdv : pos / 8 < l.length := by rw [HN.out]; omega
      have hdg := HDG.out m (by rw [hpos]; exact hdv)
      simp only [hpos] at hdg
      have e0 : IntKind.i64.wrap (8 * (n : Int)) = 8 * (n : Int) := IntWalk.i64_in _ (by omega)
      obtain ⟨b, o, rfl, hbl, hc⟩ := H.out (by omega)
      have hck := hc (pos / 8) hdv
      have hx := UInt8.toNat_lt l[pos / 8]
      unfold byteV at hck
      generalize l[pos / 8] = x at *
      obtain ⟨C2, hC2, hC3, hC4⟩ := next_bit C x.toNat (7 - pos % 8) m hC (by omega) hx (by omega)
      have HTK : Hid (bitsOf C2 (m + 1) = D.take (m + 1)) := Lib.hid (by
        rw [hC4, hb, List.take_add_one, hdg]
        rfl)
      have e1 : ((7 : Int) - ((pos : Int) % 8)).toNat = 7 - pos % 8 := by omega
      have i1 : (0 : Int) ≤ 7 - ((pos : Int) % 8) := by omega
      have i2 : (0 : Int) ≤ (pos : Int) := by omega
      have i3 : (pos : Int) / 8 < (n : Int) := by omega
      have i4 : ((pos : Int) / 8).toNat = pos / 8 := by omega
      have HNS := Lib.hid hns
      clear hc hb hC4 hns hdg
      obtain ⟨s1, s2⟩ := sym_iff (D := D) hC3 (by omega) HTK.out (by have := HDL2.out; omega)
      have S1 := Lib.hid s1
      have S2 := Lib.hid s2
      have HTAB := Lib.hid (tab1 (n := m + 1) (by omega))
      have y1 : w.cell? ⟨p, 518 + (m + 1), none⟩ = some (.int .u32 (fstF (m + 1) : Int)) := (HC.out.cellL _).trans (Cod.get_fst HC.out.1 (by omega))
      have y2 : w.cell? ⟨p, 580 + (m + 1), none⟩ = some (.int .i64 (cntF (m + 1) : Int)) := (HC.out.cellL _).trans (Cod.get_cnt HC.out.1 (by omega))
      have y3 : w.cell? ⟨p, 549 + (m + 1), none⟩ = some (.int .i64 (plcF (m + 1) : Int)) := (HC.out.cellL _).trans (Cod.get_plc HC.out.1 (by omega))
      have HMATCH : Hid (fstF (m + 1) ≤ C2 ∧ C2 - fstF (m + 1) < cntF (m + 1) → w.cell? ⟨p, 261 + (plcF (m + 1) + (C2 - fstF (m + 1))), none⟩ = some (.int .i64 (ordF (plcF (m + 1) + (C2 - fstF (m + 1))) : Int)) ∧ ∀ w', Fresh w w' → NextP D w (.returned (.tuple #[.int .i64 (ordF (plcF (m + 1) + (C2 - fstF (m + 1))) : Int), .int .i64 ((m : Int) + 1), .bool true])) w') := Lib.hid (fun ⟨h1, h2⟩ => by
        obtain ⟨k1, k2⟩ := S1.out (C2 - fstF (m + 1)) (by omega) h2
        refine ⟨(HC.out.cellL _).trans (Cod.get_ord HC.out.1 (by have := HTAB.out.2.2.2.1; omega)), fun w' hw => ⟨?_, hw⟩⟩
        rw [k1]
        simp only [k2]
        rfl)
      have HNO : Hid ((C2 < fstF (m + 1) ∨ cntF (m + 1) ≤ C2 - fstF (m + 1)) → NoSym D (m + 1)) := Lib.hid (fun h s hs hl => by
        by_cases e : ln s = m + 1
        · exact S2.out h s hs e
        · exact HNS.out s hs (by omega))
      have hf32 := HTAB.out.2.2.1
      have hc257 := HTAB.out.2.1
      have hp257 := HTAB.out.2.2.2.1
      have hC32 : C2 < 4294967296 := Nat.lt_of_lt_of_le hC3 (Nat.le_trans (Nat.pow_le_pow_right (by omega) (show m + 1 ≤ 30 by omega)) (by decide))
      have j1 : (m : Int) + 1 < 31 := by omega
      have j2 : (0 : Int) ≤ (m : Int) + 1 := by omega
      have j3 : ((m : Int) + 1).toNat = m + 1 := by omega
      obtain ⟨f, hf⟩ : ∃ f, fstF (m + 1) = f := ⟨_, rfl⟩
      obtain ⟨g, hg⟩ : ∃ g, cntF (m + 1) = g := ⟨_, rfl⟩
      obtain ⟨P, hP⟩ : ∃ P, plcF (m + 1) = P := ⟨_, rfl⟩
      rw [hf] at y1 HMATCH HNO hf32
      rw [hg] at y2 HMATCH HNO hc257 hp257
      rw [hP] at y3 HMATCH hp257
      have e5 : IntKind.i64.wrap ((C2 : Int) - (f : Int)) = (C2 : Int) - (f : Int) := IntWalk.i64_in _ (by omega)
      clear s1 s2 hf hg hP
      by_cases hm1 : f ≤ C2 ∧ C2 - f < g
      · obtain ⟨I, hI⟩ : ∃ I, f + I = C2 := ⟨C2 - f, by omega⟩
        obtain ⟨HM1, HM2⟩ := HMATCH.out hm1
        have e6 : C2 - f = I := by omega
        rw [e6] at HM1 HM2
        have e7 : (C2 : Int) - (f : Int) = (I : Int) := by omega
        have k1 : (0 : Int) ≤ (I : Int) := by omega
        have k2 : (I : Int) < (g : Int) := by omega
        have k3 : (P : Int) + (I : Int) < 257 := by omega
        have k4 : (0 : Int) ≤ (P : Int) + (I : Int) := by omega
        have k5 : ((P : Int) + (I : Int)).toNat = P + I := by omega
        have k6 : IntKind.i64.wrap ((P : Int) + (I : Int)) = (P : Int) + (I : Int) := IntWalk.i64_in _ (by omega)
        have HM2 := Lib.hid HM2
        generalize ordF (P + I) = sy at *
        clear hm1 hI e6 e5
        go_upto_region 9 with fail
        go_quiet (fail)
        clear y1 y2 y3 HM1 k6 e7
        go_wp2
        go_ret3
        exact HM2.out _ (Fresh.drewN _ _)
      · have HREL := Lib.hid (HNO.out (by omega))
        by_cases hlt : C2 < f
        · have k1 : ¬ (f : Int) ≤ (C2 : Int) := by omega
          have k2 : ¬ (0 : Int) ≤ (C2 : Int) - (f : Int) := by omega
          clear hm1
          go_wp2
          go_round
          case rel => exact ⟨m + 1, C2, by omega, by have := HPOS.out; omega, by have := HPOS.out; rw [show ((at0 + (m + 1) : Nat) : Int) = (pos : Int) + 1 by omega], rfl, by go_num, hC3, HTK.out, HREL.out⟩
          case measure => simp [intOf]; omega
        · obtain ⟨I, hI⟩ : ∃ I, f + I = C2 := ⟨C2 - f, by omega⟩
          have e7 : (C2 : Int) - (f : Int) = (I : Int) := by omega
          have k1 : (0 : Int) ≤ (I : Int) := by omega
          have k2 : ¬ (I : Int) < (g : Int) := by omega
          have k3 : decide (I < g) = false := by simp; omega
          clear hm1 hI hlt e5
          go_wp2
          go_round
          case rel => exact ⟨m + 1, C2, by omega, by have := HPOS.out; omega, by have := HPOS.out; rw [show ((at0 + (m + 1) : Nat) : Int) = (pos : Int) + 1 by omega], rfl, by go_num, hC3, HTK.out, HREL.out⟩
          case measure => simp [intOf]; omega
end Go.Proofs.YtginhebfjbhmnaaGreat

