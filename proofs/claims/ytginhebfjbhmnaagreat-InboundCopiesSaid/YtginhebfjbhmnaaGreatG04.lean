/-
  Texts laid together: Pay Pay2.
-/
import Derived.Test.YtginhebfjbhmnaaGreatG02
import Derived.Test.YtginhebfjbhmnaaGreatG03
import Derived.Handy
import Derived.IntWalk
/-
  Contracts of package payload: what a frame is like.
-/
namespace Go.Proofs.YtginhebfjbhmnaaGreat
set_option maxRecDepth 100000
set_option linter.unusedVariables false
open Go.RowKit

def hasB (fl k : Int) : Bool := !(bits .and .i64 fl k == 0)
theorem phas (ty fl st : Int) (v : Option Addr) (n c : Nat) (k : Int) (b : Bool) (w : World) (hk : oneP k = true) (hb : hasB fl k = b) :
    Calls Tryz.prog 38 #[.agg #[.int .i64 ty, .int .i64 fl, .int .i64 st, .slice v n c], .int .i64 k] w fun e w' => e = .returned (.bool b) ∧ Fresh w w' := by
  have := fhas ty fl st v n c k w
  rw [hk, Bool.true_and, show (!(bits .and .i64 fl k == 0)) = b from hb] at this
  exact this
def pdB (ty fl : Int) : Bool := (decide (ty = 0) || decide (ty = 1)) && hasB fl 8
def wgB (ty fl : Int) : Bool := decide (ty = 2) || (decide (ty = 1) && hasB fl 32)
theorem ppadded (ty fl st : Int) (A : Option Addr) (n c : Nat) (b : Bool) (w : World) (hb : pdB ty fl = b) :
    Calls Tryz.prog 76 #[.agg #[.int .i64 ty, .int .i64 fl, .int .i64 st, .slice A n c]] w fun e w' => e = .returned (.bool b) ∧ Fresh w w' := by
  by_cases h0 : ty = 0
  · have H := Lib.hid (fun w => phas ty fl st A n c 8 b w rfl (by rw [← hb]; simp [pdB, h0]))
    subst h0
    clear hb
    go_enter Tryz.func76, Tryz.ntmps76
    go_wp2_with fail
    with_reducible refine (H.out _).mono ?_
    rintro e w1 ⟨rfl, hf⟩
    go_wp2_with fail
    go_ret
    exact ⟨rfl, hf.tA⟩
  · by_cases h1 : ty = 1
    · have H := Lib.hid (fun w => phas ty fl st A n c 8 b w rfl (by rw [← hb]; simp [pdB, h1]))
      subst h1
      clear hb h0
      go_enter Tryz.func76, Tryz.ntmps76
      go_wp2_with fail
      with_reducible refine (H.out _).mono ?_
      rintro e w1 ⟨rfl, hf⟩
      go_wp2_with fail
      go_ret
      exact ⟨rfl, hf.tA⟩
    · have a0 : (ty == 0) = false := by simpa using h0
      have a1 : (ty == 1) = false := by simpa using h1
      have e : b = false := by rw [← hb]; simp [pdB, h0, h1]
      subst e
      clear hb h0 h1
      go_enter Tryz.func76, Tryz.ntmps76
      go_wp2_with fail
      go_ret
      exact ⟨rfl, Fresh.alloc _ _⟩
theorem pweighed (ty fl st : Int) (A : Option Addr) (n c : Nat) (b : Bool) (w : World) (hb : wgB ty fl = b) :
    Calls Tryz.prog 66 #[.agg #[.int .i64 ty, .int .i64 fl, .int .i64 st, .slice A n c]] w fun e w' => e = .returned (.bool b) ∧ Fresh w w' := by
  by_cases h0 : ty = 2
  · have e : b = true := by rw [← hb]; simp [wgB, h0]
    subst h0 e
    clear hb
    go_enter Tryz.func66, Tryz.ntmps66
    go_wp2_with fail
    go_ret
    exact ⟨rfl, Fresh.alloc _ _⟩
  · by_cases h1 : ty = 1
    · have H := Lib.hid (fun w => phas ty fl st A n c 32 b w rfl (by rw [← hb]; simp [wgB, h1]))
      subst h1
      clear hb h0
      go_enter Tryz.func66, Tryz.ntmps66
      go_wp2_with fail
      with_reducible refine (H.out _).mono ?_
      rintro e w1 ⟨rfl, hf⟩
      go_wp2_with fail
      go_ret
      exact ⟨rfl, hf.tA⟩
    · have a0 : (ty == 2) = false := by simpa using h0
      have a1 : (ty == 1) = false := by simpa using h1
      have e : b = false := by rw [← hb]; simp [wgB, h0, h1]
      subst e
      clear hb h0 h1
      go_enter Tryz.func66, Tryz.ntmps66
      go_wp2_with fail
      go_ret
      exact ⟨rfl, Fresh.alloc _ _⟩
def aheadN (ty fl : Int) : Nat := (if pdB ty fl then 1 else 0) + (if wgB ty fl && decide (ty = 1) then 5 else 0)
theorem pahead (ty fl st : Int) (A : Option Addr) (n c : Nat) (w : World) :
    Calls Tryz.prog 61 #[.agg #[.int .i64 ty, .int .i64 fl, .int .i64 st, .slice A n c]] w fun e w' => e = .returned (.int .i64 (aheadN ty fl : Int)) ∧ Fresh w w' := by
  obtain ⟨p, hp⟩ : ∃ p, pdB ty fl = p := ⟨_, rfl⟩
  obtain ⟨g, hg⟩ : ∃ g, wgB ty fl = g := ⟨_, rfl⟩
  have HP := Lib.hid (fun w => ppadded ty fl st A n c p w hp)
  have HG := Lib.hid (fun w => pweighed ty fl st A n c g w hg)
  have HE : Hid ((aheadN ty fl : Int) = (if p then 1 else 0) + (if g && decide (ty = 1) then 5 else 0)) := Lib.hid (by
    unfold aheadN; rw [hp, hg]; cases p <;> cases g <;> by_cases h : ty = 1 <;> simp [h])
  clear hp hg
  generalize (aheadN ty fl : Int) = z at *
  by_cases h1 : ty = 1
  · have a1 : (ty == 1) = true := by simpa using h1
    have HE2 : Hid (z = (if p then 1 else 0) + (if g then 5 else 0)) := Lib.hid (by rw [HE.out]; simp [h1])
    clear h1 HE
    cases p <;> cases g
    all_goals
      have hz := HE2.out
      simp at hz
      have HZ := Lib.hid hz
      clear hz
      go_enter Tryz.func61, Tryz.ntmps61
      go_wp2_with fail
      with_reducible refine (HP.out _).mono ?_
      rintro e w1 ⟨rfl, hf⟩
      have q0 := ((Blk.new w 34 #[.int .i64 ty, .int .i64 fl, .int .i64 st, .slice A n c]).fresh hf)
      obtain ⟨c0, c1, c2, c3⟩ := q0.c4
      have HF := Lib.hid hf
      have HB := Lib.hid q0
      clear hf q0
      go_wp2_with fail
      with_reducible refine (HG.out _).mono ?_
      rintro e w2 ⟨rfl, hf2⟩
      have q0 := HB.out.fresh hf2
      obtain ⟨c0, c1, c2, c3⟩ := q0.c4
      have HF2 := Lib.hid hf2
      clear hf2 q0
      go_wp2_with fail
      go_ret
      exact ⟨ret_int (by rw [HZ.out]), (HF.out.trans HF2.out).tA⟩
  · have a1 : (ty == 1) = false := by simpa using h1
    have HE2 : Hid (z = (if p then 1 else 0)) := Lib.hid (by rw [HE.out]; simp [h1])
    clear h1 HE
    cases p <;> cases g
    all_goals
      have hz := HE2.out
      simp at hz
      have HZ := Lib.hid hz
      clear hz
      go_enter Tryz.func61, Tryz.ntmps61
      go_wp2_with fail
      with_reducible refine (HP.out _).mono ?_
      rintro e w1 ⟨rfl, hf⟩
      have q0 := ((Blk.new w 34 #[.int .i64 ty, .int .i64 fl, .int .i64 st, .slice A n c]).fresh hf)
      obtain ⟨c0, c1, c2, c3⟩ := q0.c4
      have HF := Lib.hid hf
      have HB := Lib.hid q0
      clear hf q0
      go_wp2_with fail
      with_reducible refine (HG.out _).mono ?_
      rintro e w2 ⟨rfl, hf2⟩
      have q0 := HB.out.fresh hf2
      obtain ⟨c0, c1, c2, c3⟩ := q0.c4
      have HF2 := Lib.hid hf2
      clear hf2 q0
      go_wp2_with fail
      go_ret
      exact ⟨ret_int (by rw [HZ.out]), (HF.out.trans HF2.out).tA⟩
end Go.Proofs.YtginhebfjbhmnaaGreat

/-
  Contracts of package payload: padding, numbers, what is right.
-/
namespace Go.Proofs.YtginhebfjbhmnaaGreat
set_option maxRecDepth 100000
set_option linter.unusedVariables false
open Go.RowKit

def padN (ty fl : Int) (l : List UInt8) : Nat := if pdB ty fl then (l.getD 0 0).toNat else 0
theorem ppadding (ty fl st : Int) (A : Option Addr) (c : Nat) (l : List UInt8) (w : World) (hA : BS w A l) (h : pdB ty fl = true → 0 < l.length) :
    Calls Tryz.prog 63 #[.agg #[.int .i64 ty, .int .i64 fl, .int .i64 st, .slice A l.length c]] w fun e w' => e = .returned (.int .i64 (padN ty fl l : Int)) ∧ Fresh w w' := by
  cases hp : pdB ty fl with
  | false =>
    have e : padN ty fl l = 0 := by simp [padN, hp]
    rw [e]
    have HP := Lib.hid (fun w => ppadded ty fl st A l.length c false w hp)
    clear hp e h
    go_enter Tryz.func63, Tryz.ntmps63
    go_wp2_with fail
    with_reducible refine (HP.out _).mono ?_
    rintro e w1 ⟨rfl, hf⟩
    go_wp2_with fail
    go_ret
    exact ⟨rfl, hf.tA⟩
  | true =>
    have hl := h hp
    obtain ⟨b, o, rfl, hb, hc⟩ := hA hl
    obtain ⟨x, hx⟩ : ∃ x, l[0] = x := ⟨_, rfl⟩
    have e : padN ty fl l = x.toNat := by simp [padN, hp, List.getElem?_eq_getElem hl, hx]
    rw [e]
    have hc0 := hc 0 hl
    rw [hx] at hc0
    simp only [Nat.add_zero] at hc0
    have hx2 := UInt8.toNat_lt x
    have HP := Lib.hid (fun w => ppadded ty fl st (some ⟨b, o, none⟩) l.length c true w hp)
    have hl' : (0 : Int) < (l.length : Int) := by omega
    clear hp e h hc hA
    unfold byteV at hc0
    go_enter Tryz.func63, Tryz.ntmps63
    go_wp2_with fail
    with_reducible refine (HP.out _).mono ?_
    rintro e w1 ⟨rfl, hf⟩
    obtain ⟨c0, c1, c2, c3⟩ := ((Blk.new w 34 #[.int .i64 ty, .int .i64 fl, .int .i64 st, .slice (some ⟨b, o, none⟩) l.length c]).fresh hf).c4
    have hd := (hf.tA.cell (p := ⟨b, o, none⟩) hb).trans hc0
    go_wp2_with fail
    go_ret
    exact ⟨rfl, hf.tA⟩
def fromN (ty fl : Int) : Nat := if pdB ty fl then 1 else 0
def wtL (ty fl : Int) (l : List UInt8) : List UInt8 := (l.drop (fromN ty fl)).take 5
theorem pweight (ty fl st : Int) (A : Option Addr) (c : Nat) (l : List UInt8) (w : World) (hA : BS w A l) (hlc : l.length ≤ c) (h : fromN ty fl + 5 ≤ l.length) :
    Calls Tryz.prog 77 #[.agg #[.int .i64 ty, .int .i64 fl, .int .i64 st, .slice A l.length c]] w (NewR (wtL ty fl l) w) := by
  obtain ⟨ab, ao, hAe, _, _⟩ := hA (by omega)
  subst hAe
  obtain ⟨f, hf⟩ : ∃ f, fromN ty fl = f := ⟨_, rfl⟩
  rw [hf] at h
  have hct := run_cut_mid (P := Tryz.prog) Tryz.underlying28 u8_size (some ⟨ab, ao, none⟩) l.length c f (f + 5) (by omega) (by omega)
  rw [show f + 5 - f = 5 by omega] at hct
  have HB : Hid (∀ w', Fresh w w' → BS w' (cutA (some ⟨ab, ao, none⟩) f c) (wtL ty fl l)) := Lib.hid (fun w' hw => by
    have := BS.take (BS.cut (hA.fresh hw) f c hlc) 5
    unfold wtL; rw [hf]; exact this)
  have HL : Hid ((wtL ty fl l).length = 5) := Lib.hid (by unfold wtL; rw [hf]; simp; omega)
  have HN := Lib.hid (fun w' hw => onewR (cutA (some ⟨ab, ao, none⟩) f c) 5 (c - f) _ w' HL.out (HB.out w' hw) (by omega))
  clear hA
  cases hp : pdB ty fl with
  | false =>
    have e : f = 0 := by rw [← hf]; simp [fromN, hp]
    subst e
    have HP := Lib.hid (fun w => ppadded ty fl st (some ⟨ab, ao, none⟩) l.length c false w hp)
    clear hp hf
    rw [cutA_zero, Nat.sub_zero] at HN
    simp only [Nat.zero_add] at hct h
    go_enter Tryz.func77, Tryz.ntmps77
    go_wp2_with fail
    with_reducible refine (HP.out _).mono ?_
    rintro e w1 ⟨rfl, hf⟩
    obtain ⟨c0, c1, c2, c3⟩ := ((Blk.new w 34 #[.int .i64 ty, .int .i64 fl, .int .i64 st, .slice (some ⟨ab, ao, none⟩) l.length c]).fresh hf).c4
    have HF := Lib.hid hf.tA
    clear hf
    go_wp2_with fail
    with_reducible refine (HN.out _ HF.out).mono ?_
    rintro e w2 ⟨p, g, rfl, hpp, hg, hr, hf2⟩
    have H2 := Lib.hid (And.intro hpp (And.intro hg (And.intro hr hf2)))
    clear hpp hg hr hf2
    go_wp2_with fail
    go_ret
    obtain ⟨h1, h2, h3, h4⟩ := H2.out
    have := HF.out.size
    exact ⟨p, g, rfl, by omega, by omega, h3, HF.out.trans h4⟩
  | true =>
    have e : f = 1 := by rw [← hf]; simp [fromN, hp]
    subst e
    have HP := Lib.hid (fun w => ppadded ty fl st (some ⟨ab, ao, none⟩) l.length c true w hp)
    clear hp hf
    rw [cutA_some _ _ _ _ (by omega)] at HN
    go_enter Tryz.func77, Tryz.ntmps77
    go_wp2_with fail
    with_reducible refine (HP.out _).mono ?_
    rintro e w1 ⟨rfl, hf⟩
    obtain ⟨c0, c1, c2, c3⟩ := ((Blk.new w 34 #[.int .i64 ty, .int .i64 fl, .int .i64 st, .slice (some ⟨ab, ao, none⟩) l.length c]).fresh hf).c4
    have HF := Lib.hid hf.tA
    clear hf
    go_wp2_with fail
    with_reducible refine (HN.out _ HF.out).mono ?_
    rintro e w2 ⟨p, g, rfl, hpp, hg, hr, hf2⟩
    have H2 := Lib.hid (And.intro hpp (And.intro hg (And.intro hr hf2)))
    clear hpp hg hr hf2
    go_wp2_with fail
    go_ret
    obtain ⟨h1, h2, h3, h4⟩ := H2.out
    have := HF.out.size
    exact ⟨p, g, rfl, by omega, by omega, h3, HF.out.trans h4⟩
def FourAt (p g : Nat) (full : List UInt8) (o : Nat) (x : Nat) (w : World) (e : Ending) (w' : World) : Prop :=
  e = .returned (.int .i64 (x : Int)) ∧ Rdr w' p g full (o + 4) ∧ Only (· = p) w w'
theorem pfour (p g : Nat) (full : List UInt8) (o x : Nat) (w : World) (h : Rdr w p g full o) (hn : o + 4 ≤ full.length) (hx : numL ((full.drop o).take 4) = x) :
    Calls Tryz.prog 72 #[.pointer (some ⟨p, 0, none⟩)] w (FourAt p g full o x w) := by
  have HN := Lib.hid (onum_at p g full o 4 x 4 w rfl h hn (by omega) hx)
  have hb : x < 4294967296 := by
    rw [← hx]
    exact numL_take_lt (full.drop o) 4 4 (Nat.le_refl _)
  have hw : IntKind.i64.wrap (x : Int) = (x : Int) := IntWalk.i64_in _ (by omega)
  clear h hx
  go_enter Tryz.func72, Tryz.ntmps72
  go_wp2_with fail
  with_reducible refine HN.out.mono ?_
  rintro e w1 ⟨rfl, hr, ho⟩
  have H1 := Lib.hid (And.intro hr ho)
  clear hr ho
  go_wp2_with fail
  go_ret
  exact ⟨rfl, H1.out.1, H1.out.2⟩
theorem low31 (x : Nat) (h : x < 4294967296) : bits .and .i64 (x : Int) 2147483647 = ((x % 2147483648 : Nat) : Int) := by
  have := i64_and_nat x 2147483647 (by omega) (by omega)
  rw [show ((2147483647 : Nat) : Int) = 2147483647 from rfl] at this
  rw [this, show x &&& 2147483647 = x % 2147483648 from Nat.and_two_pow_sub_one_eq_mod x 31]
theorem num4_lt (l : List UInt8) : numL (l.take 4) < 4294967296 := numL_take_lt l 4 4 (Nat.le_refl _)
def depN (ty fl : Int) (l : List UInt8) : Nat := numL ((wtL ty fl l).take 4) % 2147483648
theorem pdepends (ty fl st : Int) (A : Option Addr) (c : Nat) (l : List UInt8) (w : World) (hA : BS w A l) (hlc : l.length ≤ c) (h : fromN ty fl + 5 ≤ l.length) :
    Calls Tryz.prog 67 #[.agg #[.int .i64 ty, .int .i64 fl, .int .i64 st, .slice A l.length c]] w fun e w' => e = .returned (.int .i64 (depN ty fl l : Int)) ∧ Fresh w w' := by
  have HW := Lib.hid (fun w' (hw : Fresh w w') => pweight ty fl st A c l w' (hA.fresh hw) hlc h)
  have hL : (wtL ty fl l).length = 5 := by unfold wtL; simp; omega
  have hx := num4_lt (wtL ty fl l)
  have hlow := low31 _ hx
  have HD : Hid (depN ty fl l = numL ((wtL ty fl l).take 4) % 2147483648) := Lib.hid rfl
  have HF4 := Lib.hid (fun p g w' (hr : Rdr w' p g (wtL ty fl l) 0) => pfour p g (wtL ty fl l) 0 _ w' hr (by rw [hL]; omega) rfl)
  simp only [List.drop_zero] at HF4
  rw [← HD.out] at hlow
  generalize numL ((wtL ty fl l).take 4) = x at *
  generalize depN ty fl l = d at *
  clear hA
  go_enter Tryz.func67, Tryz.ntmps67
  go_wp2_with fail
  with_reducible refine (HW.out _ (Fresh.alloc _ _)).mono ?_
  rintro e w1 ⟨p, g, rfl, hp, hg, hr, hf⟩
  have H1 := Lib.hid (And.intro hp (And.intro hg (And.intro hr hf)))
  clear hp hg hr hf
  go_wp2_with fail
  with_reducible refine (HF4.out p g _ H1.out.2.2.1.rdr).mono ?_
  rintro e w2 ⟨rfl, hr2, ho2⟩
  have HO := Lib.hid ho2
  clear hr2 ho2
  go_wp2_with fail
  go_ret
  obtain ⟨h1, h2, h3, h4⟩ := H1.out
  exact ⟨rfl, Only.fresh ((Only.of_fresh h4.tA).trans HO.out) (fun i hi e => by simp at h1; omega)⟩
def incN (l : List UInt8) : Nat := numL (l.take 4) % 2147483648
theorem pincrement (ty fl st : Int) (A : Option Addr) (c : Nat) (l : List UInt8) (w : World) (hA : BS w A l) (h : 4 ≤ l.length) (hm : l.length ≤ 140737488355328) :
    Calls Tryz.prog 69 #[.agg #[.int .i64 ty, .int .i64 fl, .int .i64 st, .slice A l.length c]] w fun e w' => e = .returned (.int .i64 (incN l : Int)) ∧ Fresh w w' := by
  have HW := Lib.hid (fun w' (hw : Fresh w w') => onewR A l.length c l w' rfl (hA.fresh hw) hm)
  have hx := num4_lt l
  have hlow := low31 _ hx
  have HD : Hid (incN l = numL (l.take 4) % 2147483648) := Lib.hid rfl
  have HF4 := Lib.hid (fun p g w' (hr : Rdr w' p g l 0) => pfour p g l 0 _ w' hr (by omega) rfl)
  simp only [List.drop_zero] at HF4
  rw [← HD.out] at hlow
  generalize numL (l.take 4) = x at *
  generalize incN l = d at *
  clear hA
  go_enter Tryz.func69, Tryz.ntmps69
  go_wp2_with fail
  with_reducible refine (HW.out _ (Fresh.alloc _ _)).mono ?_
  rintro e w1 ⟨p, g, rfl, hp, hg, hr, hf⟩
  have H1 := Lib.hid (And.intro hp (And.intro hg (And.intro hr hf)))
  clear hp hg hr hf
  go_wp2_with fail
  with_reducible refine (HF4.out p g _ H1.out.2.2.1.rdr).mono ?_
  rintro e w2 ⟨rfl, hr2, ho2⟩
  have HO := Lib.hid ho2
  clear hr2 ho2
  go_wp2_with fail
  go_ret
  obtain ⟨h1, h2, h3, h4⟩ := H1.out
  exact ⟨rfl, Only.fresh ((Only.of_fresh h4.tA).trans HO.out) (fun i hi e => by simp at h1; omega)⟩
def srB (ty st : Int) : Bool :=
  if ty = 0 ∨ ty = 1 ∨ ty = 2 ∨ ty = 3 ∨ ty = 9 then st != 0 else if ty = 4 ∨ ty = 6 ∨ ty = 7 then st == 0 else true
theorem pstream (ty fl st : Int) (A : Option Addr) (n c : Nat) (b : Bool) (w : World) (hb : srB ty st = b) :
    Calls Tryz.prog 58 #[.agg #[.int .i64 ty, .int .i64 fl, .int .i64 st, .slice A n c]] w fun e w' => e = .returned (.bool b) ∧ Fresh w w' := by
  have H := Lib.hid hb
  clear hb
  by_cases h0 : ty = 0
  · have e : srB ty st = (st != 0) := by unfold srB; rw [if_pos (by omega)]
    rw [← H.out, e]
    subst h0
    clear e H
    go_enter Tryz.func58, Tryz.ntmps58
    go_wp2_with fail
    go_ret
    exact ⟨rfl, Fresh.alloc _ _⟩
  · have a0 : (ty == 0) = false := by simpa using h0
    by_cases h1 : ty = 1
    · have e : srB ty st = (st != 0) := by unfold srB; rw [if_pos (by omega)]
      rw [← H.out, e]
      subst h1
      clear e H h0
      go_enter Tryz.func58, Tryz.ntmps58
      go_wp2_with fail
      go_ret
      exact ⟨rfl, Fresh.alloc _ _⟩
    · have a1 : (ty == 1) = false := by simpa using h1
      by_cases h2 : ty = 2
      · have e : srB ty st = (st != 0) := by unfold srB; rw [if_pos (by omega)]
        rw [← H.out, e]
        subst h2
        clear e H h0 h1
        go_enter Tryz.func58, Tryz.ntmps58
        go_wp2_with fail
        go_ret
        exact ⟨rfl, Fresh.alloc _ _⟩
      · have a2 : (ty == 2) = false := by simpa using h2
        by_cases h3 : ty = 3
        · have e : srB ty st = (st != 0) := by unfold srB; rw [if_pos (by omega)]
          rw [← H.out, e]
          subst h3
          clear e H h0 h1 h2
          go_enter Tryz.func58, Tryz.ntmps58
          go_wp2_with fail
          go_ret
          exact ⟨rfl, Fresh.alloc _ _⟩
        · have a3 : (ty == 3) = false := by simpa using h3
          by_cases h9 : ty = 9
          · have e : srB ty st = (st != 0) := by unfold srB; rw [if_pos (by omega)]
            rw [← H.out, e]
            subst h9
            clear e H h0 h1 h2 h3
            go_enter Tryz.func58, Tryz.ntmps58
            go_wp2_with fail
            go_ret
            exact ⟨rfl, Fresh.alloc _ _⟩
          · have a9 : (ty == 9) = false := by simpa using h9
            by_cases h4 : ty = 4
            · have e : srB ty st = (st == 0) := by unfold srB; rw [if_neg (by omega), if_pos (by omega)]
              rw [← H.out, e]
              subst h4
              clear e H h0 h1 h2 h3 h9
              go_enter Tryz.func58, Tryz.ntmps58
              go_wp2_with fail
              go_ret
              exact ⟨rfl, Fresh.alloc _ _⟩
            · have a4 : (ty == 4) = false := by simpa using h4
              by_cases h6 : ty = 6
              · have e : srB ty st = (st == 0) := by unfold srB; rw [if_neg (by omega), if_pos (by omega)]
                rw [← H.out, e]
                subst h6
                clear e H h0 h1 h2 h3 h9 h4
                go_enter Tryz.func58, Tryz.ntmps58
                go_wp2_with fail
                go_ret
                exact ⟨rfl, Fresh.alloc _ _⟩
              · have a6 : (ty == 6) = false := by simpa using h6
                by_cases h7 : ty = 7
                · have e : srB ty st = (st == 0) := by unfold srB; rw [if_neg (by omega), if_pos (by omega)]
                  rw [← H.out, e]
                  subst h7
                  clear e H h0 h1 h2 h3 h9 h4 h6
                  go_enter Tryz.func58, Tryz.ntmps58
                  go_wp2_with fail
                  go_ret
                  exact ⟨rfl, Fresh.alloc _ _⟩
                · have a7 : (ty == 7) = false := by simpa using h7
                  have e : srB ty st = true := by unfold srB; rw [if_neg (by omega), if_neg (by omega)]
                  rw [← H.out, e]
                  clear e H h0 h1 h2 h3 h9 h4 h6 h7
                  go_enter Tryz.func58, Tryz.ntmps58
                  go_wp2_with fail
                  go_ret
                  exact ⟨rfl, Fresh.alloc _ _⟩
end Go.Proofs.YtginhebfjbhmnaaGreat

