/-
  Contracts of package payload: weigh, pairs.
-/
import Derived.Test.YtcdghmidpaeloaaPay5
import Derived.Test.YtcdghmidpaeloaaItem
namespace Go.Proofs.Ytcdghmidpaeloaa
set_option linter.unusedVariables false
open Go.RowKit

theorem top31 (x : Nat) (h : x < 4294967296) : (bits .and .i64 (x : Int) 2147483648 != 0) = decide (2147483648 ≤ x) := by
  have h1 := i64_and_nat x 2147483648 (by omega) (by omega)
  rw [show ((2147483648 : Nat) : Int) = 2147483648 from rfl] at h1
  rw [h1]
  have h3 : x.testBit 31 = decide (2147483648 ≤ x) := by
    rw [Nat.testBit_eq_decide_div_mod_eq]
    rw [decide_eq_decide]
    constructor
    · intro h; omega
    · intro h; omega
  have h2 : x &&& 2147483648 = if 2147483648 ≤ x then 2147483648 else 0 := by
    apply Nat.eq_of_testBit_eq
    intro i
    rw [Nat.testBit_and, show (2147483648 : Nat) = 2 ^ 31 from rfl, Nat.testBit_two_pow]
    by_cases hi : 31 = i
    · subst hi
      rw [h3]
      by_cases h4 : 2147483648 ≤ x
      · simp [h4, show (2 : Nat) ^ 31 = 2147483648 from rfl]
        rfl
      · simp [h4, show (2 : Nat) ^ 31 = 2147483648 from rfl]
    · by_cases h4 : 2147483648 ≤ x
      · rw [if_pos (show 2 ^ 31 ≤ x from h4), Nat.testBit_two_pow]; simp [hi]
      · rw [if_neg (show ¬ 2 ^ 31 ≤ x from h4)]; simp [hi]
  rw [h2]
  by_cases h4 : 2147483648 ≤ x <;> simp [h4]
def weL (ty fl : Int) (l : List UInt8) : Int := (((wtL ty fl l).getD 4 0).toNat : Int) + 1
def exB (ty fl : Int) (l : List UInt8) : Bool := decide (2147483648 ≤ numL ((wtL ty fl l).take 4))
def wgI (ty fl : Int) (l : List UInt8) (x : ItV) : ItV := { x with wd := true, ex := exB ty fl l, de := (depN ty fl l : Int), we := weL ty fl l }
def WgP (p : Nat) (x : ItV) (w : World) (e : Ending) (w' : World) : Prop := e = .returned (.tuple #[]) ∧ Blk w' p 28 x.cells.toArray ∧ Only (· = p) w w'
set_option maxHeartbeats 1600000 in
theorem pweigh (p : Nat) (x : ItV) (ty fl st : Int) (A : Option Addr) (c : Nat) (l : List UInt8) (w : World) (hb : Blk w p 28 x.cells.toArray) (hA : BS w A l) (hlc : l.length ≤ c) (h : fromN ty fl + 5 ≤ l.length) :
    Calls Try.prog 40 #[.pointer (some ⟨p, 0, none⟩), .agg #[.int .i64 ty, .int .i64 fl, .int .i64 st, .slice A l.length c]] w (WgP p (wgI ty fl l x) w) := by
  have HW := Lib.hid (fun w' (hw : Fresh w w') => pweight ty fl st A c l w' (hA.fresh hw) hlc h)
  have hL : (wtL ty fl l).length = 5 := by unfold wtL; simp; omega
  obtain ⟨y, hy⟩ : ∃ y, (wtL ty fl l)[4]? = some y := ⟨_, List.getElem?_eq_getElem (by omega)⟩
  have hx := num4_lt (wtL ty fl l)
  have hlow := low31 _ hx
  have htop := top31 _ hx
  have hyb := UInt8.toNat_lt y
  have HI : Hid (wgI ty fl l x = { x with wd := true, ex := decide (2147483648 ≤ numL ((wtL ty fl l).take 4)), de := ((numL ((wtL ty fl l).take 4) % 2147483648 : Nat) : Int), we := (y.toNat : Int) + 1 }) := Lib.hid (by
    unfold wgI exB depN weL
    rw [List.getD_eq_getElem?_getD, hy]; rfl)
  have HF4 := Lib.hid (fun q g w' (hr : Rdr w' q g (wtL ty fl l) 0) => pfour q g (wtL ty fl l) 0 _ w' hr (by rw [hL]; omega) rfl)
  simp only [List.drop_zero] at HF4
  have HBY := Lib.hid (fun q g w' (hr : Rdr w' q g (wtL ty fl l) 4) => obyte_at q g (wtL ty fl l) 4 y w' hr hy)
  have HB := Lib.hid hb
  have hpl := hb.lt
  rw [HI.out]
  generalize wtL ty fl l = WT at *
  generalize numL (WT.take 4) = on at *
  clear hA hb hL hy HI h
  go_enter Try.func40, Try.ntmps40
  go_wp2_with fail
  with_reducible refine (HW.out _ (Fresh.alloc _ _)).mono ?_
  rintro e w1 ⟨q, g, rfl, hq, hg, hr, hf⟩
  have H1 := Lib.hid (And.intro hq (And.intro hg (And.intro hr hf)))
  clear hq hg hr hf
  go_wp2_with fail
  with_reducible refine (HF4.out q g _ H1.out.2.2.1.rdr).mono ?_
  rintro e w2 ⟨rfl, hr2, ho2⟩
  have H2 := Lib.hid (And.intro hr2 ho2)
  clear hr2 ho2
  go_wp2_with fail
  with_reducible refine (HBY.out q g _ H2.out.1).mono ?_
  rintro e w3 ⟨rfl, hr3, ho3⟩
  have hF3 : Fresh w w3 := Only.fresh (((Only.of_fresh H1.out.2.2.2.tA).trans H2.out.2).trans ho3) (fun i hi e => by have := H1.out.1; simp at this; omega)
  have hb3 := HB.out.fresh hF3
  have c10 := hb3.cell 10
  have c11 := hb3.cell 11
  have c12 := hb3.cell 12
  have c13 := hb3.cell 13
  have z10 := hb3.frozen 10
  have z11 := hb3.frozen 11
  have z12 := hb3.frozen 12
  have z13 := hb3.frozen 13
  simp only [ItV.cells, List.getElem?_toArray, List.getElem?_cons_zero, List.getElem?_cons_succ] at c10 c11 c12 c13
  have HF3 := Lib.hid hF3
  have HB3 := Lib.hid hb3
  clear hr3 ho3 hF3 hb3
  go_wp2_with fail
  go_returns
  refine ⟨rfl, ?_, ?hO⟩
  case hO =>
    refine Only.step2 (.inl rfl) (Only.step2 (.inl rfl) (Only.step2 (.inl rfl) (Only.step2 (.inl rfl) ?_)))
    exact Only.of_fresh HF3.out
  have := (((HB3.out.set 12 (.bool true)).set 13 (.bool (decide (2147483648 ≤ on)))).set 10 (.int .i64 ((on : Int) % 2147483648))).set 11 (.int .i64 ((y.toNat : Int) + 1))
  simpa [ItV.cells] using this
def prsL (k : Nat) (l : List UInt8) : List (Int × Int) := (List.range k).map fun i => ((numL ((l.drop (6 * i)).take 2) : Int), (numL ((l.drop (6 * i + 2)).take 4) : Int))
theorem prsL_len (k : Nat) (l : List UInt8) : (prsL k l).length = k := by simp [prsL]
theorem prsL_succ (k : Nat) (l : List UInt8) : prsL (k + 1) l = prsL k l ++ [((numL ((l.drop (6 * k)).take 2) : Int), (numL ((l.drop (6 * k + 2)).take 4) : Int))] := by simp [prsL, List.range_succ]
theorem pr_info : (Try.prog.info? 52).map (fun i => (i.zero, i.size, i.bytes)) = some (some (.agg #[.int .i64 0, .int .i64 0]), 2, 16) := by kernel_rfl
def PairsP (l : List UInt8) (n : Nat) (w : World) (e : Ending) (w' : World) : Prop := ∃ A c, e = .returned (.slice A n c) ∧ n ≤ c ∧ c ≤ maxLen ∧ Own w' w.heap.size 52 2 (.slice A n c) n ((prsL n l).flatMap pairC) ∧ Fresh w w'
set_option maxHeartbeats 1600000 in
theorem ppairs (ty fl st : Int) (A : Option Addr) (c : Nat) (l : List UInt8) (n : Nat) (w : World) (hA : BS w A l) (hmx : l.length ≤ 1000000) (h6 : l.length = 6 * n) :
    Calls Try.prog 43 #[.agg #[.int .i64 ty, .int .i64 fl, .int .i64 st, .slice A l.length c]] w (PairsP l n w) := by
  have HN := Lib.hid (fun w' (hw : Fresh w w') => onewR A l.length c l w' rfl (hA.fresh hw) (by omega))
  have H6 := Lib.hid h6
  have hn : n ≤ 200000 := by omega
  clear hA h6
  go_enter Try.func43, Try.ntmps43
  go_wp2_with fail
  with_reducible refine (HN.out _ (Fresh.alloc _ _)).mono ?_
  rintro e w1 ⟨p, g, rfl, hp, hg, hr, hf⟩
  have HP := Lib.hid (And.intro hp hg)
  have HR := Lib.hid hr.rdr
  have HF := Lib.hid hf.tA
  clear hp hg hr hf HN
  go_wp2_with fail
  go_loopw [3] (fun v wr => ∃ k, k ≤ n ∧ Own wr w.heap.size 52 2 v k ((prsL k l).flatMap pairC) ∧ Rdr wr p g l (6 * k) ∧ Fresh w wr) (fun v _ => match v with | .slice _ k _ => n - k | _ => 0)
  case atStart => exact ⟨0, by omega, Own.nil _ _ _ _, HR.out, HF.out⟩
  case round =>
    obtain ⟨k, hk, ho, hrd, hfr⟩ := hrel
    obtain ⟨Av, cv, rfl, _⟩ := Own.slice ho
    have HO := Lib.hid ho
    have HRD := Lib.hid hrd
    have HFR := Lib.hid hfr
    clear HR ho hrd hfr
    by_cases hlt : k < n
    · have h6 := H6.out
      have HL := Lib.hid (oleft_at p g l (6 * k) (l.length - 6 * k) wr HRD.out (by omega))
      have HN2 := Lib.hid (onum_at p g l (6 * k) 2 _ 2 wr rfl HRD.out (by omega) (by omega) rfl)
      have HF4 := Lib.hid (fun w' (h : Rdr w' p g l (6 * k + 2)) => pfour p g l (6 * k + 2) _ w' h (by omega) rfl)
      have HS := Lib.hid (prsL_succ k l)
      have hx2 : numL ((l.drop (6 * k)).take 2) < 65536 := numL_take_lt (l.drop (6 * k)) 2 2 (Nat.le_refl _)
      have hx4 := num4_lt (l.drop (6 * k + 2))
      have hpos : 0 < l.length - 6 * k := by omega
      generalize l.length - 6 * k = lf at *
      generalize numL ((l.drop (6 * k)).take 2) = a at *
      generalize numL ((l.drop (6 * k + 2)).take 4) = b at *
      have hw1 : IntKind.i64.wrap (a : Int) = (a : Int) := IntWalk.i64_in _ (by omega)
      clear h6
      go_wp2_with fail
      with_reducible refine HL.out.mono ?_
      rintro e w2 ⟨rfl, rfl⟩
      go_wp2_with fail
      with_reducible refine HN2.out.mono ?_
      rintro e w2 ⟨rfl, hr2, ho2⟩
      have HR2 := Lib.hid hr2
      have HO2 := Lib.hid ho2
      clear hr2 ho2
      go_wp2_with fail
      with_reducible refine (HF4.out _ HR2.out).mono ?_
      rintro e w3 ⟨rfl, hr3, ho3⟩
      have hpn : ∀ q, (Value.slice Av k cv).ownBlock = some q → ¬ q = p := fun q hq e => by
        subst e
        rcases HO.out.2 with ⟨e, _⟩ | ⟨g', cap, cur, e, _, hh, _⟩
        · rw [e] at hq; cases hq
        · rw [e] at hq; simp [Value.ownBlock] at hq; subst hq
          obtain ⟨A9, c9, hin, _⟩ := HRD.out
          exact (show Blk wr g' _ cur from hh).ne hin.blk (by decide) rfl
      have HO3 := Lib.hid (HO.out.only (HO2.out.trans ho3) hpn)
      have HF3 : Hid (Fresh w w3) := Lib.hid (Only.fresh (((Only.of_fresh HFR.out).trans HO2.out).trans ho3) (fun i hi e => by have := HP.out.1; have := HF.out.size; simp at *; omega))
      have HR3 := Lib.hid hr3
      clear hr3 ho3 hpn
      obtain ⟨v', w', hap, ho', hbl, _, hgr⟩ := Own.push (P := Try.prog) (w0 := w) Try.underlying26 pr_info rfl (by omega) 26 HO3.out HF3.out (Nat.le_refl _) #[.int .i64 (a : Int), .int .i64 (b : Int)] rfl (by
        intro u hu
        simp only [List.mem_cons, List.not_mem_nil, or_false] at hu
        rcases hu with rfl | rfl <;> rfl) (by unfold maxLen; omega) (by omega)
      obtain ⟨A', c', rfl, _⟩ := Own.slice ho'
      have HR4 : Hid (Rdr w' p g l (6 * (k + 1))) := Lib.hid (by
        have hon : Only (fun q => (Value.slice Av k cv).ownBlock = some q) w3 w' := (Only.of_fresh (Fresh.alloc _ _)).trans ⟨hgr.os, hgr.tape, hgr.output, hgr.size, fun k hk hne => hgr.block k hk (fun e => hne e.symm)⟩
        have hne : ∀ q t cs, Blk w3 q t cs → t ≠ 52 → ¬ (Value.slice Av k cv).ownBlock = some q := fun q t cs hb ht hq => by
          rcases HO3.out.2 with ⟨e, _⟩ | ⟨g', cap, cur, e, _, hh, _⟩
          · rw [e] at hq; cases hq
          · rw [e] at hq; simp [Value.ownBlock] at hq; subst hq
            exact (show Blk w3 g' _ cur from hh).ne hb (fun e => ht e.symm) rfl
        have hR := HR3.out
        obtain ⟨A9, c9, hin, _⟩ := HR3.out
        have := hR.only hon (hne p _ _ hin.blk (by decide)) (hne g _ _ hR.blk (by decide))
        rwa [show 6 * k + 2 + 4 = 6 * (k + 1) by omega] at this)
      have HO4 := Lib.hid ho'
      have HF4' := Lib.hid hbl
      clear ho' hbl hgr
      go_wp2_with (at_builtin; with_reducible refine wp_app rfl (.tmp 18) (.tmp 24) _ rfl hap rfl (by simp [Act.eval, Act.put]) (by simp [Act.eval, Act.put]) ?_)
      go_roundw
      case rel => exact ⟨k + 1, by omega, by rw [HS.out]; simpa [pairC] using HO4.out, HR4.out, HF4'.out⟩
      case measure => simp; omega
    · obtain rfl : k = n := by omega
      have h6 := H6.out
      have HL := Lib.hid (oleft_at p g l (6 * k) 0 wr HRD.out (by omega))
      clear h6
      go_wp2_with fail
      with_reducible refine HL.out.mono ?_
      rintro e w2 ⟨rfl, rfl⟩
      go_wp2_with fail
      go_ret
      obtain ⟨A8, c8, e8, h1, h2, _⟩ := HO.out.slice
      cases e8
      exact ⟨Av, cv, rfl, h1, h2, HO.out, HFR.out⟩
end Go.Proofs.Ytcdghmidpaeloaa

