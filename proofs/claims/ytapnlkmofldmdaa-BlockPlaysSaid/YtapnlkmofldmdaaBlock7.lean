/-
  Layer 12: rows of items; the law BlockAlone.
-/
import Derived.Test.YtapnlkmofldmdaaBlock6
import Derived.Test.YtapnlkmofldmdaaItemW
namespace Go.Proofs.Ytapnlkmofldmdaa
set_option linter.unusedVariables false
open Go.RowKit Go.ChangeShapes Go.WideShapes Go.Deep
section
variable {H : Type} {enc : TypeId × Value → H} {w : World} {base : Nat} {spare : Nat → Bool} {held : Bool} {v : Value} {d : DataW H} {p : List MemPlace} {r : Reach} {b0 : Nat}
theorem open_itemE (hv : Value.okWide Try.prog w r b0 34 v) (hd : DataW.Trod enc Try.prog w base spare held 34 v d p) :
    ∃ x : ItV, v = .agg #[.int .i64 x.ty, .int .i64 x.st, .slice x.A x.l.length x.c, .bool x.en, .bool x.eh, .bool x.ak, .int .i64 x.fl, .int .i64 x.co, .int .i64 x.la, .int .i64 x.inc, .int .i64 x.de, .int .i64 x.we, .bool x.wd, .bool x.ex, .slice x.PA x.ps.length x.pc] ∧ x.Ok w := by
  obtain ⟨x, e, hx⟩ := open_item hv hd
  exact ⟨x, e, hx⟩
end
def totI (ls : List ItV) : Nat := (ls.map fun x => 3 + x.l.length).sum
theorem totI_take (ls : List ItV) (k : Nat) (b : ItV) (h : ls[k]? = some b) : totI (ls.take (k + 1)) = totI (ls.take k) + (3 + b.l.length) := by
  obtain ⟨hk, rfl⟩ := List.getElem?_eq_some_iff.1 h
  unfold totI
  rw [List.take_succ_eq_append_getElem hk, List.map_append, List.sum_append]
  simp
theorem totI_le (ls : List ItV) (k : Nat) : totI (ls.take k) ≤ totI ls := by
  have h : totI (ls.take k ++ ls.drop k) = totI ls := by rw [List.take_append_drop]
  have h2 : totI (ls.take k ++ ls.drop k) = totI (ls.take k) + totI (ls.drop k) := by unfold totI; rw [List.map_append, List.sum_append]
  omega
def smallI (ls : List ItV) : Bool := decide (totI ls ≤ 500)
set_option maxRecDepth 100000 in
set_option maxHeartbeats 1600000 in
theorem bsmall (s : ItsV) (w : World) (hs : s.OkW w) :
    Calls Try.prog 7 #[.slice s.A s.xs.length s.c] w fun e w' => e = .returned (.bool (smallI s.xs)) ∧ Fresh w w' := by
  obtain ⟨A, c, xs⟩ := s
  have hle := hs.ok.le
  have hmax := hs.ok.max
  have HR := Lib.hid hs.ok.rows
  have HO := Lib.hid hs.sz
  simp only [] at hle hmax HR HO ⊢
  unfold maxLen at hmax
  clear hs
  go_enter Try.func7, Try.ntmps7
  go_wp2
  go_loopw [3, 8] (fun t i wr => ∃ (k : Nat), k ≤ xs.length ∧ i = .int .i64 (k : Int) ∧ t = .int .i64 (totI (xs.take k) : Int) ∧ totI (xs.take k) ≤ 500 ∧ Fresh w wr) (fun _ i _ => xs.length - (intOf i).toNat)
  case atStart => exact ⟨0, by omega, rfl, rfl, by simp [totI], Fresh.refl _⟩
  case round =>
    obtain ⟨k, hk, rfl, rfl, hb, hfr⟩ := hrel
    have HFR := Lib.hid hfr
    by_cases hlt : k < xs.length
    · obtain ⟨x, hx⟩ : ∃ x, xs[k]? = some x := ⟨_, List.getElem?_eq_getElem hlt⟩
      obtain ⟨b, o, rfl, hbw, hc⟩ := HR.out.item k x hx
      obtain ⟨e0, e1, e2, e3, e4, e5, e6, e7, e8, e9, e10, e11, e12, e13, e14⟩ := hc.only (Only.of_fresh (S := fun _ => False) hfr) hbw (fun e => e)
      have hl1 := HO.out x (List.mem_of_getElem? hx)
      have HT := Lib.hid (totI_take xs k x hx)
      have HLe := Lib.hid (totI_le xs (k + 1))
      obtain ⟨ty, st, A2, c2, l, en, eh, ak, fl, co, la, inc, de, we, wd, ex, PA, pc, ps⟩ := x
      simp only at e0 e1 e2 e3 e4 e5 e6 e7 e8 e9 e10 e11 e12 e13 e14 hl1 HT
      clear hx hfr hc
      generalize totI (xs.take k) = t at *
      by_cases h5 : 500 < t + (3 + l.length)
      · have h5' : (500 : Int) < (t : Int) + (3 + (l.length : Int)) := by omega
        go_wp2
        go_ret
        exact ⟨ret_bool (by unfold smallI; exact (decide_eq_false (by have := HT.out; have := HLe.out; omega)).symm), HFR.out.allocS _⟩
      · have h5' : ¬ (500 : Int) < (t : Int) + (3 + (l.length : Int)) := by omega
        go_wp2
        go_roundw
        case rel => exact ⟨k + 1, by omega, by go_num, by rw [HT.out]; congr 1, by rw [HT.out]; omega, HFR.out.allocS _⟩
        case measure => simp [intOf]; omega
    · obtain rfl : k = xs.length := by omega
      rw [List.take_length] at hb
      clear hfr
      go_wp2
      go_ret
      exact ⟨ret_bool (by unfold smallI; exact (decide_eq_true hb).symm), HFR.out⟩
end Go.Proofs.Ytapnlkmofldmdaa
