/-
  Package queue: the first item of a number; Drop.
-/
import Derived.Test.YthfifeclmikbgaaQueH
import Derived.Test.YthfifeclmikbgaaQue8
namespace Go.Proofs.Ythfifeclmikbgaa
set_option linter.unusedVariables false
set_option linter.unusedSimpArgs false
open Go.RowKit
theorem qu_isnum (x : QI) (b : Nat) (num : Int) (r : Bool) (hr : (x.num == num) = r) (w : World) (hb : Blk w b 3 #[.int .i64 num]) : Calls Try.prog 32 #[x.agg, .pointer (some ⟨b, 0, none⟩)] w fun e w' => e = .returned (.bool r) ∧ Fresh w w' := by
  obtain ⟨nu, HA, hc, hl, BA, bc, bl⟩ := x
  simp only [QI.agg] at hr ⊢
  have c0 := hb.cell 0
  have hlt := hb.lt
  simp at c0
  clear hb
  go_enter Try.func32, Try.ntmps32
  go_wp2
  go_ret
  exact ⟨rfl, Fresh.alloc _ _⟩
def idxQ (num : Int) : List QI → Nat
  | [] => 0
  | x :: r => if x.num = num then 0 else idxQ num r + 1
theorem idxQ_le (num : Int) (l : List QI) : idxQ num l ≤ l.length := by
  induction l with
  | nil => simp [idxQ]
  | cons x r ih => unfold idxQ; split <;> simp; omega
theorem idxQ_step (num : Int) (l : List QI) (k : Nat) (x : QI) (hx : l[k]? = some x) (h : idxQ num l = k + idxQ num (l.drop k)) : (x.num = num → idxQ num l = k) ∧ (x.num ≠ num → idxQ num l = (k + 1) + idxQ num (l.drop (k + 1))) := by
  obtain ⟨hk, rfl⟩ := List.getElem?_eq_some_iff.1 hx
  rw [List.drop_eq_getElem_cons hk, idxQ] at h
  constructor
  · intro e; rw [if_pos e] at h; omega
  · intro e; rw [if_neg e] at h; omega
def IdxP (num : Int) (l : List QI) (w : World) (e : Ending) (w' : World) : Prop := Fresh w w' ∧ ((idxQ num l < l.length ∧ e = .returned (.int .i64 (idxQ num l : Int))) ∨ (idxQ num l = l.length ∧ e = .returned (.int .i64 (-1))))
set_option maxHeartbeats 3200000 in
theorem qu_index (base b : Nat) (num : Int) (v : Value) (l : List QI) (w : World) (h : Own w base 34 3 v l.length (rowQ l)) (hb : Blk w b 3 #[.int .i64 num]) (hl : l.length ≤ 10000) :
    Calls Try.prog 31 #[v, .func (.func 32) #[] #[.pointer (some ⟨b, 0, none⟩)]] w (IdxP num l w) := by
  obtain ⟨A, c, rfl, _⟩ := h.slice
  have H := Lib.hid h
  have HB := Lib.hid hb
  obtain ⟨n, hn⟩ : ∃ n, l.length = n := ⟨_, rfl⟩
  have HN := Lib.hid hn
  rw [hn] at hl ⊢
  clear h hb hn
  go_enter Try.func31, Try.ntmps31
  go_wp2
  go_loopw [8] (fun i wr => ∃ k : Nat, k ≤ n ∧ i = .int .i64 (k : Int) ∧ idxQ num l = k + idxQ num (l.drop k) ∧ Fresh w wr) (fun i _ => n - (intOf i).toNat)
  case atStart => exact ⟨0, by omega, rfl, by simp, Fresh.refl _⟩
  case round =>
    obtain ⟨k, hk, rfl, hi, hf⟩ := hrel
    have HI := Lib.hid hi
    have HF := Lib.hid hf
    by_cases hlt : k < n
    · have hlt' : (k : Int) < (n : Int) := by omega
      obtain ⟨x, hx⟩ : ∃ x, l[k]? = some x := ⟨_, List.getElem?_eq_getElem (by rw [HN.out]; exact hlt)⟩
      rcases (H.out.fresh hf).form with ⟨_, h00, _⟩ | ⟨g, cc, e, hgb, hgl, hnc', hcm', hcell⟩
      · rw [HN.out] at h00; omega
      injection e with e1 e2 e3
      subst e1 e3
      obtain ⟨r0, r1, r2⟩ := rowQ_at hx
      have y0 := (hcell (k * 3) (by rw [rowQ_length, HN.out]; omega)).1.trans r0
      have y1 := (hcell (k * 3 + 1) (by rw [rowQ_length, HN.out]; omega)).1.trans r1
      have y2 := (hcell (k * 3 + 2) (by rw [rowQ_length, HN.out]; omega)).1.trans r2
      have HST := Lib.hid (idxQ_step num l k x hx HI.out)
      obtain ⟨r, hr⟩ : ∃ r, (x.num == num) = r := ⟨_, rfl⟩
      have HC := Lib.hid (qu_isnum x b num r hr wr (HB.out.fresh hf))
      have HR := Lib.hid hr
      rw [HN.out] at hnc'
      simp only [maxLen] at hcm'
      unfold QI.agg at HC
      clear hi hf hx hcell r0 r1 r2 hr
      go_wp2_with fail
      with_reducible refine HC.out.mono ?_
      rintro e w2 ⟨rfl, hf2⟩
      have HF2 := Lib.hid (HF.out.trans hf2)
      clear hf2
      cases r
      · have hne : x.num ≠ num := by have := HR.out; simpa using this
        have HS := Lib.hid (HST.out.2 hne)
        clear hne
        go_wp2_with fail
        go_roundw
        case rel => exact ⟨k + 1, by omega, by go_num, HS.out, HF2.out⟩
        case measure => simp [intOf]; omega
      · have he : x.num = num := by have := HR.out; simpa using this
        have HS := Lib.hid (HST.out.1 he)
        clear he
        go_wp2
        go_ret
        exact ⟨HF2.out, .inl ⟨by rw [HS.out, HN.out]; exact hlt, by rw [HS.out]; rfl⟩⟩
    · obtain rfl : k = n := by omega
      have HS : Hid (idxQ num l = k) := Lib.hid (by rw [HI.out, List.drop_of_length_le (by rw [HN.out]; exact Nat.le_refl _)]; rfl)
      clear hi hf
      go_wp2
      go_ret
      exact ⟨HF.out, .inr ⟨by rw [HS.out, HN.out], rfl⟩⟩
end Go.Proofs.Ythfifeclmikbgaa
