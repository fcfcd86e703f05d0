/-
  Contract of cell.Open.
-/
import Derived.Test.YtpokpkijhakpjaaCell5
import Derived.Test.YtpokpkijhakpjaaFrameE
namespace Go.Proofs.Ytpokpkijhakpjaa
set_option linter.unusedVariables false
open Go.RowKit

def notFil (q : Fr) : Bool := q.x != 250
/-- The frames of a slot, if it is one. -/
def openR (l : List UInt8) : Option (List Fr) :=
  match allF (l.length : Int) l.length l with
  | some (P, r) => if r = [] then some (P.filter notFil) else none
  | none => none
def OpenNo (r : Int) (w : World) (e : Ending) (w' : World) : Prop := e = .returned (.tuple #[.slice none 0 0, .int .i64 r]) ∧ Fresh w w'
def OpenOk (P : List Fr) (w : World) (e : Ending) (w' : World) : Prop := ∃ A n c fs, e = .returned (.tuple #[.slice A n c, .int .i64 0]) ∧ n = P.length ∧ OwnF w' w.heap.size (.slice A n c) fs ∧ fs.map Prod.fst = P ∧ Fresh w w'
theorem allF_count {most : Int} : ∀ (n : Nat) (l : List UInt8) (P : List Fr × List UInt8), allF most n l = some P → P.1.length ≤ n
  | 0, l, P, h => by simp only [allF, Option.some.injEq] at h; subst h; simp
  | n + 1, l, P, h => by
    unfold allF at h
    split at h
    · simp only [Option.some.injEq] at h; subst h; simp
    · split at h
      · cases hq : allF most n (l.drop (lenF l)) with
        | none => rw [hq] at h; cases h
        | some q =>
          rw [hq] at h
          simp only [Option.map_some, Option.some.injEq] at h
          subst h
          have := allF_count n _ _ hq
          simp; omega
      · cases h
def OpenPost (R : Option (List Fr)) (w : World) (e : Ending) (w' : World) : Prop := (∀ P, R = some P → OpenOk P w e w') ∧ (R = none → OpenNo 10 w e w')
theorem take_filter_succ {α : Type} (p : α → Bool) (l : List α) (j : Nat) (x : α) (h : l[j]? = some x) : (l.take (j + 1)).filter p = (l.take j).filter p ++ if p x then [x] else [] := by
  have hj := (List.getElem?_eq_some_iff.1 h).1
  have he := (List.getElem?_eq_some_iff.1 h).2
  rw [List.take_succ_eq_append_getElem hj, List.filter_append, he]
  congr 1
  simp [List.filter_cons]
theorem open_range (v : Value) (n : Int) (w : World) (h : ¬ (1 ≤ n ∧ n ≤ 1024)) :
    Calls Try.prog 17 #[v, .int .i64 n] w (OpenNo 11 w) := by
  have H := Lib.hid (fun w => ce_right_no n w h)
  clear h
  go_enter Try.func17, Try.ntmps17
  go_wp2_with fail
  with_reducible refine (H.out _).mono ?_
  rintro e w1 ⟨rfl, rfl⟩
  go_wp2_with fail
  go_ret2
  exact ⟨rfl, Fresh.refl _⟩
theorem open_form (A : Option Addr) (m c : Nat) (n : Int) (w : World) (h0 : 1 ≤ n) (h1 : n ≤ 1024) (h : (m : Int) ≠ n + 18) :
    Calls Try.prog 17 #[.slice A m c, .int .i64 n] w (OpenNo 10 w) := by
  have hne : ((m : Int) != n + 18) = true := by simpa using h
  clear h
  go_enter Try.func17, Try.ntmps17
  go_wp2_with fail
  with_reducible refine (ce_right_yes n _ h0 h1).mono ?_
  rintro e w1 ⟨rfl, rfl⟩
  go_wp2_with fail
  with_reducible refine (ce_len_yes n _ h0 h1).mono ?_
  rintro e w1 ⟨rfl, rfl⟩
  go_wp2_with fail
  go_ret2
  exact ⟨rfl, Fresh.refl _⟩
set_option maxHeartbeats 3200000 in
theorem open_any (A : Option Addr) (c : Nat) (l : List UInt8) (n : Nat) (w : World) (h0 : 1 ≤ n) (h1 : n ≤ 1024) (hl : l.length = n + 18) (hlc : l.length ≤ c) (hc : c ≤ maxLen) (hA : BS w A l) :
    Calls Try.prog 17 #[.slice A (n + 18) c, .int .i64 (n : Int)] w (OpenPost (openR l) w) := by
  have HC := Lib.hid (fall_at A (n + 18) c l ((n + 18 : Nat) : Int) _ w hl (by omega) hc hA (by omega) rfl)
  have e18 : ((n + 18 : Nat) : Int) = (n : Int) + 18 := by omega
  have HO : Hid (openR l = match allF ((n + 18 : Nat) : Int) (n + 18) l with | some (P, r) => if r = [] then some (P.filter notFil) else none | none => none) := Lib.hid (by unfold openR; rw [hl])
  rw [e18] at HC
  rw [e18] at HO
  have hne : ((n : Int) + 18 != (n : Int) + 18) = false := by simp
  clear hA hlc
  have HCNT : Hid (∀ P r, allF ((n : Int) + 18) (n + 18) l = some (P, r) → P.length ≤ n + 18) := Lib.hid (fun P r h => allF_count _ _ _ h)
  generalize openR l = R at *
  generalize allF ((n : Int) + 18) (n + 18) l = r at *
  have HL := Lib.hid hl
  clear hl e18
  cases r with
  | none =>
    have hR : R = none := HO.out
    subst hR
    go_enter Try.func17, Try.ntmps17
    go_wp2_with fail
    with_reducible refine (ce_right_yes n _ (by omega) (by omega)).mono ?_
    rintro e w1 ⟨rfl, rfl⟩
    go_wp2_with fail
    with_reducible refine (ce_len_yes n _ (by omega) (by omega)).mono ?_
    rintro e w1 ⟨rfl, rfl⟩
    go_wp2_with fail
    refine HC.out.mono ?_
    rintro e w1 ⟨_, hno⟩
    obtain ⟨rfl, hf⟩ := hno rfl
    have HF := Lib.hid hf
    clear hno hf
    go_wp2_with fail
    go_ret2
    exact ⟨(fun P h => by cases h), fun _ => ⟨rfl, HF.out⟩⟩
  | some Pr =>
    obtain ⟨P, r⟩ := Pr
    go_enter Try.func17, Try.ntmps17
    go_wp2_with fail
    with_reducible refine (ce_right_yes n _ (by omega) (by omega)).mono ?_
    rintro e w1 ⟨rfl, rfl⟩
    go_wp2_with fail
    with_reducible refine (ce_len_yes n _ (by omega) (by omega)).mono ?_
    rintro e w1 ⟨rfl, rfl⟩
    go_wp2_with fail
    refine HC.out.mono ?_
    rintro e w1 ⟨hyes, _⟩
    obtain ⟨A1, n1, c1, fs, A2, rfl, hn1, hfs, hmp, hpay, hf, hna⟩ := hyes _ rfl
    simp only at hn1 hfs hmp hpay
    have HN1 := Lib.hid hn1
    have HFS := Lib.hid hfs
    have HMP := Lib.hid hmp
    have HF := Lib.hid hf
    clear hyes hn1 hmp hpay hf hna HC hfs
    by_cases hr : r = []
    · subst hr
      have hR : R = some (P.filter notFil) := by have := HO.out; simpa using this
      subst hR
      clear HO
      have hfl : fs.length = n1 := by rw [HN1.out, ← HMP.out]; simp
      have HFL := Lib.hid hfl
      have hn1m : n1 ≤ 2000 := by have := HCNT.out _ _ rfl; rw [HN1.out]; omega
      clear hfl
      go_wp2_with fail
      have HW1 : Hid (w.heap.size ≤ w1.heap.size) := Lib.hid HF.out.size
      go_loopw [9, 37] (fun v i wr => ∃ j : Nat, j ≤ n1 ∧ i = .int .i64 j ∧ Own wr w1.heap.size 33 4 v ((fs.take j).filter (fun q => notFil q.1)).length (((fs.take j).filter (fun q => notFil q.1)).flatMap cellsF) ∧ Below w1.heap.size w1 wr) (fun _ i _ => n1 - (intOf i).toNat)
      case atStart => exact ⟨0, by omega, rfl, Own.nil _ _ _ _, Below.refl _ _⟩
      case round =>
        obtain ⟨j, hj, rfl, hO, hB⟩ := hrel
        by_cases hlt : j < n1
        · obtain ⟨q, hq⟩ : ∃ q, fs[j]? = some q := ⟨fs[j]'(by rw [HFL.out]; exact hlt), List.getElem?_eq_getElem _⟩
          obtain ⟨g, rfl, hgl, _, k0, k1, k2, k3⟩ := (OwnF.fresh HFS.out (show Fresh w1 wr from hB)).cells j q hq
          have HTK := Lib.hid (take_filter_succ (fun q : Fr × Option Addr => notFil q.1) fs j q hq)
          have hqx := UInt8.toNat_lt q.1.x
          obtain ⟨⟨x, y, st, pl⟩, qa⟩ := q
          simp only at k0 k1 k2 k3 hqx
          generalize hK : (fs.take j).filter (fun q => notFil q.1) = K at *
          have hKl : K.length ≤ j := by rw [← hK]; exact Nat.le_trans (List.length_filter_le _ _) (by simp; omega)
          clear hK
          by_cases hx : x = 250
          · have hx' : ((x.toNat : Int) != 250) = false := by subst hx; rfl
            have hnf : notFil ⟨x, y, st, pl⟩ = false := by subst hx; rfl
            simp only [hnf, if_false, List.append_nil, Bool.false_eq_true] at HTK
            have HOO := Lib.hid (hO.fresh (Fresh.alloc wr (.cells #[.int .i64 (x.toNat : Int), .int .i64 (y.toNat : Int), .int .i64 (st : Int), .slice qa pl.length pl.length] 33)))
            have HBB := Lib.hid (Below.trans hB (Below.mono (Fresh.alloc wr (.cells #[.int .i64 (x.toNat : Int), .int .i64 (y.toNat : Int), .int .i64 (st : Int), .slice qa pl.length pl.length] 33)) hB.size))
            clear hO hB hx hnf
            go_wp2_with fail
            go_roundw
            case rel => exact ⟨j + 1, by omega, by go_num, by rw [HTK.out]; exact HOO.out, HBB.out⟩
            case measure => simp [intOf]; omega
          · have hx' : ((x.toNat : Int) != 250) = true := by
              simp only [bne_iff_ne, ne_eq]
              intro e
              exact hx (UInt8.toNat_inj.1 (by simp; omega))
            have hnf : notFil ⟨x, y, st, pl⟩ = true := by unfold notFil; simpa using hx
            simp only [hnf, if_true] at HTK
            obtain ⟨v', w', hap, ho', hbl, _, hgr⟩ := Own.push (P := Try.prog) (w0 := w1) Try.underlying31 fr_info rfl (by omega) 31 (hO.fresh (Fresh.alloc wr (.cells #[.int .i64 (x.toNat : Int), .int .i64 (y.toNat : Int), .int .i64 (st : Int), .slice qa pl.length pl.length] 33))) (Below.trans hB (Below.mono (Fresh.alloc wr (.cells #[.int .i64 (x.toNat : Int), .int .i64 (y.toNat : Int), .int .i64 (st : Int), .slice qa pl.length pl.length] 33)) hB.size)) (Nat.le_refl _) #[.int .i64 (x.toNat : Int), .int .i64 (y.toNat : Int), .int .i64 (st : Int), .slice qa pl.length pl.length] rfl (by
              intro u hu
              simp only [List.mem_cons, List.not_mem_nil, or_false] at hu
              rcases hu with rfl | rfl | rfl | rfl <;> rfl) (by unfold maxLen; omega) (by omega)
            obtain ⟨A', c', rfl, _⟩ := Own.slice ho'
            have HO' := Lib.hid ho'
            have HBL := Lib.hid hbl
            clear hO hB ho' hbl hgr hx hnf
            go_wp2_with (at_builtin; with_reducible refine wp_app rfl (.tmp 44) (.tmp 46) _ rfl hap rfl (by simp [Act.eval, Act.put]) (by simp [Act.eval, Act.put]) ?_)
            go_roundw
            case rel => exact ⟨j + 1, by omega, by go_num, by rw [HTK.out]; simpa [cellsF] using HO'.out, HBL.out⟩
            case measure => simp [intOf]; omega
        · obtain rfl : j = n1 := by omega
          have htk : fs.take j = fs := List.take_of_length_le (by rw [HFL.out]; omega)
          rw [htk] at hO
          have HOO := Lib.hid hO
          have HBB := Lib.hid hB
          obtain ⟨A', c', rfl, _⟩ := Own.slice hO
          clear hO hB htk
          go_wp2_with fail
          go_ret2
          have hF : Fresh w1 wr := HBB.out
          refine ⟨fun P' h => ?_, fun h => by cases h⟩
          cases h
          refine ⟨A', _, c', fs.filter (fun q => notFil q.1), rfl, ?_, ⟨HOO.out.base_le HW1.out, fun q hq => ?_⟩, ?_, HF.out.trans hF⟩
          · rw [← HMP.out, List.filter_map]; simp; rfl
          · obtain ⟨a, b⟩ := (FsOk.fresh HFS.out.2 hF) q (List.mem_filter.1 hq).1
            exact ⟨a, b⟩
          · rw [← HMP.out, List.filter_map]; rfl
    · have hR : R = none := by have := HO.out; simpa [hr] using this
      subst hR
      clear HO
      have hrl : 0 < r.length := by
        rcases r with _ | ⟨x, r⟩
        · exact absurd rfl hr
        · simp
      have hrl' : (0 : Int) < (r.length : Int) := by omega
      clear hr
      go_wp2_with fail
      go_ret2
      exact ⟨(fun P h => by cases h), fun _ => ⟨rfl, HF.out⟩⟩
end Go.Proofs.Ytpokpkijhakpjaa
