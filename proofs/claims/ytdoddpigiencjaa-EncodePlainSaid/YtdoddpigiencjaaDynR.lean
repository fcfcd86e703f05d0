/-
  Texts laid together: Dyn7 Dyn8 Dyn9.
-/
import Derived.Test.YtdoddpigiencjaaDyn6
import Derived.Test.YtdoddpigiencjaaShape
import Derived.Test.YtdoddpigiencjaaChain
/-
  The document's Size and Resize of a list of fields.
-/
namespace Go.Proofs.Ytdoddpigiencjaa
set_option linter.unusedVariables false
set_option linter.unusedSimpArgs false
open Go.RowKit
theorem Many.atD2 {w : World} {A : Option Addr} {xs : List FldT} (h : Many fldD 2 w A xs) (k : Nat) (x : FldT) (hx : xs[k]? = some x) :
    ∃ b o, A = some ⟨b, o, none⟩ ∧ b < w.heap.size ∧ w.cell? ⟨b, o + k * 2, none⟩ = some (.string x.1) ∧ w.cell? ⟨b, o + k * 2 + 1, none⟩ = some (.string x.2) := by
  obtain ⟨hk, rfl⟩ := List.getElem?_eq_some_iff.1 hx
  obtain ⟨b, o, e, hb, hc⟩ := h (by omega)
  exact ⟨b, o, e, hb, by have := hc k hk 0 (by omega); simpa [fldD] using this, by have := hc k hk 1 (by omega); simpa [fldD] using this⟩
theorem Many.takeD {w : World} {A : Option Addr} {xs : List FldT} (h : Many fldD 2 w A xs) (n : Nat) : Many fldD 2 w A (xs.take n) := by
  intro hn
  have hl : 0 < xs.length := by rw [List.length_take] at hn; omega
  obtain ⟨b, o, e, hb, hc⟩ := h hl
  refine ⟨b, o, e, hb, fun k hk j hj => ?_⟩
  rw [List.length_take] at hk
  rw [hc k (by omega) j hj, List.getElem_take]
theorem tz_take (xs : List FldT) (k : Nat) (f : FldT) (h : xs[k]? = some f) : tz (xs.take (k + 1)) = tz (xs.take k) + fz f := by
  obtain ⟨hk, rfl⟩ := List.getElem?_eq_some_iff.1 h
  rw [List.take_succ_eq_append_getElem hk, tz_append]
  simp [tz]
theorem tz_take_le (xs : List FldT) (k : Nat) : tz (xs.take k) ≤ tz xs := by
  have h := tz_append (xs.take k) (xs.drop k)
  rw [List.take_append_drop] at h
  omega
set_option maxRecDepth 100000 in
set_option maxHeartbeats 3200000 in
theorem rf_size (A : Option Addr) (c : Nat) (xs : List FldT) (w : World) (hm : Many fldD 2 w A xs) (hl : xs.length ≤ 1000000) (hz : tz xs ≤ 4503599627370496) :
    Calls Try.prog 59 #[.slice A xs.length c] w fun e w' => e = .returned (.int .i64 (tz xs : Int)) ∧ Fresh w w' := by
  have HM := Lib.hid hm
  have HZ := Lib.hid hz
  clear hm hz
  obtain ⟨n, hn⟩ : ∃ n, xs.length = n := ⟨_, rfl⟩
  rw [hn] at hl ⊢
  go_enter Try.func59, Try.ntmps59
  go_wp2
  go_loopw [3, 4] (fun s i wr => ∃ k : Nat, k ≤ n ∧ i = .int .i64 (k : Int) ∧ s = .int .i64 (tz (xs.take k) : Int) ∧ Fresh w wr) (fun s i _ => n - (intOf i).toNat)
  case atStart => exact ⟨0, by omega, rfl, rfl, Fresh.refl _⟩
  case round =>
    obtain ⟨k, hk, rfl, rfl, hf⟩ := hrel
    by_cases hlt : k < n
    · have hlt' : (k : Int) < (n : Int) := by omega
      obtain ⟨f, hfk⟩ : ∃ f, xs[k]? = some f := ⟨_, List.getElem?_eq_getElem (by omega)⟩
      obtain ⟨b, o, rfl, hb, h0, h1⟩ := HM.out.atD2 k f hfk
      have h0 := (hf.cell (p := ⟨b, o + k * 2, none⟩) hb).trans h0
      have h1 := (hf.cell (p := ⟨b, o + k * 2 + 1, none⟩) hb).trans h1
      have ht := tz_take xs k f hfk
      have hz2 := HZ.out
      have hz3 := tz_take_le xs (k + 1)
      have HT := Lib.hid ht
      have hfz : (fz f : Int) = (f.1.size : Int) + (f.2.size : Int) + 32 := by unfold fz; simp
      have e1 : IntKind.i64.wrap ((f.1.size : Int) + (f.2.size : Int)) = (f.1.size : Int) + (f.2.size : Int) := by rw [IntKind.wrap_i64]; omega
      have e2 : IntKind.i64.wrap ((f.1.size : Int) + (f.2.size : Int) + 32) = (fz f : Int) := by rw [IntKind.wrap_i64]; omega
      have e3 : IntKind.i64.wrap ((tz (xs.take k) : Int) + (fz f : Int)) = (tz (xs.take (k + 1)) : Int) := by rw [IntKind.wrap_i64]; omega
      have HF := Lib.hid hf
      clear ht hz2 hz3 hfz hf
      go_upto_region 5 with fail
      go_region_with fail
      all_goals
        go_wp2
        go_roundw
        case rel => exact ⟨k + 1, by omega, by go_num, rfl, HF.out.drewS⟩
        case measure => simp [intOf]; omega
    · have hlt' : ¬ (k : Int) < (n : Int) := by omega
      obtain rfl : k = n := by omega
      have HF := Lib.hid hf
      clear hf
      go_wp2
      go_ret
      exact ⟨by rw [← hn, List.take_length]; rfl, HF.out⟩
end Go.Proofs.Ytdoddpigiencjaa

/-
  The document's Resize and Add of a list of fields.
-/
namespace Go.Proofs.Ytdoddpigiencjaa
set_option linter.unusedVariables false
set_option linter.unusedSimpArgs false
open Go.RowKit
def lenV (v : Value) : Nat := match v with
  | .slice _ n _ => n
  | _ => 0
theorem tz_reverse (l : List FldT) : tz l.reverse = tz l := by
  simp [tz, List.sum_reverse]
theorem take_rev (fs : List FldT) (k : Nat) : fs.reverse.take (fs.length - k) = (fs.drop k).reverse := by
  rw [List.reverse_drop]
theorem wrap_e64 (n : Int) : IntKind.i64.wrap n = wrap64 n := by
  unfold wrap64
  exact IntKind.wrap_i64 n
/-- The rows of the newest first. -/
theorem rf_sizeR (A : Option Addr) (c : Nat) (fs : List FldT) (k m : Nat) (w : World) (hm : Many fldD 2 w A fs.reverse) (hl : fs.length ≤ 1000000) (hz : tz fs ≤ 4503599627370496) (hk : fs.length - k = m) :
    Calls Try.prog 59 #[.slice A m c] w fun e w' => e = .returned (.int .i64 (tz (fs.drop k) : Int)) ∧ Fresh w w' := by
  have h := rf_size A c (fs.reverse.take m) w (hm.takeD m) (by simp; omega) (Nat.le_trans (tz_take_le _ _) (by rw [tz_reverse]; exact hz))
  rw [← hk, take_rev, tz_reverse, List.length_reverse, List.length_drop, hk] at h
  exact h
set_option maxRecDepth 100000 in
set_option maxHeartbeats 3200000 in
theorem rf_resize (A : Option Addr) (c : Nat) (fs : List FldT) (lim : Int) (w : World) (hm : Many fldD 2 w A fs.reverse) (hle : fs.length ≤ c) (hcm : c ≤ maxLen) (hl : fs.length ≤ 1000000) (hz : tz fs ≤ 4503599627370496) :
    Calls Try.prog 37 #[.slice A fs.length c, .int .i64 lim] w fun e w' => e = .returned (.slice A (fs.length - goneN fs lim) c) ∧ Fresh w w' := by
  have HM := Lib.hid hm
  have HZ := Lib.hid hz
  simp only [maxLen] at hcm
  obtain ⟨n, hn⟩ : ∃ n, fs.length = n := ⟨_, rfl⟩
  have HSZ := Lib.hid (fun (k m : Nat) (W : World) (hf : Fresh w W) (hk : n - k = m) => rf_sizeR A c fs k m W (hm.fresh hf) hl hz (by rw [hn]; exact hk))
  rw [hn] at hl hle ⊢
  clear hm hz
  go_enter Try.func37, Try.ntmps37
  go_wp2
  go_loopw [0] (fun v wr => ∃ k : Nat, k ≤ n ∧ v = .slice A (n - k) c ∧ goneN fs lim = k + goneN (fs.drop k) lim ∧ Fresh w wr) (fun v _ => lenV v)
  case atStart => exact ⟨0, by omega, rfl, by simp, Fresh.refl _⟩
  case round =>
    obtain ⟨k, hk, rfl, hg, hf⟩ := hrel
    have HG := Lib.hid hg
    have HF := Lib.hid hf
    by_cases hlt : k < n
    · obtain ⟨m, hm⟩ : ∃ m, n - k = m + 1 := ⟨n - k - 1, by omega⟩
      have hpos : (0 : Int) < ((m + 1 : Nat) : Int) := by omega
      obtain ⟨f, r, hfr⟩ : ∃ f r, fs.drop k = f :: r := by
        cases hd : fs.drop k with
        | nil => have := List.drop_eq_nil_iff.1 hd; omega
        | cons f r => exact ⟨f, r, rfl⟩
      have hc := HSZ.out k (m + 1) wr hf hm
      rw [hfr] at hc
      have HC := Lib.hid hc
      have HMM := Lib.hid hm
      have HFR := Lib.hid hfr
      rw [hm]
      clear hg hf hm hc hfr
      obtain ⟨b, o, rfl, hb, _⟩ := HM.out (by rw [List.length_reverse]; omega)
      go_wp2_with fail
      with_reducible refine HC.out.mono ?_
      rintro e w1 ⟨rfl, hf1⟩
      have HF1 := Lib.hid (HF.out.trans hf1)
      clear hf1
      by_cases hroom : lim < (tz (f :: r) : Int)
      · have HR := Lib.hid (goneN_step fs lim k f r HFR.out hroom HG.out)
        have hmn : m + 1 ≤ n := by have := HMM.out; omega
        have e1 : wrap64 (m : Int) = (m : Int) := by rw [← wrap_e64, IntKind.wrap_i64]; omega
        have hmc : m ≤ c := by omega
        go_wp2
        go_roundw
        case rel => exact ⟨k + 1, by omega, by have := HMM.out; rw [show n - (k + 1) = m by omega], by rw [HR.out.1], HF1.out⟩
        case measure => simp [lenV]
      · have HR : Hid (goneN fs lim = k) := Lib.hid (by rw [HG.out, HFR.out, goneN_stop _ _ (by omega)]; rfl)
        go_wp2
        go_ret
        exact ⟨by rw [HR.out, HMM.out]; rfl, HF1.out⟩
    · obtain rfl : k = n := by omega
      have HR : Hid (goneN fs lim = k) := Lib.hid (by rw [HG.out, List.drop_of_length_le (by omega)]; rfl)
      rw [Nat.sub_self]
      clear hg hf
      go_wp2
      go_ret
      exact ⟨by rw [HR.out, Nat.sub_self]; rfl, HF.out⟩
end Go.Proofs.Ytdoddpigiencjaa

/-
  The document's Add to a list of fields.
-/
namespace Go.Proofs.Ytdoddpigiencjaa
set_option linter.unusedVariables false
set_option linter.unusedSimpArgs false
open Go.RowKit
theorem pr_info : (Try.prog.info? 77).map (fun i => (i.zero, i.size, i.bytes)) = some (some (.agg #[.string ByteArray.empty, .string ByteArray.empty]), 2, 32) := by kernel_rfl
theorem pr_push {w : World} {base : Nat} {v : Value} {fs : List FldT} (h : Own w base 77 2 v fs.length (rowD fs)) (hb : base ≤ w.heap.size) (f : FldT) (hn : (fs.length + 1) * 32 ≤ 140737488355328) (g : Nat) (hg : w.heap.size = g) :
    ∃ A' c' w', (Builtin.append_ #[47, 47] 47 #[v, .slice (some ⟨g, 0, none⟩) 1 1]).run Try.prog (w.alloc (.cells #[.string f.1, .string f.2] 77)) = .ok (.slice A' (fs.length + 1) c') w' ∧ Own w' base 77 2 (.slice A' (fs.length + 1) c') (fs ++ [f]).length (rowD (fs ++ [f])) ∧ Only (fun k => v.ownBlock = some k) w w' ∧
      (∀ k, (Value.slice A' (fs.length + 1) c').ownBlock = some k → v.ownBlock = some k ∨ w.heap.size < k) := by
  subst hg
  obtain ⟨i, hi, hiz, his, hib⟩ := info_parts pr_info
  obtain ⟨v', w', hr, ho, hgr, _, hat⟩ := run_append_own_at (P := Try.prog) (w.alloc (.cells #[.string f.1, .string f.2] 77)) base 47 47 77 i _ 2 32 Try.underlying47 hi hiz his hib rfl (by omega) v fs.length _ (h.fresh (Fresh.alloc _ _)) ⟨w.heap.size, 0, none⟩ 1 1 [.string f.1, .string f.2] rfl
    (fun j u hj => by
      rw [add_eq _ _ rfl]
      simp only [Nat.zero_add]
      rw [(Blk.new w 77 #[.string f.1, .string f.2]).cell]
      simpa using hj) (by
    intro u hu
    simp only [List.mem_cons, List.not_mem_nil, or_false] at hu
    rcases hu with rfl | rfl <;> rfl) (by unfold maxLen; omega) hn (by simp; omega)
  obtain ⟨A', c', rfl, _⟩ := Own.slice (show Own w' base _ 2 v' _ _ from ho)
  have hO : Only (fun k => v.ownBlock = some k) (w.alloc (.cells #[.string f.1, .string f.2] 77)) w' := ⟨hgr.os, hgr.tape, hgr.output, hgr.size, fun k hk hne => hgr.block k hk (fun e => hne e.symm)⟩
  have hO2 : Only (fun k => v.ownBlock = some k) w w' := (Only.of_fresh (Fresh.alloc _ _)).trans hO
  refine ⟨A', c', w', hr, ?_, hO2, fun k hk => ?_⟩
  · have : Own w' base 77 2 (.slice A' (fs.length + 1) c') (fs.length + 1) _ := ho
    simpa [rowD, fldD] using this
  · rcases hat with e | e
    · rw [e] at hk; exact .inl hk
    · rw [e] at hk; simp at hk; right; omega
theorem own_many {w : World} {base n c : Nat} {E : TypeId} {A : Option Addr} {xs : List FldT} (h : Own w base E 2 (.slice A n c) n (rowD xs)) : Many fldD 2 w A xs := by
  intro hn
  have hl := h.length
  rw [rowD_length] at hl
  rcases h.form with ⟨_, h0, _⟩ | ⟨g, cap, e, hb, hlt, _, _, hc⟩
  · omega
  · injection e with e1
    refine ⟨g, 0, e1, hlt, fun k hk j hj => ?_⟩
    obtain ⟨r0, r1⟩ := rowD_at (List.getElem?_eq_getElem hk)
    have hj' : j = 0 ∨ j = 1 := by omega
    rcases hj' with rfl | rfl
    · rw [Nat.zero_add, Nat.add_zero, (hc _ (by rw [rowD_length]; omega)).1, r0]; rfl
    · rw [Nat.zero_add, (hc _ (by rw [rowD_length]; omega)).1, r1]; rfl
theorem goneN_neg (l : List FldT) (room : Int) (h : room < 0) : goneN l room = l.length := by
  induction l with
  | nil => rfl
  | cons f r ih => rw [goneN, if_pos (by omega), ih]; rfl
theorem addF_no (fs : List FldT) (lim : Int) (f : FldT) (h : lim < (fz f : Int)) : addF fs lim f = [] := by
  unfold addF
  rw [if_neg (by omega), goneN_neg _ _ (by omega), List.drop_length]
/-- A row of pairs lies in a block of its own type. -/
def PrRow (w : World) (A : Option Addr) (n : Nat) : Prop := 0 < n → ∃ g cs, A = some ⟨g, 0, none⟩ ∧ Blk w g 77 cs
theorem PrRow.nil (w : World) (A : Option Addr) : PrRow w A 0 := fun h => absurd h (by omega)
theorem PrRow.fresh {w w' : World} {A : Option Addr} {n : Nat} (h : PrRow w A n) (hf : Fresh w w') : PrRow w' A n := fun hn => by
  obtain ⟨g, cs, e, hb⟩ := h hn
  exact ⟨g, cs, e, hb.fresh hf⟩
theorem PrRow.of {w : World} {base n c : Nat} {A : Option Addr} {xs : List Value} (h : Own w base 77 2 (.slice A (n + 1) c) (n + 1) xs) (m : Nat) : PrRow w A m := fun _ => by
  obtain ⟨g, e, _, _, _, _, cur, hb⟩ := h.pos (Nat.succ_pos n)
  exact ⟨g, cur, e, hb⟩
set_option maxRecDepth 100000 in
set_option maxHeartbeats 6400000 in
theorem rf_add (A : Option Addr) (c : Nat) (fs : List FldT) (lim : Int) (f : FldT) (w : World) (hm : Many fldD 2 w A fs.reverse) (hle : fs.length ≤ c) (hcm : c ≤ maxLen) (hl : fs.length ≤ 1000000) (hz : tz fs + fz f ≤ 4503599627370496) :
    Calls Try.prog 40 #[.slice A fs.length c, .int .i64 lim, .agg #[.string f.1, .string f.2]] w fun e w' => ∃ A' c', e = .returned (.slice A' (addF fs lim f).length c') ∧ (addF fs lim f).length ≤ c' ∧ c' ≤ maxLen ∧ Many fldD 2 w' A' (addF fs lim f).reverse ∧ PrRow w' A' (addF fs lim f).length ∧ Fresh w w' := by
  have HM := Lib.hid hm
  have HZ := Lib.hid hz
  simp only [maxLen] at hcm
  obtain ⟨n, hn⟩ : ∃ n, fs.length = n := ⟨_, rfl⟩
  have HSZ := Lib.hid (fun (k m : Nat) (W : World) (hf : Fresh w W) (hk : n - k = m) => rf_sizeR A c fs k m W (hm.fresh hf) hl (by omega) (by rw [hn]; exact hk))
  rw [hn] at hl hle ⊢
  have HNN := Lib.hid hn
  have HLL : Hid (fs.length ≤ 1000000) := Lib.hid (by rw [hn]; exact hl)
  clear hm hz
  go_enter Try.func40, Try.ntmps40
  go_wp2
  refine wp_gen (fun W => Fresh w W ∧ Blk W w.heap.size 77 #[.string f.1, .string f.2] ∧ Blk W (w.heap.size + 1) 77 #[.string f.1, .string f.2]) ⟨(Fresh.alloc _ _).allocS _, (Blk.new _ _ _).alloc _, Blk.mkAt (by simp)⟩ ?_
  rintro W1 ⟨hw1, hb1, hb2⟩
  have HW1 := Lib.hid hw1
  have HB1 := Lib.hid hb1
  have HON : Hid (∀ W, Fresh W1 W → Calls Try.prog 59 #[.slice (some ⟨w.heap.size + 1, 0, none⟩) 1 1] W fun e w' => e = .returned (.int .i64 (fz f : Int)) ∧ Fresh W w') := Lib.hid (fun W hf => by
    have hm1 : Many fldD 2 W (some ⟨w.heap.size + 1, 0, none⟩) [f] := fun _ => ⟨_, 0, rfl, (hb2.fresh hf).lt, fun k hk j hj => by
      obtain rfl : k = 0 := by simpa using hk
      rw [(hb2.fresh hf).cell]
      have hj' : j = 0 ∨ j = 1 := by omega
      rcases hj' with rfl | rfl <;> rfl⟩
    have h := rf_size (some ⟨w.heap.size + 1, 0, none⟩) 1 [f] W hm1 (by simp) (by have := HZ.out; simp [tz]; omega)
    simpa [tz] using h)
  clear hw1 hb1 hb2
  obtain ⟨room, hroomd⟩ : ∃ room, lim - (fz f : Int) = room := ⟨_, rfl⟩
  have HRM := Lib.hid hroomd
  clear hroomd
  go_loopw [0] (fun v wr => ∃ k : Nat, k ≤ n ∧ v = .slice A (n - k) c ∧ goneN fs room = k + goneN (fs.drop k) room ∧ Fresh W1 wr) (fun v _ => lenV v)
  case atStart => exact ⟨0, by omega, rfl, by simp, Fresh.refl _⟩
  case round =>
    obtain ⟨k, hk, rfl, hg, hf⟩ := hrel
    have HG := Lib.hid hg
    have HF := Lib.hid hf
    by_cases hlt : k < n
    · obtain ⟨m, hm⟩ : ∃ m, n - k = m + 1 := ⟨n - k - 1, by omega⟩
      have hpos : (0 : Int) < ((m + 1 : Nat) : Int) := by omega
      obtain ⟨f', r, hfr⟩ : ∃ f r, fs.drop k = f :: r := by
        cases hd : fs.drop k with
        | nil => have := List.drop_eq_nil_iff.1 hd; omega
        | cons f r => exact ⟨f, r, rfl⟩
      have hc := HSZ.out k (m + 1) wr (HW1.out.trans hf) hm
      rw [hfr] at hc
      have HC := Lib.hid hc
      have HMM : Hid (fs.length - k = m + 1) := Lib.hid (by rw [hn]; exact hm)
      have HFR := Lib.hid hfr
      have hzr : tz (f' :: r) ≤ tz fs := by rw [← hfr]; exact tz_drop fs k
      have hwr : IntKind.i64.wrap ((tz (f' :: r) : Int) + (fz f : Int)) = (tz (f' :: r) : Int) + (fz f : Int) := by have := HZ.out; rw [IntKind.wrap_i64]; omega
      rw [hm]
      clear hg hf hm hc hfr hzr
      go_wp2_with fail
      with_reducible refine HC.out.mono ?_
      rintro e w1 ⟨rfl, hf1⟩
      have HF0 := Lib.hid (HF.out.trans hf1)
      clear hf1
      go_wp2_with fail
      with_reducible refine (HON.out _ HF0.out).mono ?_
      rintro e w2 ⟨rfl, hf2⟩
      have HF1 := Lib.hid (HF0.out.trans hf2)
      clear hf2
      by_cases hroom : lim < (tz (f' :: r) : Int) + (fz f : Int)
      · have HR := Lib.hid (goneN_step fs room k f' r HFR.out (by have := HRM.out; omega) HG.out)
        obtain ⟨b, o, rfl, hb, _⟩ := HM.out (by rw [List.length_reverse]; omega)
        have hmn : m + 1 ≤ n := by have := HMM.out; omega
        have hmc : m ≤ c := by omega
        go_upto_region 3 with fail
        clear hwr
        have e1 : wrap64 (m : Int) = (m : Int) := by rw [← wrap_e64, IntKind.wrap_i64]; omega
        clear hcm hl hle hpos hk hlt hmn hb
        go_wp2
        clear e1
        go_roundw
        case rel => exact ⟨k + 1, by have := HMM.out; have := HNN.out; omega, by have := HMM.out; have := HNN.out; rw [show n - (k + 1) = m by omega], by rw [HR.out.1], HF1.out⟩
        case measure => simp [lenV]
      · have HR : Hid (goneN fs (lim - (fz f : Int)) = k) := Lib.hid (by rw [HRM.out, HG.out, HFR.out, goneN_stop _ _ (by have := HRM.out; omega)]; rfl)
        go_upto_region 4 with fail
        clear hwr
        try clear hpos
        clear hcm hl hle hk hlt
        by_cases hfit : lim < (fz f : Int)
        · have HAD : Hid (addF fs lim f = []) := Lib.hid (addF_no fs lim f (by omega))
          go_wp2_with fail
          with_reducible refine (HON.out _ HF1.out).mono ?_
          rintro e w3 ⟨rfl, hf3⟩
          have HF3 := Lib.hid (HW1.out.trans (HF1.out.trans hf3))
          clear hf3
          go_wp2
          go_ret
          rw [HAD.out]
          exact ⟨none, 0, rfl, by simp, by simp [maxLen], Many.nil _ _ _ _, PrRow.nil _ _, HF3.out⟩
        · have HAD : Hid (addF fs lim f = fs.drop k ++ [f]) := Lib.hid (by unfold addF; rw [if_pos (by omega), HR.out])
          go_wp2_with fail
          with_reducible refine (HON.out _ HF1.out).mono ?_
          rintro e w3 ⟨rfl, hf3⟩
          have HF3 := Lib.hid (HF1.out.trans hf3)
          clear hf3
          have HB3 := Lib.hid (HB1.out.fresh HF3.out)
          obtain ⟨x0, x1⟩ := HB3.out.c2
          obtain ⟨A7, c7, w7, hap, hO7, hF7, hat7⟩ := pr_push (w := w3) (base := w.heap.size + 1) (v := .slice none 0 0) (fs := []) (Own.nil _ _ _ _) (by have := HB3.out.lt; omega) f (by simp) w3.heap.size rfl
          have hb7 := HB3.out.only hF7 (fun e => by cases e)
          have HX7 := Lib.hid (And.intro hO7 hb7)
          have HF7 : Hid (Fresh w w7) := Lib.hid ((HW1.out.trans HF3.out).trans (hF7.fresh (fun q _ e => by cases e)))
          clear hO7 hF7 hat7 hb7
          go_wp2_with (at_builtin; with_reducible refine wp_app rfl (.tmp 33) (.tmp 35) _ rfl hap rfl rfl rfl ?_)
          clear hap x0 x1
          go_loopw [8, 9] (fun v i wr => ∃ (j : Nat) (A' : Option Addr) (c' : Nat), j ≤ (m + 1) ∧ i = .int .i64 (j : Int) ∧ v = .slice A' (j + 1) c' ∧ Own wr (w.heap.size + 1) 77 2 (.slice A' (j + 1) c') (j + 1) (rowD (f :: (fs.drop k).reverse.take j)) ∧ Blk wr w.heap.size 77 #[.string f.1, .string f.2] ∧ Fresh w wr) (fun v i _ => (m + 1) - (intOf i).toNat)
          case atStart => exact ⟨0, A7, c7, by omega, rfl, rfl, by simpa using HX7.out.1, HX7.out.2, HF7.out⟩
          case round =>
            obtain ⟨j, A8, c8, hj, rfl, rfl, ho, hb, hf⟩ := hrel
            have HO := Lib.hid ho
            have HBB := Lib.hid hb
            have HFF := Lib.hid hf
            by_cases hlt2 : j < (m + 1)
            · have HJ := Lib.hid hlt2
              have hlt' : (j : Int) < (((m + 1) : Nat) : Int) := by omega
              obtain ⟨y, hy⟩ : ∃ y, fs.reverse[j]? = some y := ⟨_, List.getElem?_eq_getElem (by rw [List.length_reverse]; have := HMM.out; omega)⟩
              have hy2 : (fs.drop k).reverse[j]? = some y := by
                rw [← take_rev, List.getElem?_take_of_lt (by have := HMM.out; omega)]
                exact hy
              obtain ⟨bx, ox, hA, hbx, hy0, hy1⟩ := HM.out.atD2 j y hy
              subst hA
              have hy0 := (hf.cell (p := ⟨bx, ox + j * 2, none⟩) hbx).trans hy0
              have hy1 := (hf.cell (p := ⟨bx, ox + j * 2 + 1, none⟩) hbx).trans hy1
              have hsz := hf.size
              have hbl := hb.lt
              have hlen : (f :: (fs.drop k).reverse.take j).length = j + 1 := by
                rw [List.length_cons, List.length_take, List.length_reverse, List.length_drop]
                have := HMM.out
                omega
              obtain ⟨A9, c9, w9, hap, hO9, hF9, hat9⟩ := pr_push (w := wr) (base := w.heap.size + 1) (v := .slice A8 (j + 1) c8) (fs := f :: (fs.drop k).reverse.take j) (by rw [hlen]; exact ho) (by omega) y (by rw [hlen]; have := HMM.out; have := HLL.out; omega) wr.heap.size rfl
              rw [hlen] at hap hat9
              have hb9 := hb.only hF9 (fun e => by have := (Own.lt ho _ e).1; omega)
              have hf9 : Fresh w w9 := Below.trans hf (Only.below hF9 hf.size (fun q e => by have := (Own.lt ho _ e).1; omega))
              have htk : f :: (fs.drop k).reverse.take (j + 1) = (f :: (fs.drop k).reverse.take j) ++ [y] := by
                obtain ⟨hq, rfl⟩ := List.getElem?_eq_some_iff.1 hy2
                rw [List.take_succ_eq_append_getElem hq]
                rfl
              have HX9 := Lib.hid (And.intro hO9 (And.intro hb9 (And.intro hf9 (And.intro htk hlen))))
              clear ho hb hf hO9 hF9 hat9 hb9 hf9 htk hlen hy hy2 hsz hbl
              have hj6 : j ≤ 1000000 := by have := HJ.out; have := HMM.out; have := HLL.out; omega
              go_wp2_with (at_builtin; with_reducible refine wp_app rfl (.tmp 43) (.tmp 48) _ rfl hap rfl rfl rfl ?_)
              go_roundw
              case rel =>
                obtain ⟨g1, g2, g3, g4, g5⟩ := HX9.out
                refine ⟨j + 1, A9, c9, by have := HJ.out; omega, by go_num, rfl, ?_, g2, g3⟩
                rw [g4]
                rw [List.length_append, g5] at g1
                exact g1
              case measure => have := HJ.out; simp [intOf]; omega
            · have hjm : j = (m + 1) := by omega
              subst hjm
              have hlt' : ¬ (((m + 1) : Nat) : Int) < (((m + 1) : Nat) : Int) := by omega
              have hrv : f :: (fs.drop k).reverse.take ((m + 1)) = (fs.drop k ++ [f]).reverse := by
                rw [List.take_of_length_le (by rw [List.length_reverse, List.length_drop]; have := HMM.out; omega)]
                simp
              rw [hrv] at ho
              have hol := own_many ho
              have hsl := ho.slice
              have hpr : PrRow wr A8 (fs.drop k ++ [f]).length := PrRow.of ho _
              have hlen : (fs.drop k ++ [f]).length = (m + 1) + 1 := by
                rw [List.length_append, List.length_drop]
                have := HMM.out
                simp
                omega
              have HX9 := Lib.hid (And.intro hol (And.intro hsl (And.intro hlen hpr)))
              clear ho hb hf hrv hol hsl hlen hpr
              go_wp2
              go_ret
              obtain ⟨g1, ⟨A', c', e, g2, g3, _⟩, g4, g5⟩ := HX9.out
              injection e with e1 e2 e3
              rw [HAD.out]; rw [g4] at g5 ⊢
              exact ⟨A8, c8, rfl, by rw [e3]; exact g2, by rw [e3]; exact g3, g1, g5, HFF.out⟩
    · obtain rfl : k = n := by omega
      have HR : Hid (goneN fs (lim - (fz f : Int)) = k) := Lib.hid (by rw [HRM.out, HG.out, List.drop_of_length_le (by omega)]; rfl)
      have HMM : Hid (fs.length - k = 0) := Lib.hid (by omega)
      have HF1 := HF
      rw [Nat.sub_self]
      clear hg hf
      try clear hpos
      clear hcm hl hle hk hlt
      by_cases hfit : lim < (fz f : Int)
      · have HAD : Hid (addF fs lim f = []) := Lib.hid (addF_no fs lim f (by omega))
        go_wp2_with fail
        with_reducible refine (HON.out _ HF1.out).mono ?_
        rintro e w3 ⟨rfl, hf3⟩
        have HF3 := Lib.hid (HW1.out.trans (HF1.out.trans hf3))
        clear hf3
        go_wp2
        go_ret
        rw [HAD.out]
        exact ⟨none, 0, rfl, by simp, by simp [maxLen], Many.nil _ _ _ _, PrRow.nil _ _, HF3.out⟩
      · have HAD : Hid (addF fs lim f = fs.drop k ++ [f]) := Lib.hid (by unfold addF; rw [if_pos (by omega), HR.out])
        go_wp2_with fail
        with_reducible refine (HON.out _ HF1.out).mono ?_
        rintro e w3 ⟨rfl, hf3⟩
        have HF3 := Lib.hid (HF1.out.trans hf3)
        clear hf3
        have HB3 := Lib.hid (HB1.out.fresh HF3.out)
        obtain ⟨x0, x1⟩ := HB3.out.c2
        obtain ⟨A7, c7, w7, hap, hO7, hF7, hat7⟩ := pr_push (w := w3) (base := w.heap.size + 1) (v := .slice none 0 0) (fs := []) (Own.nil _ _ _ _) (by have := HB3.out.lt; omega) f (by simp) w3.heap.size rfl
        have hb7 := HB3.out.only hF7 (fun e => by cases e)
        have HX7 := Lib.hid (And.intro hO7 hb7)
        have HF7 : Hid (Fresh w w7) := Lib.hid ((HW1.out.trans HF3.out).trans (hF7.fresh (fun q _ e => by cases e)))
        clear hO7 hF7 hat7 hb7
        go_wp2_with (at_builtin; with_reducible refine wp_app rfl (.tmp 33) (.tmp 35) _ rfl hap rfl rfl rfl ?_)
        clear hap x0 x1
        go_loopw [8, 9] (fun v i wr => ∃ (j : Nat) (A' : Option Addr) (c' : Nat), j ≤ 0 ∧ i = .int .i64 (j : Int) ∧ v = .slice A' (j + 1) c' ∧ Own wr (w.heap.size + 1) 77 2 (.slice A' (j + 1) c') (j + 1) (rowD (f :: (fs.drop k).reverse.take j)) ∧ Blk wr w.heap.size 77 #[.string f.1, .string f.2] ∧ Fresh w wr) (fun v i _ => 0 - (intOf i).toNat)
        case atStart => exact ⟨0, A7, c7, by omega, rfl, rfl, by simpa using HX7.out.1, HX7.out.2, HF7.out⟩
        case round =>
          obtain ⟨j, A8, c8, hj, rfl, rfl, ho, hb, hf⟩ := hrel
          have HO := Lib.hid ho
          have HBB := Lib.hid hb
          have HFF := Lib.hid hf
          by_cases hlt2 : j < 0
          · exact absurd hlt2 (Nat.not_lt_zero _)
          · have hjm : j = 0 := by omega
            subst hjm
            have hlt' : ¬ ((0 : Nat) : Int) < ((0 : Nat) : Int) := by omega
            have hrv : f :: (fs.drop k).reverse.take (0) = (fs.drop k ++ [f]).reverse := by
              rw [List.take_of_length_le (by rw [List.length_reverse, List.length_drop]; have := HMM.out; omega)]
              simp
            rw [hrv] at ho
            have hol := own_many ho
            have hsl := ho.slice
            have hpr : PrRow wr A8 (fs.drop k ++ [f]).length := PrRow.of ho _
            have hlen : (fs.drop k ++ [f]).length = 0 + 1 := by
              rw [List.length_append, List.length_drop]
              have := HMM.out
              simp
              omega
            have HX9 := Lib.hid (And.intro hol (And.intro hsl (And.intro hlen hpr)))
            clear ho hb hf hrv hol hsl hlen hpr
            go_wp2
            go_ret
            obtain ⟨g1, ⟨A', c', e, g2, g3, _⟩, g4, g5⟩ := HX9.out
            injection e with e1 e2 e3
            rw [HAD.out]; rw [g4] at g5 ⊢
            exact ⟨A8, c8, rfl, by rw [e3]; exact g2, by rw [e3]; exact g3, g1, g5, HFF.out⟩
end Go.Proofs.Ytdoddpigiencjaa

