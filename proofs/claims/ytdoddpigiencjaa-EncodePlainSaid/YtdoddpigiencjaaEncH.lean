/-
  Layer 8: lines that come in; small; a fixed answer.
-/
import Derived.Test.YtdoddpigiencjaaEncO
import Derived.Test.YtdoddpigiencjaaEncM
import Derived.Lib.SlBytesConst
namespace Go.Proofs.Ytdoddpigiencjaa
set_option maxRecDepth 100000
set_option linter.unusedVariables false
set_option linter.unusedSimpArgs false
open Go.RowKit Go.ChangeShapes Go.WideShapes Go.Deep
theorem opens_fieldL : OpensW Try.prog 26 (fun w cs => ∃ s0 s1 : ByteArray, cs = [.string s0, .string s1] ∧ s0.size ≤ 140737488351232 ∧ s1.size ≤ 140737488351232) :=
  (opensW_struct (sz := 2) [(0, 1, QStrW), (1, 1, QStrW)] Try.underlying26 (by kernel_rfl) (by
    intro p hp
    simp only [List.mem_cons, List.not_mem_nil, or_false] at hp
    rcases hp with rfl | rfl
    · exact ⟨0, _, rfl, rfl, by kernel_rfl, opensW_str Try.underlying9⟩
    · exact ⟨1, _, rfl, rfl, by kernel_rfl, opensW_str Try.underlying9⟩)).mono (by
    intro w cs ⟨hl, h⟩
    match cs, hl with
    | [c0, c1], _ =>
      obtain ⟨s0, e0, l0⟩ := h _ (List.mem_cons_self ..)
      obtain ⟨s1, e1, l1⟩ := h _ (List.mem_cons_of_mem _ (List.mem_cons_self ..))
      simp at e0 e1
      subst e0 e1
      exact ⟨s0, s1, rfl, l0, l1⟩)
structure Ln.Ok (x : Ln) : Prop where
  n0 : x.n.length ≤ 140737488351232
  v0 : x.v.length ≤ 140737488351232
theorem opens_ln : OpensW Try.prog 28 (fun w cs => ∃ x : Ln, cs = x.cells ∧ x.Ok) :=
  (opensW_struct (sz := 3) [(0, 2, fun w cs => ∃ s0 s1 : ByteArray, cs = [.string s0, .string s1] ∧ s0.size ≤ 140737488351232 ∧ s1.size ≤ 140737488351232), (2, 1, QBool)] Try.underlying28 (by kernel_rfl) (by
    intro p hp
    simp only [List.mem_cons, List.not_mem_nil, or_false] at hp
    rcases hp with rfl | rfl
    · exact ⟨0, _, rfl, rfl, by kernel_rfl, opens_fieldL⟩
    · exact ⟨1, _, rfl, rfl, by kernel_rfl, (opens_bool Try.underlying4).w⟩)).mono (by
    intro w cs ⟨hl, h⟩
    match cs, hl with
    | [c0, c1, c2], _ =>
      obtain ⟨s0, s1, e0, l0, l1⟩ := h _ (List.mem_cons_self ..)
      obtain ⟨b, e1⟩ := h _ (List.mem_cons_of_mem _ (List.mem_cons_self ..))
      simp at e0 e1
      obtain ⟨rfl, rfl⟩ := e0
      subst e1
      exact ⟨⟨s0.data.toList, s1.data.toList, b⟩, rfl, by simpa using l0, by simpa using l1⟩)
structure LnsV where
  (A : Option Addr) (c : Nat) (xs : List Ln)
structure LnsV.Ok (w : World) (s : LnsV) : Prop where
  le : s.xs.length ≤ s.c
  max : s.c * 40 ≤ 140737488351232
  rows : Many Ln.cells 3 w s.A s.xs
  ok : ∀ x ∈ s.xs, x.Ok
section
variable {H : Type} {enc : TypeId × Value → H} {w : World} {base : Nat} {held : Bool} {v : Value} {d : DataW H} {p : List MemPlace} {r : Reach} {b0 : Nat}
theorem open_lns (hv : Value.okWide Try.prog w r b0 22 v) (hd : DataW.Trod enc Try.prog w base (fun _ => true) held 22 v d p) (hw : ∀ m ∈ d.weights Try.prog 22, m ≤ reachBytes) :
    ∃ s : LnsV, v = .slice s.A s.xs.length s.c ∧ s.Ok w := by
  have h := (opensW_slice (sz := 3) (bytes := 40) Try.underlying22 opens_ln (by kernel_rfl) (by omega) (by kernel_rfl)).sl Try.underlying22 hv hd hw
  obtain ⟨A, xs, c, e, h1, _, h2, h3, h4⟩ := h.many (R := fun _ (x : Ln) => x.Ok) (f := Ln.cells) (fun _ hq => hq)
  simp at e
  exact ⟨⟨A, c, xs⟩, e, h1, h2, h3, h4⟩
end
/-- Lines that may be gone through. -/
def SmallL (xs : List Ln) : Prop := xs.length ≤ 60 ∧ ∀ x ∈ xs, x.n.length ≤ 600 ∧ x.v.length ≤ 600
set_option maxHeartbeats 3200000 in
theorem en_small (A : Option Addr) (c : Nat) (xs : List Ln) (w : World) (hm : Many Ln.cells 3 w A xs) (hn : xs.length ≤ 140737488351232) (hok : ∀ x ∈ xs, x.Ok) :
    Calls Try.prog 8 #[.slice A xs.length c] w fun e w' => ∃ b : Bool, e = .returned (.bool b) ∧ (b = true → SmallL xs) ∧ Fresh w w' := by
  have HMY := Lib.hid hm
  have HOK := Lib.hid hok
  obtain ⟨n, hxn⟩ : ∃ n, xs.length = n := ⟨_, rfl⟩
  have HN := Lib.hid hxn
  rw [hxn] at hn ⊢
  clear hm hok hxn
  go_enter Try.func8, Try.ntmps8
  go_wp2
  go_loopw [3, 8] (fun s i wr => ∃ (k t : Nat), k ≤ n ∧ i = .int .i64 (k : Int) ∧ s = .int .i64 (t : Int) ∧ 10 * k ≤ t ∧ t ≤ 600 ∧ (∀ j (hj : j < xs.length), j < k → (xs[j]).n.length ≤ 600 ∧ (xs[j]).v.length ≤ 600) ∧ Fresh w wr) (fun _ i _ => n - (intOf i).toNat)
  case atStart => exact ⟨0, 0, by omega, rfl, rfl, by omega, by omega, fun j _ h => by omega, Fresh.refl _⟩
  case round =>
    obtain ⟨k, t, hk, rfl, rfl, ht1, ht2, hsm, hf⟩ := hrel
    have HSM := Lib.hid hsm
    have HF := Lib.hid hf
    clear hsm hf
    by_cases hlt : k < n
    · have hlt' : (k : Int) < (n : Int) := by omega
      have h0 : (0 : Int) ≤ (k : Int) := by omega
      have hkx : k < xs.length := by rw [HN.out]; exact hlt
      obtain ⟨bq, o, rfl, hbq, hc0, hc1, hc2⟩ := HMY.out.at3 k xs[k] (List.getElem?_eq_getElem hkx)
      have e0 := (HF.out.cell (p := ⟨bq, o + k * 3, none⟩) hbq).trans hc0
      have e1 := (HF.out.cell (p := ⟨bq, o + k * 3 + 1, none⟩) hbq).trans hc1
      have e2 := (HF.out.cell (p := ⟨bq, o + k * 3 + 2, none⟩) hbq).trans hc2
      have hxo := HOK.out _ (List.getElem_mem hkx)
      have HXK : Hid (((xs[k]).n.length ≤ 600 ∧ (xs[k]).v.length ≤ 600) → ∀ j (hj : j < xs.length), j < k + 1 → (xs[j]).n.length ≤ 600 ∧ (xs[j]).v.length ≤ 600) := Lib.hid (fun hb j hj h => by
        by_cases e : j = k
        · subst e; exact hb
        · exact HSM.out j hj (by omega))
      generalize xs[k] = x at *
      obtain ⟨xn, xv, xb⟩ := x
      obtain ⟨o1, o2⟩ := hxo
      simp only at e0 e1 e2 o1 o2 HXK
      have z1 : (strB xn).size = xn.length := strB_size xn
      have z2 : (strB xv).size = xv.length := strB_size xv
      clear hc0 hc1 hc2
      generalize strB xn = SN at *
      generalize strB xv = SV at *
      generalize xn.length = a at *
      generalize xv.length = b at *
      have w1 : IntKind.i64.wrap ((10 : Int) + (a : Int)) = 10 + (a : Int) := IntWalk.i64_in _ (by omega)
      have w2 : IntKind.i64.wrap ((10 : Int) + (a : Int) + (b : Int)) = 10 + (a : Int) + (b : Int) := IntWalk.i64_in _ (by omega)
      have w3 : IntKind.i64.wrap ((t : Int) + ((10 : Int) + (a : Int) + (b : Int))) = (t : Int) + (10 + (a : Int) + (b : Int)) := IntWalk.i64_in _ (by omega)
      by_cases hbig : 600 < t + (10 + a + b)
      · have hb1 : (600 : Int) < (t : Int) + (10 + (a : Int) + (b : Int)) := by omega
        go_wp2
        exact bodyPost_ret (v := .bool false) (by simp [results, Try.f8, go_sem]) rfl ⟨false, rfl, (fun h => by cases h), HF.out.trans (Fresh.alloc _ _)⟩
      · have hb1 : ¬ (600 : Int) < (t : Int) + (10 + (a : Int) + (b : Int)) := by omega
        have HXK2 := Lib.hid (HXK.out ⟨by omega, by omega⟩)
        clear HXK
        go_wp2
        exact ⟨⟨k + 1, t + (10 + a + b), by omega, by go_num, by go_num, by omega, by omega, HXK2.out, HF.out.trans (Fresh.alloc _ _)⟩, by simp [intOf]; omega⟩
    · have hlt' : ¬ (k : Int) < (n : Int) := by omega
      have HS : Hid (SmallL xs) := Lib.hid ⟨by rw [HN.out]; omega, fun x hx => by
        obtain ⟨j, hj, rfl⟩ := List.getElem_of_mem hx
        exact HSM.out j hj (by rw [HN.out] at hj; omega)⟩
      go_wp2
      exact bodyPost_ret (v := .bool true) (by simp [results, Try.f8, go_sem]) rfl (by first | exact ⟨true, rfl, (fun _ => HS.out), HF.out⟩ | exact .inr ⟨rfl, HS.out, HF.out⟩)
def awx0 : Ln := ⟨[58, 109, 101, 116, 104, 111, 100], [71, 69, 84], false⟩
def awx1 : Ln := ⟨[99, 111, 111, 107, 105, 101], [97], true⟩
def awF : List UInt8 := [130, 31, 17, 1, 97]
theorem aw_x0 : IsLine awx0 [130] := ⟨2, true, by omega, .inl ⟨1, by omega, rfl, rfl, by (simp only [prF, eqD_eq]; decide +kernel), by (simp only [prF, eqD_eq]; decide +kernel)⟩, (show ([130] : List UInt8) = encL 2 7 1 from by kernel_rfl)⟩
theorem aw_x1 : IsLine awx1 [31, 17, 1, 97] := by
  refine ⟨32, false, by omega, .inr ⟨rfl, by (simp only [prF, eqD_eq]; decide +kernel), .inr ⟨31, by omega, rfl, by (simp only [prN, eqD_eq]; decide +kernel), by (simp only [prN, eqD_eq]; decide +kernel)⟩⟩, ?_⟩
  show IsFormF awx1.n awx1.v 1 _
  obtain ⟨Pn, hPn⟩ := lit_ex awx1.n (decide (litN awx1.n true < litN awx1.n false))
  refine ⟨32, by omega, .inr ⟨31, by omega, rfl, by (simp only [prN, eqD_eq]; decide +kernel), by (simp only [prN, eqD_eq]; decide +kernel)⟩, Pn, [1, 97], hPn, ?_, by rw [if_neg (by omega)]; rfl⟩
  show IsLit _ _ _
  rw [show decide (litN awx1.v true < litN awx1.v false) = false by kernel_rfl]
  exact ⟨[97], rfl, by kernel_rfl⟩
theorem aw_row : RowE [awx0, awx1] awF := ⟨[130], [31, 17, 1, 97], aw_x0, ⟨[31, 17, 1, 97], [], aw_x1, rfl, by simp⟩, rfl⟩
theorem aw_p1 : plainB [64, 1, 97, 1, 98] = false := by kernel_rfl
theorem aw_p2 : plainB [32] = false := by kernel_rfl
theorem aw_p3 : plainB [190] = false := by kernel_rfl
theorem many_two (w : World) (b : Nat) (x y : Ln) (h : Blk w b 28 #[.string (strB x.n), .string (strB x.v), .bool x.nv, .string (strB y.n), .string (strB y.v), .bool y.nv]) : Many Ln.cells 3 w (some ⟨b, 0, none⟩) [x, y] := fun _ => by
  refine ⟨b, 0, rfl, h.lt, fun i hi j hj => ?_⟩
  rw [Nat.zero_add, h.cell]
  have hi2 : i < 2 := hi
  match i, j, hi2, hj with
  | 0, 0, _, _ => rfl
  | 0, 1, _, _ => rfl
  | 0, 2, _, _ => rfl
  | 1, 0, _, _ => rfl
  | 1, 1, _, _ => rfl
  | 1, 2, _, _ => rfl
set_option maxHeartbeats 3200000 in
theorem en_awake (w : World) : Calls Try.prog 9 #[] w fun e w' => e = .returned (.bool true) ∧ Fresh w w' := by
  have HE : Hid (∀ W b, Blk W b 28 #[.string (strB awx0.n), .string (strB awx0.v), .bool awx0.nv, .string (strB awx1.n), .string (strB awx1.v), .bool awx1.nv] → Calls Try.prog 13 #[.slice (some ⟨b, 0, none⟩) 2 2] W fun e w' => ∃ (A : Option Addr) (c : Nat), e = .returned (.tuple #[.slice A 5 c, .int .i64 0]) ∧ BS w' A awF ∧ 5 ≤ c ∧ c ≤ maxLen ∧ Fresh W w') := Lib.hid (fun W b h => (en_encode (some ⟨b, 0, none⟩) 2 [awx0, awx1] W (many_two W b awx0 awx1 h) (by decide) (by decide)).mono (fun e w' hh => by
    rcases hh with ⟨_, F, A, c, he, hrow, hown, hf⟩ | ⟨⟨x, hx, hno⟩, _⟩
    · have hF : awF = F := RowE.uniq aw_row hrow
      subst hF
      refine ⟨A, c, he, hown.bytes.1, ?_, ?_, hf⟩
      · obtain ⟨_, _, e, h1, _⟩ := hown.slice; cases e; exact h1
      · obtain ⟨_, _, e, h1, h2, _⟩ := hown.slice; cases e; exact h2
    · simp only [List.mem_cons, List.not_mem_nil, or_false] at hx
      rcases hx with rfl | rfl
      · exact absurd hno (by decide)
      · exact absurd hno (by decide)))
  have HP : Hid (∀ W A c, BS W A awF → 5 ≤ c → c ≤ maxLen → Calls Try.prog 21 #[.slice A 5 c] W fun e w' => e = .returned (.bool true) ∧ Fresh W w') := Lib.hid (fun W A c h h1 h2 => by
    have := en_plain A c awF W (by decide) h1 h2 h
    rwa [plain_row [awx0, awx1] awF (by decide) aw_row] at this)
  have HP1 : Hid (∀ W A, BS W A [64, 1, 97, 1, 98] → Calls Try.prog 21 #[.slice A 5 5] W fun e w' => e = .returned (.bool false) ∧ Fresh W w') := Lib.hid (fun W A h => by
    have := en_plain A 5 [64, 1, 97, 1, 98] W (by decide) (by decide) (by decide) h
    rwa [aw_p1] at this)
  have HP2 : Hid (∀ W A, BS W A [32] → Calls Try.prog 21 #[.slice A 1 1] W fun e w' => e = .returned (.bool false) ∧ Fresh W w') := Lib.hid (fun W A h => by
    have := en_plain A 1 [32] W (by decide) (by decide) (by decide) h
    rwa [aw_p2] at this)
  have HP3 : Hid (∀ W A, BS W A [190] → Calls Try.prog 21 #[.slice A 1 1] W fun e w' => e = .returned (.bool false) ∧ Fresh W w') := Lib.hid (fun W A h => by
    have := en_plain A 1 [190] W (by decide) (by decide) (by decide) h
    rwa [aw_p3] at this)
  have kc : ∀ (w : World) (C : Array Value) (n c H : Nat), w.heap.size = H → (convert 29 29 (.slice (some ⟨H, 0, none⟩) n c)).run Try.prog (w.alloc (.cells C 5)) = .ok (.slice (some ⟨H, 0, none⟩) n c) (w.alloc (.cells C 5 (C.size, C.size + 1))) := fun w C n c H h => by
    subst h
    exact Lib.run_convert_bytes_const (P := Try.prog) w 29 5 C n c Try.underlying29 Try.underlying5
  go_enter Try.func9, Try.ntmps9
  go_wp2_with fail
  refine (HE.out _ w.heap.size (Blk.new w 28 _)).mono ?_
  rintro e w1 ⟨A1, c1, rfl, hb1, hc1, hc2, hf1⟩
  have HB1 := Lib.hid hb1
  have HF1 := Lib.hid (Fresh.tA hf1)
  have hcv := run_str (P := Try.prog) hb1 29 9 5 Try.underlying29 Try.underlying5 Try.underlying9 c1
  rw [show awF.length = 5 from rfl, show strB awF = { data := #[130, 31, 17, 1, 97] } from rfl] at hcv
  clear hb1 hf1 HE
  go_wp2_with fail
  with_reducible refine (HP.out _ _ _ HB1.out hc1 hc2).mono ?_
  rintro e w2 ⟨rfl, hf2⟩
  have HF2 := Lib.hid (HF1.out.trans hf2)
  clear hf2 hcv hc1 hc2
  go_wp2_with fail
  refine (HP1.out _ _ (BS.const w2 5 [64, 1, 97, 1, 98] (5, 6))).mono ?_
  rintro e w3 ⟨rfl, hf3⟩
  have HF3 := Lib.hid (HF2.out.trans ((Fresh.alloc w2 (.cells (bytesA [64, 1, 97, 1, 98]) 5 (5, 6))).trans hf3))
  clear hf3 kc
  go_wp2_with fail
  refine (HP2.out _ _ (BS.row (l := [32]) (t := 5) (Blk.new w3 5 (bytesA [32])))).mono ?_
  rintro e w4 ⟨rfl, hf4⟩
  have HF4 := Lib.hid ((HF3.out.allocS (.cells (bytesA [32]) 5)).trans hf4)
  clear hf4
  go_wp2_with fail
  refine (HP3.out _ _ (BS.row (l := [190]) (t := 5) (Blk.new w4 5 (bytesA [190])))).mono ?_
  rintro e w5 ⟨rfl, hf5⟩
  have HF5 := Lib.hid ((HF4.out.allocS (.cells (bytesA [190]) 5)).trans hf5)
  clear hf5
  go_wp2_with fail
  go_ret
  exact ⟨rfl, HF5.out⟩
end Go.Proofs.Ytdoddpigiencjaa

