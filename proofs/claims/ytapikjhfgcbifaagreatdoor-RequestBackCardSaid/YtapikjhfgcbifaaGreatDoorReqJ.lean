/-
  The laws of layer 22: requests that come in; words; Size; the document's Right; lines.
-/
import Derived.Test.YtapikjhfgcbifaaGreatDoorReqI
namespace Go.Proofs.YtapikjhfgcbifaaGreatDoor
set_option maxRecDepth 100000
set_option linter.unusedVariables false
set_option linter.unusedSimpArgs false
open Go.RowKit Go.ChangeShapes Go.WideShapes Go.Deep
structure RqV.Ok (w : World) (r : RqV) : Prop where
  z : r.m.size ≤ 140737488351232 ∧ r.s.size ≤ 140737488351232 ∧ r.p.size ≤ 140737488351232 ∧ r.a.size ≤ 140737488351232
  fle : r.fs.length ≤ r.fc
  fmax : r.fc * 32 ≤ 140737488351232
  rows : Many fldD 2 w r.FA r.fs
  fok : ∀ x ∈ r.fs, FldT.Ok w x
  bl : r.bd.length ≤ 140737488351232
theorem opens_fdsW : OpensW Tryz.prog 22 (fun w cs => ∃ s : FdsV, cs = [.slice s.A s.xs.length s.c] ∧ s.Ok w) :=
  (opensW_slice (sz := 2) (bytes := 32) Tryz.underlying22 opens_fdW (by kernel_rfl) (by omega) (by kernel_rfl)).mono (fun w cs h => by
    obtain ⟨A, xs, c, e, h1, _, h2, h3, h4⟩ := h.many (R := FldT.Ok) (f := fldD) (fun _ hq => hq)
    exact ⟨⟨A, c, xs⟩, e, h1, h2, h3, h4⟩)
theorem opens_reqW : OpensW Tryz.prog 25 (fun w cs => ∃ r : RqV, cs = r.arr.toList ∧ r.Ok w) :=
  (opensW_struct (sz := 6) [(0, 1, QStrW), (1, 1, QStrW), (2, 1, QStrW), (3, 1, QStrW), (4, 1, fun w cs => ∃ s : FdsV, cs = [.slice s.A s.xs.length s.c] ∧ s.Ok w), (5, 1, QBytesW)] Tryz.underlying25 (by kernel_rfl) (by
    intro p hp
    simp only [List.mem_cons, List.not_mem_nil, or_false] at hp
    rcases hp with rfl | rfl | rfl | rfl | rfl | rfl
    · exact ⟨0, _, rfl, rfl, by kernel_rfl, opensW_str Tryz.underlying9⟩
    · exact ⟨1, _, rfl, rfl, by kernel_rfl, opensW_str Tryz.underlying9⟩
    · exact ⟨2, _, rfl, rfl, by kernel_rfl, opensW_str Tryz.underlying9⟩
    · exact ⟨3, _, rfl, rfl, by kernel_rfl, opensW_str Tryz.underlying9⟩
    · exact ⟨4, _, rfl, rfl, by kernel_rfl, opens_fdsW⟩
    · exact ⟨5, _, rfl, rfl, by kernel_rfl, opensW_bytes Tryz.underlying23 Tryz.underlying5 (by kernel_rfl) (by kernel_rfl)⟩)).mono (by
    intro w cs ⟨hl, h⟩
    match cs, hl with
    | [c0, c1, c2, c3, c4, c5], _ =>
      obtain ⟨s0, e0, l0⟩ := h (0, 1, QStrW) (by simp)
      obtain ⟨s1, e1, l1⟩ := h (1, 1, QStrW) (by simp)
      obtain ⟨s2, e2, l2⟩ := h (2, 1, QStrW) (by simp)
      obtain ⟨s3, e3, l3⟩ := h (3, 1, QStrW) (by simp)
      obtain ⟨s4, e4, l4⟩ := h (4, 1, fun w cs => ∃ s : FdsV, cs = [.slice s.A s.xs.length s.c] ∧ s.Ok w) (by simp)
      obtain ⟨A, l, c, e5, h1, h2, _⟩ := h (5, 1, QBytesW) (by simp)
      simp at e0 e1 e2 e3 e4 e5
      subst e0 e1 e2 e3 e4 e5
      exact ⟨⟨s0, s1, s2, s3, s4.A, s4.c, s4.xs, A, c, l⟩, rfl, ⟨⟨l0, l1, l2, l3⟩, l4.le, l4.max, l4.rows, l4.ok, Nat.le_trans h1 h2⟩⟩)
section
variable {H : Type} {enc : TypeId × Value → H} {w : World} {base : Nat} {held : Bool} {v : Value} {d : DataW H} {p : List MemPlace} {r : Reach} {b0 : Nat}
theorem open_req (hv : Value.okWide Tryz.prog w r b0 25 v) (hd : DataW.Trod enc Tryz.prog w base (fun _ => true) held 25 v d p) (hw : ∀ m ∈ d.weights Tryz.prog 25, m ≤ reachBytes) :
    ∃ q : RqV, v = .agg q.arr ∧ q.Ok w := by
  obtain ⟨cs, rfl, q, hc, hq⟩ := opens_reqW.agg Tryz.underlying25 hv hd hw
  exact ⟨q, by rw [Array.toList_inj.1 hc], hq⟩
end
/-- Requests that are gone through. -/
structure WdOk (r : RqV) : Prop where
  z : r.m.size < 5000 ∧ r.s.size < 5000 ∧ r.p.size < 5000 ∧ r.a.size < 5000
  f : sum21 r.fs ≤ 1000
  b : r.bd.length < 5000
def WdP (r : RqV) (w : World) (e : Ending) (w' : World) : Prop := ∃ b : Bool, e = .returned (.bool b) ∧ (b = true → WdOk r) ∧ Fresh w w'
set_option maxHeartbeats 6400000 in
theorem l22_words (r : RqV) (w : World) (h : r.Ok w) : Calls Tryz.prog 9 #[.agg r.arr] w (WdP r w) := by
  have hfl := h.fle
  have hfm := h.fmax
  have HSM := Lib.hid (fun W (hf : Fresh w W) => l22_small r.FA r.fc r.fs W (h.rows.fresh hf) (by omega) (fun f hf => h.fok f hf))
  have HNO : Hid (∀ W, Fresh w W → WdP r w (.returned (.bool false)) W) := Lib.hid (fun W hf => ⟨false, rfl, (fun h => by cases h), hf⟩)
  have HYES : Hid (∀ W, WdOk r → Fresh w W → WdP r w (.returned (.bool true)) W) := Lib.hid (fun W h hf => ⟨true, rfl, fun _ => h, hf⟩)
  have HO : Hid (∀ (a : r.m.size < 5000) (b : r.s.size < 5000) (c : r.p.size < 5000) (d : r.a.size < 5000) (e : sum21 r.fs ≤ 1000) (f : r.bd.length < 5000), WdOk r) := Lib.hid (fun a b c d e f => ⟨⟨a, b, c, d⟩, e, f⟩)
  unfold SmlQ at HSM
  clear h hfl hfm
  generalize WdP r w = PP at *
  unfold RqV.arr
  obtain ⟨m, s, p, a, FA, fc, fs, BA, bc, bd⟩ := r
  simp only at HSM HNO HYES HO ⊢
  obtain ⟨n, hn⟩ : ∃ n, fs.length = n := ⟨_, rfl⟩
  obtain ⟨bn, hbn⟩ : ∃ n, bd.length = n := ⟨_, rfl⟩
  rw [hn] at HSM ⊢
  rw [hbn] at HO ⊢
  clear hn hbn
  go_enter Tryz.func9, Tryz.ntmps9
  go_upto_region 1 with fail
  refine wp_gen (fun W => Blk W w.heap.size 25 #[.string m, .string s, .string p, .string a, .slice FA n fc, .slice BA bn bc] ∧ Fresh w W) ⟨Blk.new w _ _, Fresh.alloc _ _⟩ ?_
  rintro W1 ⟨hb1, hf1⟩
  obtain ⟨b, hb⟩ : ∃ b, w.heap.size = b := ⟨_, rfl⟩
  rw [hb] at hb1 ⊢
  clear hb
  have HB1 := Lib.hid hb1
  have HF1 := Lib.hid hf1
  have e0 := hb1.cell 0
  have e1 := hb1.cell 1
  have e2 := hb1.cell 2
  have e3 := hb1.cell 3
  have e4 := hb1.cell 4
  simp at e0 e1 e2 e3 e4
  have HX := Lib.hid (HNO.out W1 HF1.out)
  clear hb1 hf1
  by_cases h0 : m.size < 5000
  rotate_left
  · have d0 : decide ((m.size : Int) < 5000) = false := decide_eq_false (by omega)
    have d1 : decide (m.size < 5000) = false := decide_eq_false h0
    clear h0
    go_wp2_with fail
    exact HX.out
  have d0 : (m.size : Int) < 5000 := by omega
  by_cases h1 : s.size < 5000
  rotate_left
  · have d1 : decide ((s.size : Int) < 5000) = false := decide_eq_false (by omega)
    have d2 : decide (s.size < 5000) = false := decide_eq_false h1
    clear h0 h1
    go_wp2_with fail
    exact HX.out
  have d1 : (s.size : Int) < 5000 := by omega
  by_cases h2 : p.size < 5000
  rotate_left
  · have d2 : decide ((p.size : Int) < 5000) = false := decide_eq_false (by omega)
    have d3 : decide (p.size < 5000) = false := decide_eq_false h2
    clear h0 h1 h2
    go_wp2_with fail
    exact HX.out
  have d2 : (p.size : Int) < 5000 := by omega
  by_cases h3 : a.size < 5000
  rotate_left
  · have d3 : decide ((a.size : Int) < 5000) = false := decide_eq_false (by omega)
    have d4 : decide (a.size < 5000) = false := decide_eq_false h3
    clear h0 h1 h2 h3
    go_wp2_with fail
    exact HX.out
  have d3 : (a.size : Int) < 5000 := by omega
  have HH := Lib.hid (And.intro h0 (And.intro h1 (And.intro h2 h3)))
  clear h0 h1 h2 h3
  go_wp2_with fail
  with_reducible refine (HSM.out _ HF1.out).mono ?_
  rintro e w2 ⟨q, rfl, hq, hf2⟩
  have e5 := (HB1.out.fresh hf2).cell 5
  simp at e5
  have HQ := Lib.hid hq
  have HF2 := Lib.hid (HF1.out.trans hf2)
  clear hq hf2
  cases q
  · have HX2 := Lib.hid (HNO.out w2 HF2.out)
    go_wp2_with fail
    exact HX2.out
  by_cases h5 : bn < 5000
  · have d5 : (bn : Int) < 5000 := by omega
    have HX2 := Lib.hid (HYES.out w2 (HO.out HH.out.1 HH.out.2.1 HH.out.2.2.1 HH.out.2.2.2 (HQ.out (by trivial)) h5) HF2.out)
    clear h5
    go_wp2_with fail
    exact HX2.out
  · have d5 : decide ((bn : Int) < 5000) = false := decide_eq_false (by omega)
    have d6 : decide (bn < 5000) = false := decide_eq_false h5
    have HX2 := Lib.hid (HNO.out w2 HF2.out)
    clear h5
    go_wp2_with fail
    exact HX2.out
/-- How many bytes fields have. -/
def fsum (l : List FldT) : Nat := (l.map (fun f => f.1.size + f.2.size)).sum
theorem fsum_take {l : List FldT} {k : Nat} {f : FldT} (h : l[k]? = some f) : fsum (l.take (k + 1)) = fsum (l.take k) + (f.1.size + f.2.size) := by
  obtain ⟨hk, rfl⟩ := List.getElem?_eq_some_iff.1 h
  unfold fsum
  rw [List.take_succ_eq_append_getElem hk, List.map_append, List.sum_append]
  rfl
theorem fsum_le (l : List FldT) : fsum l ≤ sum21 l := by
  induction l with
  | nil => simp [fsum, sum21]
  | cons g r ih =>
    unfold fsum sum21 sz5 at *
    simp only [List.map_cons, List.sum_cons]
    omega
theorem fsum_take_le (l : List FldT) (k : Nat) : fsum (l.take k) ≤ fsum l := by
  induction l generalizing k with
  | nil => simp [fsum]
  | cons g r ih =>
    cases k with
    | zero => simp [fsum]
    | succ k =>
      have := ih k
      unfold fsum at *
      rw [List.take_succ_cons]
      simp only [List.map_cons, List.sum_cons]
      omega
theorem fs_nums {t a b : Nat} (h : t + (a + b) ≤ 100000) (k n : Nat) (hk : k < n) (hn : n ≤ 100000) : IntKind.i64.wrap ((a : Int) + (b : Int)) = (a : Int) + (b : Int) ∧ IntKind.i64.wrap ((t : Int) + ((a : Int) + (b : Int))) = (t : Int) + ((a : Int) + (b : Int)) ∧ ((t + (a + b) : Nat) : Int) = (t : Int) + ((a : Int) + (b : Int)) ∧ (k : Int) < (n : Int) ∧ IntKind.i64.wrap ((k : Int) + 1) = (k : Int) + 1 := ⟨IntWalk.i64_in _ (by omega), IntWalk.i64_in _ (by omega), by omega, by omega, IntWalk.i64_in _ (by omega)⟩
theorem zz_nums {a b c d e : Nat} (h : a < 5000 ∧ b < 5000 ∧ c < 5000 ∧ d < 5000) (he : e < 5000) : IntKind.i64.wrap ((a : Int) + (b : Int)) = (a : Int) + (b : Int) ∧ IntKind.i64.wrap ((a : Int) + (b : Int) + (c : Int)) = (a : Int) + (b : Int) + (c : Int) ∧ IntKind.i64.wrap ((a : Int) + (b : Int) + (c : Int) + (d : Int)) = (a : Int) + (b : Int) + (c : Int) + (d : Int) ∧ IntKind.i64.wrap ((a : Int) + (b : Int) + (c : Int) + (d : Int) + (e : Int)) = (a : Int) + (b : Int) + (c : Int) + (d : Int) + (e : Int) := ⟨IntWalk.i64_in _ (by omega), IntWalk.i64_in _ (by omega), IntWalk.i64_in _ (by omega), IntWalk.i64_in _ (by omega)⟩
/-- How many bytes a request's texts have. -/
def rsum (r : RqV) : Nat := r.m.size + r.s.size + r.p.size + r.a.size + r.bd.length
set_option maxHeartbeats 6400000 in
theorem rq_size (r : RqV) (w : World) (h : WdOk r) (hm : Many fldD 2 w r.FA r.fs) : Calls Tryz.prog 12 #[.agg r.arr] w fun e w' => e = .returned (.int .i64 ((rsum r + fsum r.fs : Nat) : Int)) ∧ Fresh w w' := by
  have hz := h.z
  have hbz := h.b
  have HFL : Hid (fsum r.fs ≤ 1000 ∧ r.fs.length ≤ 200) := Lib.hid ⟨by have := fsum_le r.fs; have := h.f; omega, (sum_small h.f).1⟩
  have HM := Lib.hid hm
  unfold rsum
  unfold RqV.arr
  obtain ⟨m, s, p, a, FA, fc, fs, BA, bc, bd⟩ := r
  simp only at hz hbz HFL HM ⊢
  obtain ⟨n, hn⟩ : ∃ n, fs.length = n := ⟨_, rfl⟩
  have HN := Lib.hid hn
  obtain ⟨bn, hbn⟩ : ∃ n, bd.length = n := ⟨_, rfl⟩
  rw [hbn] at hbz ⊢
  rw [hn] at HFL ⊢
  obtain ⟨t0, ht0⟩ : ∃ t, m.size + s.size + p.size + a.size + bn = t := ⟨_, rfl⟩
  have HT0 := Lib.hid ht0
  have HTL : Hid (t0 ≤ 25000) := Lib.hid (by omega)
  obtain ⟨z1, z2, z3, z4⟩ := zz_nums hz hbz
  rw [ht0]
  have hts : ((m.size : Int) + (s.size : Int) + (p.size : Int) + (a.size : Int) + (bn : Int)) = (t0 : Int) := by omega
  have HTS := Lib.hid hts
  clear h hm hn hbn hz hbz ht0 hts
  go_enter Tryz.func12, Tryz.ntmps12
  go_upto_region 1 with fail
  refine wp_gen (fun W => Blk W w.heap.size 25 #[.string m, .string s, .string p, .string a, .slice FA n fc, .slice BA bn bc] ∧ Fresh w W) ⟨Blk.new w _ _, Fresh.alloc _ _⟩ ?_
  rintro W1 ⟨hb1, hf1⟩
  obtain ⟨b, hb⟩ : ∃ b, w.heap.size = b := ⟨_, rfl⟩
  rw [hb] at hb1 ⊢
  clear hb
  have HF1 := Lib.hid hf1
  have e0 := hb1.cell 0
  have e1 := hb1.cell 1
  have e2 := hb1.cell 2
  have e3 := hb1.cell 3
  have e4 := hb1.cell 4
  have e5 := hb1.cell 5
  simp at e0 e1 e2 e3 e4 e5
  clear hb1 hf1
  go_upto_region 3 with fail
  rw [HTS.out]
  clear z1 z2 z3 z4 e0 e1 e2 e3 e4 e5
  go_loopw [3, 28] (fun v i wr => ∃ k : Nat, k ≤ n ∧ i = .int .i64 (k : Int) ∧ v = .int .i64 ((t0 + fsum (fs.take k) : Nat) : Int) ∧ Fresh w wr) (fun _ i _ => n - (intOf i).toNat)
  case atStart => exact ⟨0, by omega, rfl, by simp [fsum], HF1.out⟩
  case round =>
    obtain ⟨k, hk, rfl, rfl, hfr⟩ := hrel
    have HFR := Lib.hid hfr
    obtain ⟨t, ht⟩ : ∃ t, t0 + fsum (fs.take k) = t := ⟨_, rfl⟩
    have HTT := Lib.hid ht
    rw [ht]
    by_cases hlt : k < n
    · obtain ⟨f, hx⟩ : ∃ f, fs[k]? = some f := ⟨_, List.getElem?_eq_getElem (by rw [HN.out]; exact hlt)⟩
      obtain ⟨q, o, rfl, hq, g0, g1⟩ := HM.out.fdAt k f hx
      have e0 := (hfr.cell (p := ⟨q, o + k * 2, none⟩) hq).trans g0
      have e1 := (hfr.cell (p := ⟨q, o + k * 2 + 1, none⟩) hq).trans g1
      have HS := Lib.hid (fsum_take hx)
      obtain ⟨f1, f2⟩ := f
      simp only at e0 e1 HS
      have hle : t + (f1.size + f2.size) ≤ 100000 := by
        have h1 := fsum_take_le fs (k + 1)
        rw [HS.out] at h1
        have := HFL.out.1
        have := HTL.out
        omega
      obtain ⟨n1, n2, n3, n4, n5⟩ := fs_nums hle k n hlt (by have := HFL.out.2; omega)
      have HN3 := Lib.hid n3
      clear hx g0 g1 hfr hq hle n3 ht
      go_upto_region 5 with fail
      refine wp_gen (fun W => Blk W wr.heap.size 29 #[.string f1, .string f2] ∧ Fresh wr W) ⟨Blk.new wr _ _, Fresh.alloc _ _⟩ ?_
      rintro W ⟨hbw, hfw⟩
      obtain ⟨p, hp⟩ : ∃ p, wr.heap.size = p := ⟨_, rfl⟩
      rw [hp] at hbw ⊢
      clear hp e0 e1
      obtain ⟨y0, y1⟩ := hbw.c2
      have HFW := Lib.hid (HFR.out.trans hfw)
      clear hbw hfw
      go_wp2_with fail
      go_roundw
      case rel => exact ⟨k + 1, by omega, by go_num, by rw [HS.out, ← Nat.add_assoc, HTT.out, HN3.out], HFW.out⟩
      case measure => simp [intOf]; omega
    · obtain rfl : k = n := by omega
      have hnk : ¬ (k : Int) < (k : Int) := by omega
      have hfin : t = t0 + fsum fs := by rw [← HTT.out, List.take_of_length_le (by rw [HN.out]; exact Nat.le_refl _)]
      have HX : Hid (Ending.returned (.int .i64 (t : Int)) = .returned (.int .i64 ((t0 + fsum fs : Nat) : Int)) ∧ Fresh w wr) := Lib.hid ⟨by rw [hfin], HFR.out⟩
      clear hfr ht hfin
      go_wp2_with fail
      go_ret
      exact HX.out
end Go.Proofs.YtapikjhfgcbifaaGreatDoor

