/-
  Package dyn: Get, Add.
-/
import Derived.Test.YthjajipagfojoaaDyn4
namespace Go.Proofs.Ythjajipagfojoaa
set_option linter.unusedVariables false
set_option linter.unusedSimpArgs false
open Go.RowKit
section
variable {base p : Nat} {v : Value} {fs : List FldT} {lim : Int} {w : World}
theorem rowD_at {f : FldT} {k : Nat} (hf : fs[k]? = some f) : (rowD fs)[k * 2]? = some (.string f.1) ∧ (rowD fs)[k * 2 + 1]? = some (.string f.2) := by
  obtain ⟨hk, rfl⟩ := List.getElem?_eq_some_iff.1 hf
  have h := rowD_drop fs k
  rw [List.drop_eq_getElem_cons hk] at h
  constructor
  · rw [← Nat.add_zero (k * 2), ← List.getElem?_drop, h]; rfl
  · rw [← List.getElem?_drop, h]; rfl
theorem dy_get (i : Int) (k : Nat) (f : FldT) (h : TabAt w base p v fs lim) (hf : fs[k]? = some f) (hi : i = (fs.length : Int) - (k : Int)) (hm : fs.length ≤ 1000000) : Calls Try.prog 23 #[.pointer (some ⟨p, 0, none⟩), .int .i64 i] w fun e w' => e = .returned (.tuple #[.agg #[.string f.1, .string f.2], .int .i64 0]) ∧ Fresh w w' := by
  have hk := (List.getElem?_eq_some_iff.1 hf).1
  rcases h.own.form with ⟨_, h0, _⟩ | ⟨g, c, rfl, hgb, hgl, hnc, hcm, hcell⟩
  · omega
  obtain ⟨hr0, hr1⟩ := rowD_at hf
  have g0 := (hcell (k * 2) (by rw [rowD_length]; omega)).1.trans hr0
  have g1 := (hcell (k * 2 + 1) (by rw [rowD_length]; omega)).1.trans hr1
  obtain ⟨c0, c1, c2⟩ := h.blk.c3
  have hlt := h.blk.lt
  simp only [maxLen] at hcm
  obtain ⟨n, hn⟩ : ∃ n, fs.length = n := ⟨_, rfl⟩
  rw [hn] at hk hi hm c0 hnc
  clear h hcell hr0 hr1 hf hn
  have hw : IntKind.i64.wrap ((n : Int) - i) = (k : Int) := by rw [IntKind.wrap_i64]; omega
  have i1 : ¬ i < 1 := by omega
  have i2 : ¬ (n : Int) < i := by omega
  clear hi
  go_enter Try.func23, Try.ntmps23
  go_upto_region 3 with fail
  refine wp_gen (fun W => Fresh w W ∧ Blk W w.heap.size 31 #[.string ByteArray.empty, .string ByteArray.empty]) ⟨Fresh.alloc _ _, Blk.new _ _ _⟩ ?_
  rintro W ⟨hf, hb⟩
  have g0 := (hf.cell (p := ⟨g, k * 2, none⟩) hgl).trans g0
  have g1 := (hf.cell (p := ⟨g, k * 2 + 1, none⟩) hgl).trans g1
  have c0 := (hf.cell (p := ⟨p, 0, none⟩) hlt).trans c0
  obtain ⟨r0, r1⟩ := hb.c2
  have q0 := hb.frozen 0
  have q1 := hb.frozen 1
  have HF := Lib.hid hf
  have HB := Lib.hid hb
  clear hf hb c1 c2
  go_region_with fail
  all_goals
    refine wx_gen (fun W' => Fresh w W' ∧ Blk W' w.heap.size 31 #[.string f.1, .string f.2]) ⟨?_, ?_⟩ ?_
    · repeat (first | with_reducible exact HF.out | with_reducible apply Fresh.drewS | with_reducible refine Fresh.step2 (Nat.le_refl _) ?_)
    · first | exact (HB.out.set 0 _).set 1 _ | exact ((HB.out.set 0 _).set 1 _).drew
    clear r0 r1 q0 q1 g0 g1 c0
    rintro W' ⟨hf', hb'⟩
    obtain ⟨r0, r1⟩ := hb'.c2
    have HF' := Lib.hid hf'
    clear hf' hb'
    go_wp2
    refine bodyPost_ret (v := .tuple #[.agg #[.string f.1, .string f.2], .int .i64 0]) (by simp [results, Try.results23, go_sem, r0, r1]) rfl ?_
    exact ⟨rfl, HF'.out⟩
end
end Go.Proofs.Ythjajipagfojoaa
