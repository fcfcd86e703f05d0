/-
  A table and the document's list side by side: pair, small, step.
-/
import Derived.Test.YthjajipagfojoaaDynB
import Derived.Deep.RegionHeld3
namespace Go.Proofs.Ythjajipagfojoaa
set_option linter.unusedVariables false
set_option linter.unusedSimpArgs false
open Go.RowKit
theorem dy_pair (f : FldT) (w : World) : Calls Try.prog 15 #[.agg #[.string f.1, .string f.2]] w fun e w' => e = .returned (.agg #[.string f.1, .string f.2]) ∧ Fresh w w' := by
  go_enter Try.func15, Try.ntmps15
  go_wp2
  go_returns
  exact ⟨rfl, by repeat (first | with_reducible exact Fresh.refl _ | with_reducible apply Fresh.drewS | with_reducible apply Fresh.allocS | (with_reducible refine Fresh.step2 ?_ ?_; simp))⟩
/-- The document's list, the newest first. -/
structure LiAt (w : World) (A : Option Addr) (c : Nat) (fs : List FldT) : Prop where
  le : fs.length ≤ c
  max : c ≤ maxLen
  rows : Many fldD 2 w A fs.reverse
  row : PrRow w A fs.length
theorem LiAt.fresh {w w' : World} {A : Option Addr} {c : Nat} {fs : List FldT} (h : LiAt w A c fs) (hf : Fresh w w') : LiAt w' A c fs := ⟨h.le, h.max, h.rows.fresh hf, h.row.fresh hf⟩
theorem LiAt.nil (w : World) : LiAt w none 0 [] := ⟨by simp, by simp [maxLen], Many.nil _ _ _ _, PrRow.nil _ _⟩
theorem LiAt.only {S : Nat → Prop} {w w' : World} {A : Option Addr} {c : Nat} {fs : List FldT} (h : LiAt w A c fs) (ho : Only S w w') (hs : ∀ g cs, Blk w g 42 cs → ¬ S g) : LiAt w' A c fs := by
  refine ⟨h.le, h.max, fun hn => ?_, fun hn => ?_⟩
  · obtain ⟨b, o, e, hb, hc⟩ := h.rows hn
    obtain ⟨g, cs, e', hg⟩ := h.row (by simpa using hn)
    rw [e] at e'
    simp at e'
    obtain ⟨rfl, rfl⟩ := e'
    refine ⟨b, 0, e, by have := ho.size; omega, fun k hk j hj => ?_⟩
    rw [ho.cell (p := ⟨b, _, none⟩) hb (hs b cs hg)]
    exact hc k hk j hj
  · obtain ⟨g, cs, e', hg⟩ := h.row hn
    exact ⟨g, cs, e', hg.only ho (hs g cs hg)⟩
/-- What a table's calls may change is no row of pairs. -/
theorem TabAt.apart {w : World} {base p : Nat} {v : Value} {fs : List FldT} {lim : Int} (h : TabAt w base p v fs lim) {t : TypeId} (h1 : t ≠ 60) (h2 : t ≠ 31) : ∀ g cs, Blk w g t cs → ¬ (g = p ∨ v.ownBlock = some g) := fun g cs hg e => by
  rcases e with rfl | e
  · exact hg.ne h.blk h1 rfl
  · obtain ⟨cur, hc⟩ := ownBlkD h.own e
    exact hg.ne hc h2 rfl
def stepF (fs : List FldT) (lim : Int) (o : OpT) : List FldT × Int :=
  if o.k = 1 then (addF fs lim o.f, lim) else if o.k = 2 then (if 0 ≤ o.n ∧ o.n ≤ 65536 then (fs.drop (goneN fs o.n), o.n) else (fs, lim)) else (fs, lim)
theorem tz_len (fs : List FldT) : fs.length * 32 ≤ tz fs := by
  induction fs with
  | nil => simp [tz]
  | cons f r ih => rw [tz_cons]; simp only [List.length_cons]; unfold fz; omega
theorem tz_gone (fs : List FldT) (room : Int) (h : 0 ≤ room) : (tz (fs.drop (goneN fs room)) : Int) ≤ room := by
  induction fs with
  | nil => simp [tz]; exact h
  | cons f r ih =>
    rw [goneN]
    split
    · rw [List.drop_succ_cons]; exact ih
    · rw [List.drop_zero]; omega
theorem tz_add (fs : List FldT) (lim : Int) (f : FldT) (h : 0 ≤ lim) : (tz (addF fs lim f) : Int) ≤ lim := by
  unfold addF
  split
  · rename_i hf
    rw [tz_append]
    have := tz_gone fs (lim - fz f) (by omega)
    simp [tz] at this ⊢
    omega
  · rename_i hf
    rw [goneN_neg _ _ (by omega), List.drop_length]
    simpa [tz] using h
theorem add_went (fs : List FldT) (lim : Int) (f : FldT) (h : (fz f : Int) ≤ lim) : (addF fs lim f).length + goneN fs (lim - fz f) = fs.length + 1 := by
  unfold addF
  rw [if_pos h, List.length_append, List.length_drop]
  have := goneN_le fs (lim - fz f)
  simp
  omega
theorem stepF_ok (fs : List FldT) (lim : Int) (o : OpT) (h0 : 0 ≤ lim) (h1 : lim ≤ 65536) (hz : (tz fs : Int) ≤ lim) : 0 ≤ (stepF fs lim o).2 ∧ (stepF fs lim o).2 ≤ 65536 ∧ (tz (stepF fs lim o).1 : Int) ≤ (stepF fs lim o).2 := by
  unfold stepF
  split
  · exact ⟨h0, h1, tz_add fs lim o.f h0⟩
  · split
    · split
      · rename_i h
        exact ⟨h.1, h.2, tz_gone fs o.n h.1⟩
      · exact ⟨h0, h1, hz⟩
    · exact ⟨h0, h1, hz⟩
/-- Both, side by side. -/
structure Side (w : World) (base p : Nat) (v : Value) (A : Option Addr) (c : Nat) (fs : List FldT) (lim : Int) : Prop where
  tab : TabAt w base p v fs lim
  li : LiAt w A c fs
  hb : base ≤ w.heap.size
  l0 : 0 ≤ lim
  l1 : lim ≤ 65536
  hz : (tz fs : Int) ≤ lim
theorem Side.fresh {w w' : World} {base p c : Nat} {v : Value} {A : Option Addr} {fs : List FldT} {lim : Int} (h : Side w base p v A c fs lim) (hf : Fresh w w') : Side w' base p v A c fs lim :=
  ⟨h.tab.fresh hf, h.li.fresh hf, Nat.le_trans h.hb hf.size, h.l0, h.l1, h.hz⟩
theorem Side.len {w : World} {base p c : Nat} {v : Value} {A : Option Addr} {fs : List FldT} {lim : Int} (h : Side w base p v A c fs lim) : fs.length ≤ 2048 := by
  have := tz_len fs
  have := h.hz
  have := h.l1
  omega
/-- What a step leaves. -/
def StP (w : World) (base p : Nat) (v : Value) (fs : List FldT) (lim : Int) (e : Ending) (w' : World) : Prop :=
  ∃ A' c' v', e = .returned (.tuple #[.slice A' fs.length c', .int .i64 lim, .bool true]) ∧ Side w' base p v' A' c' fs lim ∧ (∀ k, v'.ownBlock = some k → v.ownBlock = some k ∨ w.heap.size ≤ k) ∧ Only (fun k => k = p ∨ v.ownBlock = some k) w w'
section
variable {base p c : Nat} {v : Value} {A : Option Addr} {fs : List FldT} {lim : Int} {w : World}
theorem step_other (o : OpT) (h : Side w base p v A c fs lim) (h1 : o.k ≠ 1) (h2 : o.k ≠ 2) : Calls Try.prog 11 #[.pointer (some ⟨p, 0, none⟩), .slice A fs.length c, .int .i64 lim, .agg #[.int .i64 o.k, .int .i64 o.n, .string o.f.1, .string o.f.2]] w (StP w base p v fs lim) := by
  have H := Lib.hid h
  have e1 : (o.k == 1) = false := by simpa using h1
  have e2 : (o.k == 2) = false := by simpa using h2
  clear h h1 h2
  go_enter Try.func11, Try.ntmps11
  go_wp2
  refine bodyPost_ret (v := .tuple #[.slice A fs.length c, .int .i64 lim, .bool true]) (by simp [results, Try.results11, go_sem]) rfl ?_
  exact ⟨A, c, v, rfl, H.out.fresh (Fresh.alloc _ _), fun k hk => .inl hk, Only.of_fresh (Fresh.alloc _ _)⟩
end
end Go.Proofs.Ythjajipagfojoaa
