/-
  Package inbound: what a frame does, as it lies.
-/
import Derived.Test.YtginhebfjbhmnaaGreatG37
namespace Go.Proofs.YtginhebfjbhmnaaGreat
set_option maxRecDepth 100000
set_option linter.unusedVariables false
set_option linter.unusedSimpArgs false
open Go.RowKit
/-- The first frame has come. -/
theorem IbAt.begin {w0 w : World} {B : InB} {l : List UInt8} {s : Option Part} {bg : Bool} (h : IbAt w0 w B l s bg) : IbAt w0 (w.setCell ⟨B.p, 3, none⟩ (.bool true)) B l s true := by
  have ho := Only.setCell w ⟨B.p, 3, none⟩ (.bool true)
  obtain ⟨cs, hcs⟩ := h.asm.blk5
  have hn : ∀ k t cs, Blk w k t cs → t ≠ 54 → ¬ k = B.p := fun k t cs hb h1 e => by subst e; exact hb.ne h.blk h1 rfl
  refine ⟨h.blk.set2 rfl, h.rs.only ho (hn _ _ _ h.rs.blk (by decide)) (fun k hk => ?_), h.asm.only ho (hn _ _ _ hcs (by decide)) (fun k hk => ?_), h.de.apart ho (fun k e => by subst e; exact h.lp.1) (hn _ _ _ h.de.dec.blk (by decide)) (hn _ _ _ h.de.dec.tab.blk (by decide)) (fun k hk => ?_), h.lp, h.lv, h.dis⟩
  · obtain ⟨cur, hc⟩ := h.rs.own.blk hk
    exact hn _ _ _ hc (by decide)
  · obtain ⟨cur, hc⟩ := h.asm.own8 hk
    exact hn _ _ _ hc (by decide)
  · obtain ⟨cur, hc⟩ := ownBlkD h.de.dec.tab.own hk
    exact hn _ _ _ hc (by decide)
/-- Behind an item that came to the assembler. -/
theorem IbAt.onned {w0 w w' : World} {B : InB} {l : List UInt8} {s s' : Option Part} {bg : Bool} {v : Value} (h : IbAt w0 w B l s bg) (ha : AsAt w' B.ap 16384 s' v) (ho : Only (fun k => k = B.ap ∨ B.v2.ownBlock = some k) w w') (hg : ∀ k, v.ownBlock = some k → B.v2.ownBlock = some k ∨ w.heap.size ≤ k) : IbAt w0 w' { B with v2 := v } l s' bg := by
  obtain ⟨cs, hcs⟩ := h.asm.blk5
  have hn : ∀ k t cs, Blk w k t cs → t ≠ 85 → t ≠ 5 → ¬ (k = B.ap ∨ B.v2.ownBlock = some k) := fun k t cs hb h1 h2 hh => by
    rcases hh with e | e
    · subst e; exact hb.ne hcs h1 rfl
    · obtain ⟨cur, hc⟩ := h.asm.own8 e
      exact hb.ne hc h2 rfl
  have hl0 := h.de.fr.size
  refine ⟨h.blk.only ho (hn _ _ _ h.blk (by decide) (by decide)), h.rs.only ho (hn _ _ _ h.rs.blk (by decide) (by decide)) (fun k hk => ?_), ha, h.de.apart ho (fun k hk => ?_) (hn _ _ _ h.de.dec.blk (by decide) (by decide)) (hn _ _ _ h.de.dec.tab.blk (by decide) (by decide)) (fun k hk => ?_), h.lp, ⟨h.lv.1, fun k hk => ?_⟩, fun k hk e => ?_⟩
  · rintro (e | e)
    · obtain ⟨cur, hc⟩ := h.rs.own.blk hk
      subst e
      exact hc.ne hcs (by decide) rfl
    · exact h.dis k hk e
  · rcases hk with e | e
    · subst e; exact h.lp.2.2
    · exact h.lv.2 k e
  · obtain ⟨cur, hc⟩ := ownBlkD h.de.dec.tab.own hk
    exact hn _ _ _ hc (by decide) (by decide)
  · rcases hg k hk with e | e
    · exact h.lv.2 k e
    · omega
  · rcases hg k e with e | e
    · exact h.dis k hk e
    · have := (h.rs.ne k hk).2; omega
/-- A reader behind a frame, and the frame's event. -/
structure RdOk (w0 w : World) (B : InB) (l : List UInt8) (s : Option Part) (x : EvV) (B' : InB) (w' : World) : Prop where
  ib : IbAt w0 w' B' l s true
  same : B'.p = B.p ∧ B'.rp = B.rp ∧ B'.v1 = B.v1
  has : ∀ k, B'.has k → B.has k ∨ w.heap.size ≤ k
  ev : EvIn w' w.heap.size x
  off : x.off B'.has
def InReadP (w0 w : World) (B : InB) (l : List UInt8) (q : Int × Option Part × Ev) (e : Ending) (w' : World) : Prop :=
  Only B.has w w' ∧ (q.1 ≠ 0 → e = .returned (.tuple #[.agg (Ev.bare Ev0).arr, .agg #[.int .i64 q.1, .bool true]]) ∧ ∃ bg, Blk w' B.p 54 (B.arr bg)) ∧
    (q.1 = 0 → ∃ B' x, e = .returned (.tuple #[.agg x.arr, .agg #[.int .i64 0, .bool false]]) ∧ x.e = q.2.2 ∧ RdOk w0 w B l q.2.1 x B' w')
theorem InB.dec_has {B : InB} {k : Nat} (h : B.dec k) : B.has k := by
  rcases h with e | e | e
  · exact .inr (.inr (.inr (.inl e)))
  · exact .inr (.inr (.inr (.inr (.inl e))))
  · exact .inr (.inr (.inr (.inr (.inr (.inr (.inr e))))))
theorem InB.asm_has {B : InB} {k : Nat} (h : k = B.ap ∨ B.v2.ownBlock = some k) : B.has k := by
  rcases h with e | e
  · exact .inr (.inr (.inl e))
  · exact .inr (.inr (.inr (.inr (.inr (.inr (.inl e))))))
theorem InB.has2 {B : InB} {v : Value} {k n : Nat} (hg : ∀ k, v.ownBlock = some k → B.v2.ownBlock = some k ∨ n ≤ k) (h : ({ B with v2 := v } : InB).has k) : B.has k ∨ n ≤ k := by
  rcases h with e | e | e | e | e | e | e | e
  · exact .inl (.inl e)
  · exact .inl (.inr (.inl e))
  · exact .inl (.inr (.inr (.inl e)))
  · exact .inl (.inr (.inr (.inr (.inl e))))
  · exact .inl (.inr (.inr (.inr (.inr (.inl e)))))
  · exact .inl (.inr (.inr (.inr (.inr (.inr (.inl e))))))
  · exact (hg k e).imp (fun e => .inr (.inr (.inr (.inr (.inr (.inr (.inl e))))))) id
  · exact .inl (.inr (.inr (.inr (.inr (.inr (.inr (.inr e)))))))
theorem InB.has3 {B : InB} {v : Value} {k n : Nat} (hg : ∀ k, v.ownBlock = some k → B.v3.ownBlock = some k ∨ n ≤ k) (h : ({ B with v3 := v } : InB).has k) : B.has k ∨ n ≤ k := by
  rcases h with e | e | e | e | e | e | e | e
  · exact .inl (.inl e)
  · exact .inl (.inr (.inl e))
  · exact .inl (.inr (.inr (.inl e)))
  · exact .inl (.inr (.inr (.inr (.inl e))))
  · exact .inl (.inr (.inr (.inr (.inr (.inl e)))))
  · exact .inl (.inr (.inr (.inr (.inr (.inr (.inl e))))))
  · exact .inl (.inr (.inr (.inr (.inr (.inr (.inr (.inl e)))))))
  · exact (hg k e).imp (fun e => .inr (.inr (.inr (.inr (.inr (.inr (.inr e))))))) id
/-- An item's event is made of the item's memory. -/
theorem evX_in {w : World} {base : Nat} {x : ItV} (h : x.Ok w) (hA : ∀ b o, x.A = some ⟨b, o, none⟩ → base ≤ b) (hP : ∀ b o, x.PA = some ⟨b, o, none⟩ → base ≤ b) : EvIn w base (evX x) := by
  have ho := evX_ok h
  have key : (evX x).LA = none ∧ (evX x).lc = 0 ∧ (evX x).e.xs = [] ∧ ((evX x).TA = none ∨ (evX x).TA = x.A) ∧ ((evX x).PA = none ∨ (evX x).PA = x.PA) := by
    unfold evX
    repeat (split; · exact ⟨rfl, rfl, rfl, by first | exact .inl rfl | exact .inr rfl, by first | exact .inl rfl | exact .inr rfl⟩)
    exact ⟨rfl, rfl, rfl, .inl rfl, .inl rfl⟩
  obtain ⟨k1, k2, k3, k4, k5⟩ := key
  refine ⟨by rw [k1, k2, k3]; exact Lns.nil w, ho.text, ho.pairs, ho.tle, ho.tmax, fun _ b o e => ?_, fun _ b o e => ?_⟩
  · rcases k4 with h | h
    · rw [h] at e; cases e
    · exact hA b o (h ▸ e)
  · rcases k5 with h | h
    · rw [h] at e; cases e
    · exact hP b o (h ▸ e)
theorem bare_in (w : World) (base : Nat) (e : Ev) (h1 : e.xs = []) (h2 : e.l = []) (h3 : e.ps = []) : EvIn w base e.bare ∧ ∀ S, e.bare.off S := by
  obtain ⟨k, st, xs, l, ps, en, n, co⟩ := e
  simp only at h1 h2 h3
  subst h1 h2 h3
  exact ⟨⟨Lns.nil w, BS.nil _ _, Many.nil _ _ _ _, Nat.le_refl _, by simp [maxLen, Ev.bare], fun h => absurd h (by simp [Ev.bare]), fun h => absurd h (by simp [Ev.bare])⟩, fun S => ⟨fun h => absurd h (by simp [Ev.bare]), fun h => absurd h (by simp [Ev.bare])⟩⟩
/-- A whole block's text is no longer than the bound. -/
theorem onS_len {s : Option Part} {ty st : Int} {t : List UInt8} {e h : Bool} {s' : Option Part} {a : Int} {l : List UInt8} {b : Bool} {f : Bool} (hr : onS 16384 s ty st t e h = (s', some (a, l, b), f)) : (l.length : Int) ≤ 16384 := by
  cases s with
  | none =>
    simp only [onS] at hr
    split at hr
    · cases hr
    split at hr
    · cases hr
    split at hr
    · cases hr
    split at hr
    · rename_i h1 _
      cases hr
      omega
    · cases hr
  | some x =>
    obtain ⟨a', l', b'⟩ := x
    simp only [onS] at hr
    split at hr
    · cases hr
    split at hr
    · cases hr
    split at hr
    · cases hr
    split at hr
    · rename_i h1 _
      cases hr
      simp only [List.length_append]
      omega
    · cases hr
end Go.Proofs.YtginhebfjbhmnaaGreat

