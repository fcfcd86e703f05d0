/-
  The law DynAll: its argument; ahead of the loops.
-/
import Derived.Test.YthjajipagfojoaaDynO
namespace Go.Proofs.Ythjajipagfojoaa
set_option linter.unusedVariables false
set_option linter.unusedSimpArgs false
open Go.RowKit Go.ChangeShapes Go.WideShapes Go.Deep
structure AllA where
  (lim : Int) (ops more : OpsV) (stop : Int)
def AllA.v (z : AllA) : Value := .agg #[.int .i64 z.lim, z.ops.v, z.more.v, .int .i64 z.stop]
structure AllA.Ok (w : World) (z : AllA) : Prop where
  l0 : -9223372036854775808 ≤ z.lim
  l1 : z.lim ≤ 9223372036854775807
  s0 : -9223372036854775808 ≤ z.stop
  s1 : z.stop ≤ 9223372036854775807
  ops : z.ops.Ok w
  more : z.more.Ok w
theorem opens_opsW : OpensW Try.prog 22 (fun w cs => ∃ s : OpsV, cs = [s.v] ∧ s.Ok w) := (opensW_slice (sz := 4) (bytes := 48) Try.underlying22 opens_op (by kernel_rfl) (by omega) (by kernel_rfl)).mono (fun _ _ h => qops h.sl)
theorem opens_all : OpensW Try.prog 46 (fun w cs => ∃ z : AllA, cs = [.int .i64 z.lim, z.ops.v, z.more.v, .int .i64 z.stop] ∧ z.Ok w) :=
  (opensW_struct (sz := 4) [(0, 1, QInt .i64), (1, 1, fun w cs => ∃ s : OpsV, cs = [s.v] ∧ s.Ok w), (2, 1, fun w cs => ∃ s : OpsV, cs = [s.v] ∧ s.Ok w), (3, 1, QInt .i64)] Try.underlying46 (by kernel_rfl) (by
    intro p hp
    simp only [List.mem_cons, List.not_mem_nil, or_false] at hp
    rcases hp with rfl | rfl | rfl | rfl
    · exact ⟨0, _, rfl, rfl, by kernel_rfl, (opens_int Try.underlying3).w⟩
    · exact ⟨1, _, rfl, rfl, by kernel_rfl, opens_opsW⟩
    · exact ⟨2, _, rfl, rfl, by kernel_rfl, opens_opsW⟩
    · exact ⟨3, _, rfl, rfl, by kernel_rfl, (opens_int Try.underlying3).w⟩)).mono (by
    intro w cs ⟨hl, h⟩
    match cs, hl with
    | [c0, c1, c2, c3], _ =>
      obtain ⟨k, e0, l0⟩ := h _ (List.mem_cons_self ..)
      obtain ⟨s1, e1, l1⟩ := h _ (List.mem_cons_of_mem _ (List.mem_cons_self ..))
      obtain ⟨s2, e2, l2⟩ := h _ (List.mem_cons_of_mem _ (List.mem_cons_of_mem _ (List.mem_cons_self ..)))
      obtain ⟨n, e3, l3⟩ := h _ (List.mem_cons_of_mem _ (List.mem_cons_of_mem _ (List.mem_cons_of_mem _ (List.mem_cons_self ..))))
      simp at e0 e1 e2 e3
      subst e0 e1 e2 e3
      have h0 := wf_i64_bd l0
      have h3 := wf_i64_bd l3
      exact ⟨⟨k, s1, s2, n⟩, rfl, h0.1, h0.2, h3.1, h3.2, l1, l2⟩)
section
variable {H : Type} {enc : TypeId × Value → H} {w : World} {base : Nat} {held : Bool} {v : Value} {d : DataW H} {p : List MemPlace} {r : Reach} {b0 : Nat}
theorem open_all (hv : Value.okWide Try.prog w r b0 46 v) (hd : DataW.Trod enc Try.prog w base (fun _ => true) held 46 v d p) (hw : ∀ m ∈ d.weights Try.prog 46, m ≤ reachBytes) :
    ∃ z : AllA, v = z.v ∧ z.Ok w := by
  obtain ⟨cs, rfl, z, hc, hz⟩ := opens_all.agg Try.underlying46 hv hd hw
  refine ⟨z, ?_, hz⟩
  unfold AllA.v
  congr 1
  apply Array.toList_inj.1
  rw [hc]
end
/-- The law's own boxes: what it answers, and stop. -/
structure BxA (w : World) (b2 b6 : Nat) (stop : Int) (W : World) : Prop where
  x2 : Blk W b2 4 #[.bool false]
  x6 : Blk W b6 3 #[.int .i64 stop]
  h2 : w.heap.size ≤ b2
  fr : Fresh w W
theorem sd_stepO {w0 w : World} {p c : Nat} {v : Value} {A : Option Addr} {fs : List FldT} {lim : Int} (o : OpT) (h : Sd w0 w p v A c fs lim) (hf : fz o.f ≤ 1000000000000000) :
    Calls Try.prog 11 #[.pointer (some ⟨p, 0, none⟩), .slice A fs.length c, .int .i64 lim, .agg #[.int .i64 o.k, .int .i64 o.n, .string o.f.1, .string o.f.2]] w fun e w' => ∃ A' c' v', e = .returned (.tuple #[.slice A' (stepF fs lim o).1.length c', .int .i64 (stepF fs lim o).2, .bool true]) ∧ Sd w0 w' p v' A' c' (stepF fs lim o).1 (stepF fs lim o).2 ∧
      ∀ g t cs, t ≠ 60 → t ≠ 31 → Blk w g t cs → Blk w' g t cs := by
  refine (step_any o h.sd hf).mono ?_
  rintro e w' ⟨A', c', v', rfl, hs, hv, ho⟩
  have hsz := h.fr.size
  refine ⟨A', c', v', rfl, ⟨hs, h.hp, fun k hk => ?_, Below.trans h.fr (Only.below ho hsz fun k e => ?_)⟩, fun g t cs h1 h2 hb => hb.only ho (h.sd.tab.apart h1 h2 g cs hb)⟩
  · rcases hv k hk with e | e
    · exact h.hv k e
    · omega
  · rcases e with rfl | e
    · exact h.hp
    · exact h.hv k e
theorem Sd.box {w0 w : World} {p c b : Nat} {v : Value} {A : Option Addr} {fs : List FldT} {lim : Int} {cs : Array Value} (h : Sd w0 w p v A c fs lim) (hb : Blk w b 29 cs) (hb0 : w0.heap.size ≤ b) (u : Value) : Sd w0 (w.setCell ⟨b, 0, none⟩ u) p v A c fs lim := by
  have ho := Only.setCell w ⟨b, 0, none⟩ u
  refine ⟨⟨h.sd.tab.only ho (fun e => h.sd.tab.blk.ne hb (by decide) e) (fun k hk e => ?_), h.sd.li.only ho (fun g cs hg e => hg.ne hb (by decide) e), Nat.le_trans h.sd.hb ho.size, h.sd.l0, h.sd.l1, h.sd.hz⟩, h.hp, h.hv, h.fr.step _ _ hb0⟩
  obtain ⟨cur, hc⟩ := ownBlkD h.sd.tab.own hk
  exact hc.ne hb (by decide) e
theorem Side.away {w w' : World} {base p c b1 b2 : Nat} {v : Value} {A : Option Addr} {fs : List FldT} {lim : Int} {cs1 cs2 : Array Value} (h : Side w base p v A c fs lim) (ho : Only (fun k => k = b1 ∨ k = b2) w w') (h1 : Blk w b1 3 cs1) (h2 : Blk w b2 4 cs2) : Side w' base p v A c fs lim := by
  refine ⟨h.tab.only ho ?_ ?_, h.li.only ho ?_, Nat.le_trans h.hb ho.size, h.l0, h.l1, h.hz⟩
  · rintro (e | e)
    · exact h.tab.blk.ne h1 (by decide) e
    · exact h.tab.blk.ne h2 (by decide) e
  · intro k hk
    obtain ⟨cur, hc⟩ := ownBlkD h.tab.own hk
    rintro (e | e)
    · exact hc.ne h1 (by decide) e
    · exact hc.ne h2 (by decide) e
  · intro g cs hg
    rintro (e | e)
    · exact hg.ne h1 (by decide) e
    · exact hg.ne h2 (by decide) e
theorem onlyT_own {β : Type} {T : Nat → Prop} {w : World} {B : Nat} (hB : w.heap.size ≤ B) : OwnFrom B (fun (_ : β) W => Only T w W) := fun s X Y row hs hg hr =>
  ⟨hg.os.trans hs.os, hg.tape.trans hs.tape, hg.output.trans hs.output, Nat.le_trans hs.size hg.size, fun k hk ht => (hg.block k (by have := hs.size; omega) (fun e => by have := (hr k e.symm).1; omega)).trans (hs.block k hk ht)⟩
theorem BxA.fresh {w W W' : World} {b2 b6 : Nat} {stop : Int} (h : BxA w b2 b6 stop W) (hf : Fresh W W') : BxA w b2 b6 stop W' := ⟨h.x2.fresh hf, h.x6.fresh hf, h.h2, h.fr.trans hf⟩
end Go.Proofs.Ythjajipagfojoaa
