/-
  Package dyn: the iterator over a table.
-/
import Derived.Test.YthjajipagfojoaaDynI
namespace Go.Proofs.Ythjajipagfojoaa
set_option linter.unusedVariables false
set_option linter.unusedSimpArgs false
open Go.RowKit Go.Shelf
attribute [local go_sem] Oper.semAt_some
theorem blk_own {β : Type} (B g : Nat) (t : TypeId) (cs : Array Value) : OwnFrom B (fun (_ : β) W => Blk W g t cs) := fun s X Y row hs hg hr => by
  refine (hg.block g hs.lt (fun e => ?_)).trans hs
  obtain ⟨_, o, ho, hc⟩ := hr g e.symm
  rw [show X.heap[g]? = _ from hs] at ho
  cases ho
  cases hc
theorem ownFrom_le {β : Type} {B B' : Nat} {I : β → World → Prop} (h : OwnFrom B I) (hB : B ≤ B') : OwnFrom B' I := fun s X Y row hs hg hr => h s X Y row hs hg (fun r e => ⟨by have := (hr r e).1; omega, (hr r e).2⟩)
theorem ownFrom_map {α β : Type} {B : Nat} {I : β → World → Prop} (h : OwnFrom B I) (f : α → β) : OwnFrom B (fun s W => I (f s) W) := fun s X Y row hs hg hr => h (f s) X Y row hs hg hr
theorem roundIn_wide {n m l0 l : Nat} {P : Program} {f : FuncId} {tmps : Array Value} {assign body : Code} {w : World} {R : Ending → World → Prop} (h : RoundIn Fence.wide n P l f tmps assign body w R) : RoundIn (Fence.wide.inRound l0) m P l f tmps assign body w R :=
  ⟨h.1, fun c cs _ => h.2 c cs (fun d hd => by cases hd)⟩
theorem Fresh.grownN {w w' : World} (h : Fresh w w') : w.grownBy w' none := ⟨Below.os h, Below.tape h, Below.output h, Below.size h, fun k hk _ => Below.block h k hk⟩
def encA (f : FldT) : Array Value := #[.agg #[.string f.1, .string f.2]]
set_option maxRecDepth 100000 in
set_option maxHeartbeats 4000000 in
theorem tab_seq (n base p q : Nat) (v : Value) (fs : List FldT) (lim : Int) (T : Nat → Prop) (w : World) (hn : 6 ≤ n) (hlen : fs.length ≤ 1000000) (hq : Blk w q 25 #[.pointer (some ⟨p, 0, none⟩)]) (ht : TabAt w base p v fs lim)
    (hTq : ¬ T q) (hTp : ¬ T p) (hTv : ∀ k, v.ownBlock = some k → ¬ T k) (hT : ∀ k, T k → k < w.heap.size) :
    SeqT Fence.wide n Try.prog 30 #[.pointer (some ⟨q, 0, none⟩)] encA (fun ys => ys = fs.reverse) (fun pre => ∃ k, k ≤ fs.length ∧ pre = fs.reverse.take k) fs.length T w := fun l J Jx W hW hl0 hl hJ hJx hY h0 => by
  obtain ⟨A, c, rfl, _⟩ := ht.own.slice
  have HQ := Lib.hid (And.intro hq (And.intro ht (And.intro hTq (And.intro hTp (And.intro hTv hT)))))
  have HJ := Lib.hid hJ
  have HJX := Lib.hid hJx
  have HW := Lib.hid hW
  have HY := Lib.hid hY
  obtain ⟨N, hN⟩ : ∃ N, fs.length = N := ⟨_, rfl⟩
  have HN := Lib.hid hN
  have c0 : W.cell? ⟨q, 0, none⟩ = some (.pointer (some ⟨p, 0, none⟩)) := (hq.fresh hW).cell 0
  have c1 : W.cell? ⟨p, 0, none⟩ = some (.slice A N c) := by rw [← hN]; exact (ht.fresh hW).blk.cell 0
  have hqs := (hq.fresh hW).lt
  have hps := (ht.fresh hW).blk.lt
  rw [hN] at hlen
  clear hq ht hTq hTp hTv hN hY hJ hJx hT
  refine callsIn_of_wp_marks Try.func30 rfl trivial ?_ rfl
  simp only [Try.ntmps30, List.size_toArray, List.length_cons, List.length_nil, Nat.reduceAdd, Nat.reduceSub, Array.replicate_succ, Array.replicate_zero, List.push_toArray, List.append_toArray, List.nil_append, List.cons_append]
  gi_wp2_with (refine ⟨trivial, fun h => (by cases h), ?_⟩; gi_at_call 31; refine (callsIn_wide.2 (tab_back A N c _)).mono ?_; rintro e w1 ⟨q2, rfl, hq2, hq2l, hf1⟩; have HQ2 := Lib.hid (And.intro hq2 (And.intro hq2l hf1)); clear hq2 hq2l hf1)
  have hsz : W.heap.size < w1.heap.size := by obtain ⟨_, _, h3⟩ := HQ2.out; have := h3.size; simp at this; omega
  have hTl : ∀ k, (T k ∨ k = l) → k < W.heap.size := by
    obtain ⟨_, _, _, _, _, h6⟩ := HQ.out
    rintro k (e | e)
    · have := h6 k e; omega
    · omega
  have hF1 : Fresh W w1 := (Fresh.alloc _ _).trans HQ2.out.2.2
  have hy1 : Blk w1 W.heap.size 67 #[.func (.yield l) #[] #[]] := (Blk.new _ _ _).fresh HQ2.out.2.2
  have hJ1 : J [] w1 := HJ.out [] W w1 none h0 hF1.grownN (fun r e => by cases e)
  refine wpIn_rangeFunc_T rfl (by omega) (gf := 33) (lb := #[.pointer (some ⟨q2, 0, none⟩)]) rfl trivial (enters_of Try.func33 (by kernel_rfl) rfl)
    (back_seq (n - 1) base q2 c A fs (fun k => T k ∨ k = l) w1 (by omega) (by rw [HN.out]; exact hlen) (by rw [HN.out]; exact HQ2.out.1) ((HQ.out.2.1.own.fresh HW.out).fresh hF1) (fun h => by have := hTl _ h; have := HQ2.out.2.1; simp at this; omega)
      (fun k hk h => by
        rcases h with h | h
        · exact HQ.out.2.2.2.2.1 k hk h
        · have := (HQ.out.2.1.own.lt k hk).2; omega))
    (fun k h => by have := hTl k h; omega) (fun _ => rfl)
    (fun pre W' => J (pre.map (·.2)) W' ∧ Blk W' W.heap.size 67 #[.func (.yield l) #[] #[]])
    (fun cc pre W' => cc = .ret ∧ Jx (pre.map (·.2)) W')
    (OwnFrom.and (ownFrom_map (ownFrom_le HJ.out (by omega)) _) (blk_own _ _ _ _))
    (fun cc => OwnFrom.and (ownFrom_pure _ (fun _ => cc = .ret)) (ownFrom_map (ownFrom_le HJX.out (by omega)) _))
    ⟨hJ1, hy1⟩
    (fun x a' W' => ∃ Bx, W.heap.size < Bx ∧ Blk W' Bx 31 #[.string x.2.1, .string x.2.2] ∧ a' = { tmps := #[.func (.yield l) #[] #[], .pointer (some ⟨q, 0, none⟩), .pointer (some ⟨W.heap.size, 0, none⟩), undef, .pointer (some ⟨Bx, 0, none⟩), .pointer (some ⟨p, 0, none⟩), .pointer (some ⟨p, 0, none⟩), .pointer (some ⟨p, 0, none⟩), .slice A N c, .func (.func 33) #[] #[.pointer (some ⟨q2, 0, none⟩)], .int .i64 (x.1 : Int), .agg #[.string x.2.1, .string x.2.2], undef, undef, undef, undef], defers := [] })
    (fun x a' s X Y row hs hg hr => by
      obtain ⟨Bx, h1, h2, h3⟩ := hs
      exact ⟨Bx, h1, blk_own (β := Unit) _ _ _ _ () X Y row h2 hg hr, h3⟩)
    ?assign ?body ?done ?stop
  case assign =>
    rintro l2 pre x W' K ⟨hJ', hb⟩ hK
    have hlt := hb.lt
    have HJ' := Lib.hid hJ'
    clear hJ' h0 hJ1
    dsimp only [encB]
    gi_wp2
    exact hK _ _ (Only.of_fresh (Fresh.alloc _ _)) ⟨(ownFrom_map HJ.out _).alloc _ HJ'.out, hb.alloc _⟩ ⟨W'.heap.size, hlt, Blk.new _ _ _, rfl⟩
  case body =>
    rintro l2 pre x a' W' ⟨hJ', hb⟩ ⟨Bx, hBx, hbx, rfl⟩ hlen'
    have k1 := hb.cell 0
    obtain ⟨x0, x1⟩ := hbx.c2
    obtain ⟨fn, tmps, assign, body, hy, hR⟩ := HY.out (pre.map (·.2)) x.2 W' hJ' (by simpa using hlen')
    dsimp only [encA] at hy
    have HB := Lib.hid hb
    have HBX := Lib.hid hbx
    clear hb hbx hJ' h0 hJ1 hy1
    gi_wp2
    refine ⟨fun h => (by cases h), ?_⟩
    refine (roundIn_wide hR).mono ?_
    have hnl : ¬ (T W.heap.size ∨ W.heap.size = l) := fun h => by have := hTl _ h; omega
    have hpm : (pre ++ [x]).map (·.2) = pre.map (·.2) ++ [x.2] := by simp
    rintro e W3 ⟨hO3, (⟨rfl, hJ3⟩ | ⟨rfl, hJx3⟩)⟩
    · have HF := Lib.hid (And.intro hO3 (And.intro hJ3 hpm))
      clear hO3 hJ3 hpm
      gi_wp2
      obtain ⟨g1, g2, g3⟩ := HF.out
      exact ⟨g1, by rw [g3]; exact g2, HB.out.only g1 hnl⟩
    · have HF := Lib.hid (And.intro hO3 (And.intro hJx3 hpm))
      clear hO3 hJx3 hpm
      gi_wp2
      obtain ⟨g1, g2, g3⟩ := HF.out
      exact ⟨g1, rfl, by rw [g3]; exact g2⟩
  case done =>
    rintro D ys W' hD rfl ⟨hJ', hb⟩ hK
    have hpm := downF_map fs fs.length (Nat.le_refl _)
    rw [List.take_of_length_le (by simp)] at hpm
    rw [hpm] at hJ'
    have HJ' := Lib.hid hJ'
    clear hJ' hpm h0 hJ1 hy1
    gi_wp2
    refine ⟨by simp, .inl ⟨_, _, rfl, run_takeDeferred hK, ?_⟩⟩
    exact ⟨_, results_none rfl _ _ _, ⟨_, rfl⟩, .inl ⟨_, rfl, HJ.out.putObj _ HJ'.out (by omega) hK rfl⟩⟩
  case stop =>
    rintro D cc pre W' hD ⟨k, hk, rfl⟩ ⟨rfl, hJ'⟩ hK
    rw [downF_map fs k hk] at hJ'
    have HJ' := Lib.hid hJ'
    clear hJ' h0 hJ1 hy1
    gi_wp2
    refine ⟨by simp, .inl ⟨_, _, rfl, run_takeDeferred hK, ?_⟩⟩
    exact ⟨_, results_none rfl _ _ _, ⟨_, rfl⟩, .inr ⟨_, ⟨k, hk, rfl⟩, HJX.out.putObj _ HJ'.out (by omega) hK rfl⟩⟩
end Go.Proofs.Ythjajipagfojoaa
