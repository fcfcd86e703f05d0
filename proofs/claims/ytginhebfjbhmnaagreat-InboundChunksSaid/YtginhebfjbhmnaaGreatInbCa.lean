/-
  The law InboundChunks: what its loops keep.
-/
import Derived.Test.YtginhebfjbhmnaaGreatInbK
namespace Go.Proofs.YtginhebfjbhmnaaGreat
set_option maxRecDepth 100000
set_option linter.unusedVariables false
set_option linter.unusedSimpArgs false
open Go.RowKit
/-- Behind k frames: the bytes so far, the events so far, the first reader; the second one beside it. -/
structure Ck1 (w wr : World) (b0 p q : Nat) (TQ : Nat → Prop) (F : List Fr) (ka k : Nat) (AV : Value) (na : Nat) (WV : Value) (xs : List EvV) (st : RiSt) (co : Int) (cb : Bool) (T : Nat → Prop) : Prop where
  fr : Fresh w wr
  all : Own wr (b0 + 1) 5 1 AV na ((rowB (F.take ka)).map byteV)
  at_ : ∀ i, AV.ownBlock = some i → ¬ T i
  q : RiS w wr q (some ([], none, false)) TQ
  qlo : ∀ i, TQ i → i < b0
  out : OwnE wr (b0 + 1) WV xs
  oall : ∀ x ∈ xs, x.off (fun i => AV.ownBlock = some i)
  r : RiS w wr p st T
  pq : Sep T TQ
  xo : ∀ x ∈ xs, x.off T
  f9 : Blk wr b0 32 #[.int .i64 co, .bool cb]
  b0l : w.heap.size ≤ b0 ∧ b0 < wr.heap.size
  hcb : decide (co ≠ 0) = cb
  pre : (co = 0 ∧ ∃ s bg, st = some ([], s, bg) ∧ readAll none false (F.take k) = (xs.map EvV.e, 0, s, bg)) ∨ (co ≠ 0 ∧ st = none ∧ ∃ s bg, readAll none false F = (xs.map EvV.e, co, s, bg))
theorem Ck1.fresh {w wr wr' : World} {b0 p q : Nat} {TQ : Nat → Prop} {F : List Fr} {ka k : Nat} {AV : Value} {na : Nat} {WV : Value} {xs : List EvV} {st : RiSt} {co : Int} {cb : Bool} {T : Nat → Prop} (h : Ck1 w wr b0 p q TQ F ka k AV na WV xs st co cb T) (hf : Fresh wr wr') : Ck1 w wr' b0 p q TQ F ka k AV na WV xs st co cb T :=
  ⟨h.fr.trans hf, h.all.fresh hf, h.at_, h.q.fresh hf, h.qlo, h.out.fresh hf, h.oall, h.r.fresh hf, h.pq, h.xo, h.f9.fresh hf, ⟨h.b0l.1, by have := h.b0l.2; have := hf.size; omega⟩, h.hcb, h.pre⟩
/-- The frame's bytes are put behind the others. -/
theorem Ck1.grow {w wr w2 : World} {b0 p q : Nat} {TQ : Nat → Prop} {F : List Fr} {ka k : Nat} {AV : Value} {na : Nat} {WV : Value} {xs : List EvV} {st : RiSt} {co : Int} {cb : Bool} {T : Nat → Prop} (h : Ck1 w wr b0 p q TQ F ka k AV na WV xs st co cb T) (f : Fr) (hf : F[ka]? = some f) (AV' : Value) (na' : Nat) (ho : Own w2 (b0 + 1) 5 1 AV' na' ((rowB (F.take ka) ++ frB2 f.x f.y f.st f.pl).map byteV)) (hO : Only (fun i => AV.ownBlock = some i) wr w2) (hat : AV'.ownBlock = AV.ownBlock ∨ AV'.ownBlock = some wr.heap.size) : Ck1 w w2 b0 p q TQ F (ka + 1) k AV' na' WV xs st co cb T := by
  have hz := hO.size
  have hlo : ∀ i, AV.ownBlock = some i → b0 + 1 ≤ i ∧ i < wr.heap.size := fun i hi => h.all.lt i hi
  have hnew : ∀ i, AV'.ownBlock = some i → AV.ownBlock = some i ∨ wr.heap.size ≤ i := fun i hi => by
    rcases hat with e | e
    · rw [e] at hi; exact .inl hi
    · rw [e] at hi; injection hi with hi; omega
  have hodd : ∀ i t cs, Blk wr i t cs → t ≠ 5 → ¬ AV.ownBlock = some i := fun i t cs hb ht e => by
    obtain ⟨cs', hc⟩ := h.all.blk e
    exact hb.ne hc ht rfl
  have hb0 := h.b0l
  refine ⟨Only.fresh ((Only.of_fresh h.fr).trans hO) (fun i hi e => by have := hlo i e; omega), ?_, fun i hi => ?_, h.q.only hO (fun i hi e => by have := hlo i e; have := h.qlo i hi; omega) (fun i e => by have := hlo i e; omega), h.qlo, h.out.only hO (fun i hi => ?_) (fun g cs hg => hodd _ _ _ hg (by decide)) h.oall, fun x hx => ((h.oall x hx).or (h.out.2.1 x hx).lt).mono hnew, h.r.only hO (fun i hi e => h.at_ i e hi) (fun i e => by have := hlo i e; omega), h.pq, h.xo, h.f9.only hO (hodd _ _ _ h.f9 (by decide)), ⟨hb0.1, by omega⟩, h.hcb, h.pre⟩
  · obtain ⟨hk, he⟩ := List.getElem?_eq_some_iff.1 hf
    rw [List.take_succ_eq_append_getElem hk, he, rowB_snoc]
    exact ho
  · rcases hnew i hi with e | e
    · exact h.at_ i e
    · intro hT
      have := (h.r.lo i hT).2
      omega
  · obtain ⟨_, _, cs, hb⟩ := h.out.blk hi
    exact hodd _ _ _ hb (by decide)
/-- The first reader took a frame, its fault and its events were put down. -/
theorem Ck1.feed {w W W1 W2 : World} {b0 p q : Nat} {TQ : Nat → Prop} {F : List Fr} {ka k k' : Nat} {AV : Value} {na : Nat} {WV : Value} {xs : List EvV} {st : RiSt} {T : Nat → Prop} {cb : Bool} (h : Ck1 w W b0 p q TQ F ka k AV na WV xs st 0 cb T) {ys : List EvV} {YA : Option Addr} {yn yc : Nat} {st' : RiSt} {co' : Int} {cb' : Bool} {T' : Nat → Prop}
    (hy : OwnE W1 W.heap.size (.slice YA yn yc) ys) (ho : Only T W W1) (hr : RiS w W1 p st' T') (hg : ∀ i, T' i → T i ∨ W.heap.size ≤ i) (hyo : ∀ y ∈ ys, y.off T') (hb9 : Blk W2 b0 32 #[.int .i64 co', .bool cb']) (ho9 : Only (· = b0) W1 W2) (hcb : decide (co' ≠ 0) = cb')
    (hpre : (co' = 0 ∧ ∃ s bg, st' = some ([], s, bg) ∧ readAll none false (F.take k') = (xs.map EvV.e ++ ys.map EvV.e, 0, s, bg)) ∨ (co' ≠ 0 ∧ st' = none ∧ ∃ s bg, readAll none false F = (xs.map EvV.e ++ ys.map EvV.e, co', s, bg))) (n m : Nat) (hn : xs.length = n) (hm : n + yn = m) (hlen : m * 112 ≤ 140737488355328) :
    ∃ A' c' W3, (Builtin.append_ #[29, 29] 29 #[WV, .slice YA yn yc]).run Tryz.prog W2 = .ok (.slice A' m c') W3 ∧ Ck1 w W3 b0 p q TQ F ka k' AV na (.slice A' m c') (xs ++ ys) st' co' cb' T' := by
  have hb0 := h.b0l
  have hz1 := ho.size
  have hz2 := ho9.size
  have hodd9 : ∀ i t cs, Blk W1 i t cs → t ≠ 32 → ¬ i = b0 := fun i t cs hb ht e => by
    subst e
    exact hb.ne (h.f9.only ho (h.r.odd h.f9 (by decide))) ht rfl
  -- behind Feed
  obtain ⟨hout1, hxo1⟩ := h.out.feedT h.r h.xo ho hg
  have hq1 : RiS w W1 q (some ([], none, false)) TQ := h.q.only ho (fun i hi e => h.pq i e hi) (fun i e => (h.r.lo i e).1)
  have hal1 : Own W1 (b0 + 1) 5 1 AV na ((rowB (F.take ka)).map byteV) := h.all.only ho h.at_
  have hal : ∀ i, AV.ownBlock = some i → b0 + 1 ≤ i ∧ i < W.heap.size := fun i hi => h.all.lt i hi
  -- behind the store
  have hout2 : OwnE W2 (b0 + 1) WV xs := hout1.only ho9 (fun i hi => by
    obtain ⟨_, _, cs, hb⟩ := hout1.blk hi
    exact hodd9 _ _ _ hb (by decide)) (fun g cs hg => hodd9 _ _ _ hg (by decide)) (fun x hx => (hout1.2.1 x hx).low.mono (fun i e => by omega))
  have hy2 : OwnE W2 W.heap.size (.slice YA yn yc) ys := hy.only ho9 (fun i hi => by
    obtain ⟨_, _, cs, hb⟩ := hy.blk hi
    exact hodd9 _ _ _ hb (by decide)) (fun g cs hg => hodd9 _ _ _ hg (by decide)) (fun x hx => (hy.2.1 x hx).low.mono (fun i e => by omega))
  have hq2 : RiS w W2 q (some ([], none, false)) TQ := hq1.only ho9 (fun i hi e => by have := h.qlo i hi; omega) (fun i e => by omega)
  have hr2 : RiS w W2 p st' T' := hr.only ho9 (fun i hi e => by
    subst e
    exact hr.odd (h.f9.only ho (h.r.odd h.f9 (by decide))) (by decide) hi) (fun i e => by omega)
  have hal2 : Own W2 (b0 + 1) 5 1 AV na ((rowB (F.take ka)).map byteV) := hal1.only ho9 (fun i hi => by
    obtain ⟨cs, hb⟩ := hal1.blk hi
    exact hodd9 _ _ _ hb (by decide))
  -- behind the append
  have hwv : ∀ i, WV.ownBlock = some i → b0 + 1 ≤ i ∧ i < W.heap.size := fun i hi => ⟨(h.out.blk hi).1, (h.out.blk hi).2.1⟩
  obtain ⟨A', c', W3, hrun, hout3, hO3, hn3⟩ := hout2.append (by omega) hy2 (by omega) (fun y hys => (hy.2.1 y hys).low.mono (fun i e => (hwv i e).2)) n m hn hm hlen
  have hz3 := hO3.size
  have hoddw : ∀ i t cs, Blk W2 i t cs → t ≠ 42 → ¬ WV.ownBlock = some i := fun i t cs hb ht e => by
    obtain ⟨_, _, cs', hc⟩ := hout2.blk e
    exact hb.ne hc ht rfl
  have hfr1 : Fresh w W1 := Only.fresh ((Only.of_fresh h.fr).trans ho) (fun i hi e => by have := (h.r.lo i e).1; omega)
  have hfr2 : Fresh w W2 := Only.fresh ((Only.of_fresh hfr1).trans ho9) (fun i hi e => by omega)
  refine ⟨A', c', W3, hrun, ⟨?_, hal2.only hO3 (fun i hi => ?_), fun i hi hT => ?_, hq2.only hO3 (fun i hi e => by have := h.qlo i hi; have := hwv i e; omega) (fun i e => by have := hwv i e; omega), h.qlo, hout3, fun x hx => ?_, hr2.only hO3 (fun i hi e => ?_) (fun i e => by have := hwv i e; omega), fun i hT hQ => ?_, fun x hx => ?_, hb9.only hO3 (hoddw _ _ _ hb9 (by decide)), ⟨hb0.1, by omega⟩, hcb, ?_⟩⟩
  · exact Only.fresh ((Only.of_fresh hfr2).trans hO3) (fun i hi e => by have := hwv i e; omega)
  · obtain ⟨cs, hb⟩ := hal2.blk hi
    exact hoddw _ _ _ hb (by decide)
  · rcases hg i hT with e | e
    · exact h.at_ i hi e
    · have := (hal i hi).2; omega
  · rcases List.mem_append.1 hx with hx | hx
    · exact h.oall x hx
    · exact (hy.2.1 x hx).low.mono (fun i e => (hal i e).2)
  · obtain ⟨_, _, cs, hb⟩ := hout2.blk e
    exact hr2.odd hb (by decide) hi
  · rcases hg i hT with e | e
    · exact h.pq i e hQ
    · have := h.qlo i hQ; omega
  · rcases List.mem_append.1 hx with hx | hx
    · exact hxo1 x hx
    · exact hyo x hx
  · rw [List.map_append]
    exact hpre
end Go.Proofs.YtginhebfjbhmnaaGreat

