/-
  Contracts of package slots: the iterator over a tenant's ticks.
-/
import Derived.Test.YtalojmebbccdnaaSlotsL
import Derived.RangeFuncNested
import Derived.RangeFuncBound
import Derived.RangeFuncCalls
import Derived.RangeFuncLeaves
import Derived.RangeFuncBox
import Derived.RangeFuncWrites
import Derived.Shelf.Abstract
import Derived.Shelf.RegionOpen
import Derived.WalkKit
import Derived.OwnWalkIn
import Derived.TacticsInMore
import Derived.LoopNIn
import Derived.LoopIn
namespace Go.Proofs.Ytalojmebbccdnaa
set_option linter.unusedVariables false
open Go.RowKit Go.Shelf

attribute [local go_sem] Oper.semAt_some

/-- The tenant's tick number j, from f on. -/
def tkT (a f n : Int) (j : Nat) : Int := SM.nextOf a f n + (j : Int) * n
theorem tkT_succ (a f n : Int) (j : Nat) : tkT a f n (j + 1) = tkT a f n j + n := by
  unfold tkT
  rw [Int.natCast_add, Int.add_mul]
  omega
theorem tkT_zero (a f n : Int) : tkT a f n 0 = SM.nextOf a f n := by simp [tkT]
theorem tkT_mono (a f n : Int) (hn : 1 ≤ n) {i j : Nat} (h : i ≤ j) : tkT a f n i + ((j : Int) - i) ≤ tkT a f n j := by
  obtain ⟨d, rfl⟩ := Nat.exists_eq_add_of_le h
  clear h
  induction d with
  | zero => simp
  | succ d ih =>
    rw [← Nat.add_assoc, tkT_succ]
    omega
theorem tkT_ne (a f n : Int) (hn : 1 ≤ n) {i j : Nat} (h : i ≠ j) : tkT a f n i ≠ tkT a f n j := by
  rcases Nat.lt_or_ge i j with h1 | h1
  · have := tkT_mono a f n hn (Nat.le_of_lt h1); omega
  · have := tkT_mono a f n hn h1; omega
theorem tkT_mod (a f n : Int) (h1 : 1 ≤ n) (ha : 0 ≤ a) (hb : a < n) (j : Nat) : tkT a f n j % n = a := by
  have h := SM.next_mod a f n h1 ha hb
  unfold tkT
  rw [Int.add_mul_emod_self_right, h]
theorem tkT_ge (a f n : Int) (h1 : 1 ≤ n) (h0 : 0 ≤ f) (ha : 0 ≤ a) (hb : a < n) (j : Nat) : f ≤ tkT a f n j := by
  have h := SM.next_bd a f n h1 ha hb
  have := tkT_mono a f n h1 (Nat.zero_le j)
  rw [tkT_zero] at this
  omega
def encT (a f n : Int) (j : Nat) : Array Value := #[.int .i64 (tkT a f n j)]
/-- The blocks from q to q + 2 stay. -/
def KpT (q : Nat) (A B : World) : Prop := ∀ b, q ≤ b → b < q + 3 → B.heap[b]? = A.heap[b]?
def OkT (a f n : Int) : Prop := 0 ≤ f ∧ f ≤ 1073741823 ∧ 1 ≤ n ∧ n ≤ 64 ∧ 0 ≤ a ∧ a < n ∧ SM.nextOf a f n ≤ 1073741823
theorem Fresh.grownN {w w' : World} (h : Fresh w w') : w.grownBy w' none := ⟨Below.os h, Below.tape h, Below.output h, Below.size h, fun k hk _ => Below.block h k hk⟩
theorem turns_ret (f a n : Int) (w : World) : Calls Try.prog 18 #[.int .i64 f, .int .i64 a, .int .i64 n] w fun e w' =>
    e = .returned (.func (.func 23) #[] #[.pointer (some ⟨w.heap.size + 1, 0, none⟩), .pointer (some ⟨w.heap.size, 0, none⟩), .pointer (some ⟨w.heap.size + 2, 0, none⟩)]) ∧ w' = ((w.alloc (.cells #[.int .i64 f] 3)).alloc (.cells #[.int .i64 a] 3)).alloc (.cells #[.int .i64 n] 3) := by
  go_enter Try.func18, Try.ntmps18
  go_wp2
  go_ret
  exact ⟨rfl, rfl⟩
/-- The three boxes, and the blocks that hold them. -/
structure BxT (W : World) (q : Nat) (f a n : Int) : Prop where
  bf : Boxed W q 3 (.int .i64 f)
  ba : Boxed W (q + 1) 3 (.int .i64 a)
  bn : Boxed W (q + 2) 3 (.int .i64 n)
theorem BxT.kept {W W' : World} {q : Nat} {f a n : Int} (h : BxT W q f a n) (hk : KpT q W W') : BxT W' q f a n :=
  ⟨(hk q (by omega) (by omega)).trans h.bf, (hk (q + 1) (by omega) (by omega)).trans h.ba, (hk (q + 2) (by omega) (by omega)).trans h.bn⟩
theorem BxT.fresh {W W' : World} {q : Nat} {f a n : Int} (h : BxT W q f a n) (hk : Fresh W W') : BxT W' q f a n :=
  ⟨(Below.block hk q h.bf.lt).trans h.bf, (Below.block hk (q + 1) h.ba.lt).trans h.ba, (Below.block hk (q + 2) h.bn.lt).trans h.bn⟩
theorem BxT.below {W W' : World} {q : Nat} {f a n : Int} (h : BxT W q f a n) (hk : Below W.heap.size W W') : BxT W' q f a n := h.fresh hk
set_option maxRecDepth 100000 in
set_option maxHeartbeats 2000000 in
theorem turns_no (d : Nat) (hd : 2 ≤ d) (f a n : Int) (q : Nat) (w : World) (hb : BxT w q f a n) (h : ¬ OkT a f n) :
    SeqStopsK Fence.wide d Try.prog 23 #[.pointer (some ⟨q + 1, 0, none⟩), .pointer (some ⟨q, 0, none⟩), .pointer (some ⟨q + 2, 0, none⟩)] (encT a f n) (KpT q) (fun ys => ys = []) (fun _ => False) 0 w := fun l J Jx W hW hJ hJx hY h0 => by
  have hgo : ∀ (pre : List Nat) (W W' : World), J pre W → Below W.heap.size W W' → J pre W' := fun pre W W' hj hf => hJ pre W W' none hj (Fresh.grownN hf) (fun r e => by cases e)
  have hb' := hb.below hW
  have c1 := hb'.bf.cell
  have c2 := hb'.ba.cell
  have c3 := hb'.bn.cell
  refine callsIn_of_wp Try.func23 rfl trivial ?_ rfl
  simp only [Try.ntmps23, List.size_toArray, List.length_cons, List.length_nil, Nat.reduceAdd, Nat.reduceSub, Array.replicate_succ, Array.replicate_zero, List.push_toArray, List.append_toArray, List.nil_append, List.cons_append]
  gi_wp2_with (refine ⟨trivial, fun h => (by cases h), ?_⟩; gi_at_call 13; refine (callsIn_wide.2 (next_no _ _ _ _ h)).mono ?_; rintro e w1 ⟨rfl, hf1⟩; have hJ1 := hgo _ _ _ h0 hf1; clear h0 hf1)
  refine bodyPost_ret (results_none rfl _ _ _) rfl ?_
  exact ⟨⟨_, rfl⟩, .inl ⟨_, rfl, hJ1⟩⟩
set_option maxRecDepth 100000 in
set_option maxHeartbeats 2000000 in
theorem turns_yes (d : Nat) (hd : 2 ≤ d) (f a n : Int) (q : Nat) (w : World) (hb : BxT w q f a n) (h : OkT a f n) (K : Nat) (hK1 : ∀ j, j < K → tkT a f n j ≤ 1073741823) (hK2 : 1073741823 < tkT a f n K) :
    SeqStopsK Fence.wide d Try.prog 23 #[.pointer (some ⟨q + 1, 0, none⟩), .pointer (some ⟨q, 0, none⟩), .pointer (some ⟨q + 2, 0, none⟩)] (encT a f n) (KpT q) (fun ys => ys = List.range K) (fun pre => ∃ k, pre = List.range k) K w := fun l J Jx W hW hJ hJx hY h0 => by
  have hgo : ∀ (pre : List Nat) (W W' : World), J pre W → Below W.heap.size W W' → J pre W' := fun pre W W' hj hf => hJ pre W W' none hj (Fresh.grownN hf) (fun r e => by cases e)
  have hb' := hb.below hW
  have c1 := hb'.bf.cell
  have c2 := hb'.ba.cell
  have c3 := hb'.bn.cell
  obtain ⟨p0, p1, p2, p3, p4, p5, p6⟩ := h
  have HB := Lib.hid hb'
  have HK1 := Lib.hid hK1
  have HK2 := Lib.hid hK2
  have HG := Lib.hid (fun j => tkT_ge a f n p2 p0 p4 p5 j)
  have HS := Lib.hid (fun j => tkT_succ a f n j)
  have HZ := tkT_zero a f n
  have HN := Lib.hid (fun w => next_yes a f n w p0 p1 p2 p3 p4 p5 p6)
  rw [← HZ] at HN
  clear hb' hK1 hK2 p6 HZ hb
  refine callsIn_of_wp Try.func23 rfl trivial ?_ rfl
  simp only [Try.ntmps23, List.size_toArray, List.length_cons, List.length_nil, Nat.reduceAdd, Nat.reduceSub, Array.replicate_succ, Array.replicate_zero, List.push_toArray, List.append_toArray, List.nil_append, List.cons_append]
  gi_wp2_with (refine ⟨trivial, fun h => (by cases h), ?_⟩; gi_at_call 13; refine (callsIn_wide.2 (HN.out _)).mono ?_; rintro e w1 ⟨rfl, hf1⟩; have hJ1 := hgo _ _ _ h0 hf1; have HB1 := Lib.hid (HB.out.fresh hf1); clear h0 hf1 c1 c2 c3)
  gi_loopw [7] (fun t wr => ∃ k : Nat, k ≤ K ∧ t = .int .i64 (tkT a f n k) ∧ J (List.range k) wr ∧ BxT wr q f a n) (fun t _ => (1073741824 - intOf t).toNat)
  case atStart => exact ⟨0, Nat.zero_le _, rfl, hJ1, HB1.out⟩
  case round =>
    obtain ⟨k, hk, rfl, hJs, hbs⟩ := hrel
    have hg := HG.out k
    by_cases hlt : k < K
    · have hle := HK1.out k hlt
      have hw : IntKind.i64.wrap (tkT a f n k + n) = tkT a f n k + n := by rw [IntKind.wrap_i64]; omega
      obtain ⟨fn, tmps, assign, body, hy, hR⟩ := hY _ k wr hJs (by rw [List.length_range]; exact hlt)
      dsimp only [encT] at hy
      have HU := Lib.hid (List.range_succ (n := k))
      have HSk := Lib.hid (HS.out k)
      generalize tkT a f n k = tk at *
      gi_wp2
      refine ⟨fun h => (by cases h), ?_⟩
      refine hR.mono ?_
      rintro e W3 (⟨rfl, hJ3, hkp⟩ | ⟨rfl, hJx3⟩)
      · have HB3 := Lib.hid (hbs.kept hkp)
        have c3 := (hbs.kept hkp).bn.cell
        gi_wp2
        go_roundw
        case rel => exact ⟨k + 1, by omega, by rw [HSk.out], by rw [HU.out]; exact hJ3, HB3.out⟩
        case measure => simp [intOf]; omega
      · gi_wp2
        refine bodyPost_ret (results_none rfl _ _ _) rfl ?_
        exact ⟨⟨_, rfl⟩, .inr ⟨_, ⟨k + 1, HU.out.symm⟩, hJx3⟩⟩
    · obtain rfl : k = K := by omega
      have hlt := HK2.out
      have hnl : ¬ tkT a f n k ≤ 1073741823 := by omega
      have hnd : decide (tkT a f n k ≤ 1073741823) = false := decide_eq_false hnl
      gi_wp2
      go_end0
      exact ⟨⟨_, rfl⟩, .inl (by first | exact hJs | exact ⟨_, rfl, hJs⟩)⟩
end Go.Proofs.Ytalojmebbccdnaa
