/-
  Package dyn: the iterators.
-/
import Derived.Test.YthjajipagfojoaaDynH
import Derived.Test.YthjajipagfojoaaSeq
namespace Go.Proofs.Ythjajipagfojoaa
set_option linter.unusedVariables false
set_option linter.unusedSimpArgs false
open Go.RowKit Go.Shelf
attribute [local go_sem] Oper.semAt_some
theorem tab_back (A : Option Addr) (n c : Nat) (w : World) : Calls Try.prog 31 #[.slice A n c] w fun e w' => ∃ q, e = .returned (.func (.func 33) #[] #[.pointer (some ⟨q, 0, none⟩)]) ∧ Blk w' q 58 #[.slice A n c] ∧ w.heap.size ≤ q ∧ Fresh w w' := by
  go_enter Try.func31, Try.ntmps31
  go_wp2
  go_ret
  exact ⟨_, rfl, Blk.new _ _ _, Nat.le_refl _, Fresh.alloc _ _⟩
theorem tab_all (p : Nat) (w : World) : Calls Try.prog 17 #[.pointer (some ⟨p, 0, none⟩)] w fun e w' => ∃ q, e = .returned (.func (.func 30) #[] #[.pointer (some ⟨q, 0, none⟩)]) ∧ Blk w' q 25 #[.pointer (some ⟨p, 0, none⟩)] ∧ w.heap.size ≤ q ∧ Fresh w w' := by
  go_enter Try.func17, Try.ntmps17
  go_wp2
  go_ret
  exact ⟨_, rfl, Blk.new _ _ _, Nat.le_refl _, Fresh.alloc _ _⟩
def downF (fs : List FldT) (k : Nat) : List (Nat × FldT) := (List.range k).map fun j => (fs.length - 1 - j, fs.reverse.getD j (ByteArray.empty, ByteArray.empty))
theorem downF_succ (fs : List FldT) (k : Nat) (f : FldT) (h : fs.reverse[k]? = some f) : downF fs (k + 1) = downF fs k ++ [(fs.length - 1 - k, f)] := by
  simp [downF, List.range_succ, List.getD_eq_getElem?_getD, h]
theorem downF_length (fs : List FldT) (k : Nat) : (downF fs k).length = k := by simp [downF]
theorem downF_map (fs : List FldT) (k : Nat) (h : k ≤ fs.length) : (downF fs k).map (·.2) = fs.reverse.take k := by
  apply List.ext_getElem
  · simp [downF]; omega
  · intro i h1 h2
    simp [downF] at h1 h2 ⊢
    rw [List.getElem?_eq_getElem (by simp; omega)]
    simp
def encB (x : Nat × FldT) : Array Value := #[.int .i64 (x.1 : Int), .agg #[.string x.2.1, .string x.2.2]]
set_option maxRecDepth 100000 in
set_option maxHeartbeats 2000000 in
theorem back_seq (n base q c : Nat) (A : Option Addr) (fs : List FldT) (T : Nat → Prop) (w : World) (hn : 2 ≤ n) (hlen : fs.length ≤ 1000000) (hq : Blk w q 58 #[.slice A fs.length c]) (ho : Own w base 31 2 (.slice A fs.length c) fs.length (rowD fs))
    (hTq : ¬ T q) (hTv : ∀ k, (Value.slice A fs.length c).ownBlock = some k → ¬ T k) :
    SeqT Fence.wide n Try.prog 33 #[.pointer (some ⟨q, 0, none⟩)] encB (fun ys => ys = downF fs fs.length) (fun pre => ∃ k, k ≤ fs.length ∧ pre = downF fs k) fs.length T w := fun l J Jx W hW hl0 hl hJ hJx hY h0 => by
  have HQ : Hid (∀ W2, Only (fun k => T k ∨ k = l) W W2 → Blk W2 q 58 #[.slice A fs.length c] ∧ Own W2 base 31 2 (.slice A fs.length c) fs.length (rowD fs)) := Lib.hid (fun W2 h2 => by
    refine ⟨(hq.fresh hW).only h2 ?_, (ho.fresh hW).only h2 ?_⟩
    · rintro (e | e)
      · exact hTq e
      · have := hq.lt; omega
    · rintro k hk (e | e)
      · exact hTv k hk e
      · have := (ho.lt k hk).2; omega)
  obtain ⟨N, hN⟩ : ∃ N, fs.length = N := ⟨_, rfl⟩
  have HN := Lib.hid hN
  have hwN : IntKind.i64.wrap ((N : Int) - 1) = (N : Int) - 1 := by rw [IntKind.wrap_i64]; omega
  rw [hN] at hlen hY HQ ⊢
  have c0 : W.cell? ⟨q, 0, none⟩ = some (.slice A N c) := by rw [← hN]; exact (hq.fresh hW).cell 0
  obtain ⟨hnc, hcm⟩ : N ≤ c ∧ c ≤ maxLen := by
    obtain ⟨A', c', e, h1, h2, _⟩ := ho.slice
    injection e with e1 e2 e3
    subst e3
    exact ⟨by omega, h2⟩
  simp only [maxLen] at hcm
  clear hq ho hTq hTv hN
  refine callsIn_of_wp Try.func33 rfl trivial ?_ rfl
  simp only [Try.ntmps33, List.size_toArray, List.length_cons, List.length_nil, Nat.reduceAdd, Nat.reduceSub, Array.replicate_succ, Array.replicate_zero, List.push_toArray, List.append_toArray, List.nil_append, List.cons_append]
  gi_wp2
  clear c0
  gi_loopw [3] (fun i wr => ∃ k : Nat, k ≤ N ∧ i = .int .i64 ((N : Int) - 1 - (k : Int)) ∧ J (downF fs k) wr ∧ Only (fun k => T k ∨ k = l) W wr) (fun i _ => (intOf i + 1).toNat)
  case atStart => exact ⟨0, Nat.zero_le _, by simp, h0, Only.refl _ _⟩
  case round =>
    obtain ⟨k, hk, rfl, hJs, hO⟩ := hrel
    obtain ⟨hb, ho⟩ := HQ.out _ hO
    have HO := Lib.hid hO
    by_cases hlt : k < N
    · obtain ⟨f, hfk⟩ : ∃ f, fs.reverse[k]? = some f := ⟨_, List.getElem?_eq_getElem (by rw [List.length_reverse, HN.out]; exact hlt)⟩
      obtain ⟨m, hm⟩ : ∃ m, N - 1 - k = m := ⟨_, rfl⟩
      have hfk2 : fs[m]? = some f := by rw [List.getElem?_reverse (by rw [HN.out]; exact hlt), HN.out, hm] at hfk; exact hfk
      have HU : Hid (downF fs (k + 1) = downF fs k ++ [(m, f)]) := Lib.hid (by rw [downF_succ fs k f hfk, HN.out, hm])
      obtain ⟨hr0, hr1⟩ := rowD_at hfk2
      rcases ho.form with ⟨_, h00, _⟩ | ⟨g, cc, e, hgb, hgl, hnc', hcm', hcell⟩
      · omega
      injection e with e1 e2 e3
      subst e1 e3
      have g0 := (hcell (m * 2) (by rw [rowD_length, HN.out]; omega)).1.trans hr0
      have g1 := (hcell (m * 2 + 1) (by rw [rowD_length, HN.out]; omega)).1.trans hr1
      have c0 : wr.cell? ⟨q, 0, none⟩ = some (.slice (some ⟨g, 0, none⟩) N c) := hb.cell 0
      have em : ((N : Int) - 1 - (k : Int)) = (m : Int) := by omega
      obtain ⟨fn, tmps, assign, body, hy, hR⟩ := hY _ (m, f) wr hJs (by rw [downF_length]; exact hlt)
      dsimp only [encB] at hy
      have hmN : m < N := by omega
      have HM : Hid ((m : Int) - 1 = (N : Int) - 1 - ((k + 1 : Nat) : Int)) := Lib.hid (by omega)
      have hwm : IntKind.i64.wrap ((m : Int) - 1) = (m : Int) - 1 := by rw [IntKind.wrap_i64]; omega
      rw [em]
      clear em hm hfk hfk2 hr0 hr1 hcell hb ho hO hcm' hnc'
      gi_wp2
      refine ⟨fun h => (by cases h), ?_⟩
      refine hR.mono ?_
      rintro e W3 ⟨hO3, (⟨rfl, hJ3⟩ | ⟨rfl, hJx3⟩)⟩
      · gi_wp2
        go_roundw
        case rel => exact ⟨k + 1, by omega, by rw [HM.out], by rw [HU.out]; exact hJ3, HO.out.trans hO3⟩
        case measure => simp [intOf]
      · gi_wp2
        refine bodyPost_ret (results_none rfl _ _ _) rfl ?_
        exact ⟨⟨_, rfl⟩, .inr ⟨_, ⟨k + 1, by omega, HU.out.symm⟩, hJx3⟩⟩
    · obtain rfl : k = N := by omega
      have em : ((k : Int) - 1 - (k : Int)) = -1 := by omega
      rw [em]
      clear em hb ho
      gi_wp2
      go_end0
      exact ⟨⟨_, rfl⟩, .inl ⟨_, rfl, hJs⟩⟩
end Go.Proofs.Ythjajipagfojoaa
