/-
  An append of zeros ('append(b, make([]byte, n)...)') to a row of bytes of the call's own.
-/
import Derived.Test.YtcdghmidpaeloaaMake
import Derived.Lib.AppendZerosOnto
namespace Go.Proofs.Ytcdghmidpaeloaa
set_option linter.unusedVariables false
open Go.RowKit

theorem zeroCells_u8 (m : Nat) : Builtin.zeroCells (Value.int .u8 0).cells m = ((List.replicate m (0 : UInt8)).map byteV).toArray := by
  apply Array.ext
  · simp [Builtin.zeroCells, Value.cells]
  · intro i h1 h2
    simp [Builtin.zeroCells, Value.cells, byteV, Nat.mod_one]
section
variable {P : Program} {T E TN : TypeId} (hT : P.underlying T = some (.slice E)) (hTN : P.underlying TN = some (.int .i64)) (hinfo : (P.info? E).map (fun i => (i.zero, i.size, i.bytes)) = some (some (.int .u8 0), 1, 1))
include hT hTN hinfo
theorem Own.zeros {w : World} {base n : Nat} {v : Value} {X : List UInt8} (ty : TypeId) (h : Own w base E 1 v n (X.map byteV)) (hpos : 0 < n) (hbase : base ≤ w.heap.size) (m r : Nat) (hr : n + m = r) (hn : r ≤ 70368744177664) :
    ∃ A' c' w', (Builtin.append_ #[T, TN] ty #[v, .int .i64 (m : Int)]).run P w = .ok (.slice A' r c') w' ∧ Own w' base E 1 (.slice A' r c') r ((X ++ List.replicate m 0).map byteV) ∧ Only (fun k => v.ownBlock = some k) w w' := by
  subst hr
  obtain ⟨i, hi, hiz, his, hib⟩ := info_parts hinfo
  have hlX : (X.map byteV).length = n := by have := h.1; omega
  have hlen : ((X ++ List.replicate m (0 : UInt8)).map byteV).length = (n + m) * 1 := by simp at hlX ⊢; omega
  have hw : IntKind.i64.wrap (m : Int) = m := by rw [IntKind.wrap_i64]; omega
  rcases h.2 with ⟨rfl, h0⟩ | ⟨g, cap, cur, rfl, hbg, hg, hnc, hcm, hcs, htake⟩
  · omega
  by_cases hm : m = 0
  · subst hm
    refine ⟨some ⟨g, 0, none⟩, cap, w, ?_, by simpa using h, Only.refl _ _⟩
    simp [Builtin.append_, run_underlying hT, run_underlying hTN, sizeOf, typeInfo, hi, asInt, asIntOf, show IntKind.i64.wrap 0 = 0 from by decide, hnc, storeCells]
  have h48 : ¬ ((281474976710656 : Int) < (m : Int)) := by omega
  have hneg : ¬ ((m : Int) < 0) := by omega
  by_cases hroom : n + m ≤ cap
  · have h1 : ∀ u ∈ (List.replicate m (0 : UInt8)).map byteV, u.oneCell' = true := by
      intro u hu
      obtain ⟨x, _, rfl⟩ := List.mem_map.1 hu
      rfl
    have hst := run_storeCells_at P g (n * 1) E ((List.replicate m (0 : UInt8)).map byteV) 0 cur w hg (by simp; omega) h1
    simp only [Nat.add_zero, Nat.mul_one] at hst
    have hrun : (Builtin.append_ #[T, TN] ty #[.slice (some ⟨g, 0, none⟩) n cap, .int .i64 (m : Int)]).run P w = .ok (.slice (some ⟨g, 0, none⟩) (n + m) cap) (w.setRow g (cur.toList.take n ++ (List.replicate m (0 : UInt8)).map byteV ++ cur.toList.drop (n + ((List.replicate m (0 : UInt8)).map byteV).length)).toArray) := by
      simp only [Builtin.append_, run_underlying hT, run_underlying hTN, sizeOf, typeInfo, zeroValue, hi, hiz, his, hib, asInt, asIntOf, hw, hroom, hneg, h48, hm, zeroCells_u8, Addr.add_lit]
      simp [run_underlying hT, run_underlying hTN, sizeOf, typeInfo, zeroValue, hi, hiz, his, hib, hw, hroom, hneg, h48, hm, zeroCells_u8, Addr.add_lit, -List.map_replicate, hst]
    refine ⟨_, _, _, hrun, ⟨hlen, .inr ⟨g, cap, _, rfl, hbg, setRow_heap w g cur _ E _ hg, hroom, hcm, ?_, ?_⟩⟩, ⟨rfl, rfl, rfl, by simp [World.setRow], fun k _ hk => setRow_other w g k _ (fun e => hk (by simp [Value.ownBlock, e]))⟩⟩
    · simp only [List.size_toArray, List.length_append, List.length_take, List.length_drop, Array.length_toList, List.length_map, List.length_replicate]
      omega
    · have e1 : (cur.toList.take n ++ (List.replicate m (0 : UInt8)).map byteV) = (X ++ List.replicate m (0 : UInt8)).map byteV := by
        rw [Nat.mul_one] at htake
        rw [htake, List.map_append]
      rw [e1, ← hlen]
      exact List.take_left
  · have hge := grownCap_ge w (n + m) cap E
    have hcm2 : grownCap w (n + m) cap E ≤ maxLen := grownCap_le_maxLen w (n + m) cap E (by unfold maxLen; omega)
    have holds : (Builtin.firstCells i.size n (.slice (some ⟨g, 0, none⟩) n cap)).run P w.drew = .ok (X.map byteV).toArray w.drew :=
      run_firstCells_some (P := P) w.drew i.size n ⟨g, 0, none⟩ n cap (X.map byteV) (by rw [his]; omega) (fun j u hj => (World.ownsRow.cells (g := g) h rfl j u hj))
    have hr := Lib.run_append_grow_zeros (P := P) w T TN ty E i (.int .u8 0) .i64 .i64 hT hTN hi hiz (some ⟨g, 0, none⟩) n cap (X.map byteV) holds m (by omega) (by omega) (by omega) (by omega) (by rw [hib]; omega) (growslice_fits (by omega) (by rw [hib]; omega))
    refine ⟨_, _, _, hr, ⟨hlen, .inr ⟨w.heap.size, _, _, rfl, hbase, heap_alloc_new w.drew _, hge, hcm2, ?_, ?_⟩⟩, Only.of_fresh ((Fresh.drew w).trans (Fresh.alloc _ _))⟩
    · simp only [Array.size_append, List.size_toArray, size_zeroCells, hlX, Value.cells, Array.size_singleton]
      simp
      omega
    · rw [zeroCells_u8 m]
      simp only [Array.toList_append, List.toList_toArray]
      rw [← List.map_append, ← hlen]
      exact List.take_left
end
end Go.Proofs.Ytcdghmidpaeloaa
