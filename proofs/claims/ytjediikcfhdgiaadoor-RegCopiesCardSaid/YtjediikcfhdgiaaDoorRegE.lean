/-
  Package reg: the iterator over all streams.
-/
import Derived.Test.YtjediikcfhdgiaaDoorRegD
import Derived.Test.YtjediikcfhdgiaaDoorRegS
import Derived.Maps.Ext
import Derived.RangeFuncNested
import Derived.RangeFuncBound
import Derived.RangeFuncCalls
import Derived.RangeFuncLeaves
import Derived.Shelf.Abstract
import Derived.OwnWalkIn
import Derived.TacticsInMore
import Derived.LoopNIn
import Derived.LoopIn
namespace Go.Proofs.YtjediikcfhdgiaaDoor
set_option maxRecDepth 100000
set_option linter.unusedVariables false
set_option linter.unusedSimpArgs false
open Go.RowKit Go.Maps Go.Sort Go.Shelf
attribute [local go_sem] Oper.semAt_some
theorem ids_keys (X : List StD) : intKeys (dmX X) = X.map (·.id) := by
  show List.map (fun p : Lit × DataW Unit => Go.intOf p.1) (X.map entX) = _
  rw [List.map_map]
  rfl
theorem ids_sorted {X : List StD} (h : X.Pairwise (fun s t => s.id < t.id)) {ss : List Int} (hp : ss.Perm (intKeys (dmX X))) : ss.mergeSort (fun x y => decide (x ≤ y)) = X.map (·.id) := by
  rw [ids_keys] at hp
  have tr : ∀ a b c : Int, decide (a ≤ b) = true → decide (b ≤ c) = true → decide (a ≤ c) = true := fun a b c h1 h2 => by simp only [decide_eq_true_eq] at *; omega
  have to : ∀ a b : Int, (decide (a ≤ b) || decide (b ≤ a)) = true := fun a b => by simp only [Bool.or_eq_true, decide_eq_true_eq]; omega
  refine List.Perm.eq_of_pairwise (le := fun a b => decide (a ≤ b) = true) (fun a b _ _ h1 h2 => by simp only [decide_eq_true_eq] at h1 h2; omega) (List.pairwise_mergeSort tr to ss) ?_ ((List.mergeSort_perm ss _).trans hp)
  exact List.pairwise_map.2 (h.imp (fun {a b} hab => decide_eq_true (by omega)))
theorem sortsA (m : Nat) : AnyZI.SortsIn Tryd.prog sortedA_ren Fence.wide m :=
  ⟨fun blk off cap ss W hH hblk hsz => callsIn_wide.2 (AnyM.slices_Sort_int sortA blk off cap ss W hH hblk hsz),
   fun p cap W => callsIn_wide.2 (AnyM.slices_Sort_int_none sortA p cap W)⟩
theorem rg_keys (mb : Option Nat) (W : World) : Calls Tryd.prog 42 #[.map mb] W fun e w' => e = .returned (.func (.func 49) #[] #[.pointer (some ⟨W.heap.size, 0, none⟩)]) ∧ w' = W.alloc (.cells #[.map mb] 64) :=
  (callsIn_wide (n := 5)).1 (AnyZI.keys_in keysA Fence.wide 5 trivial rfl mb W)
theorem rg_sorted (W : World) (mb N : Nat) (X : List StD) (hown : W.ownsMap Tryd.prog 3 ptrR mb N (dmX X)) (hr : X.Pairwise (fun s t => s.id < t.id)) (hl : X.length ≤ 1000000) :
    Calls Tryd.prog 41 #[.func (.func 49) #[] #[.pointer (some ⟨W.heap.size, 0, none⟩)]] (W.alloc (.cells #[.map (some mb)] 64)) fun e w' => ∃ A c, e = .returned (.slice A X.length c) ∧ Own w' (W.alloc (.cells #[.map (some mb)] 64)).heap.size 3 1 (.slice A X.length c) X.length (X.map (fun s => .int .i64 s.id)) ∧ Fresh (W.alloc (.cells #[.map (some mb)] 64)) w' := by
  have hsz : Maps.size (dmX X) = X.length := by simp [dmX, Maps.size]
  have hbl := hown.lt
  have hseq : SeqGives Fence.wide 2 Tryd.prog 49 #[.pointer (some ⟨W.heap.size, 0, none⟩)] encZ (fun ss => ss.Perm (intKeys (dmX X))) (Maps.size (dmX X)) (W.alloc (.cells #[.map (some mb)] 64)) :=
    AnyZI.keys_gives (ρ := keysA_ren) { keysA with } Fence.wide _ trivial rfl (by omega) W.heap.size mb N (dmX X) _ (by simp) (by simp) (by
      obtain ⟨es, clock, hb, Ft, hs, hD⟩ := hown
      exact ⟨es, clock, (Below.heap_alloc _ _ mb hbl).trans hb, Ft, hs, hD⟩)
  have cS := AnyZI.sorted_in sortedA Fence.wide 5 trivial trivial trivial trivial rfl (by omega) (sortsA _) (enters_of Tryd.func48 (by kernel_rfl) rfl) 49 #[.pointer (some ⟨W.heap.size, 0, none⟩)] trivial (enters_of Tryd.func49 (by kernel_rfl) rfl) _ _ (by rw [hsz]; unfold maxLen; omega) (by rw [hsz]; omega) _ hseq
  change CallsIn _ _ Tryd.prog 41 _ _ _ at cS
  refine ((callsIn_wide (n := 5)).1 cS).mono ?_
  rintro e w' ⟨v, ss, rfl, hS, hrow, hnil, hb⟩
  have hlen : ss.length = X.length := by rw [hS.length_eq, ids_keys, List.length_map]
  rw [ids_sorted hr hS, hlen, List.map_map] at hrow
  have hrow' : Own w' (W.alloc (.cells #[.map (some mb)] 64)).heap.size 3 1 v X.length (X.map (fun s => .int .i64 s.id)) := hrow
  obtain ⟨A, c, rfl, _⟩ := hrow'.slice
  exact ⟨A, c, rfl, hrow', hb⟩
end Go.Proofs.YtjediikcfhdgiaaDoor

