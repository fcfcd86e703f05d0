/-
  Package reg: All.
-/
import Derived.Test.YtjediikcfhdgiaaDoorRegE
import Derived.Test.YtjediikcfhdgiaaDoorSeq
import Derived.Test.YtjediikcfhdgiaaDoorRnd
namespace Go.Proofs.YtjediikcfhdgiaaDoor
set_option maxRecDepth 100000
set_option linter.unusedVariables false
set_option linter.unusedSimpArgs false
open Go.RowKit Go.Maps Go.Sort Go.Shelf
attribute [local go_sem] Oper.semAt_some
def encE (n : Nat) (s : StD) : Array Value := #[entV n s]
theorem rg_all (g : Nat) (w : World) : Calls Tryd.prog 27 #[.pointer (some ⟨g, 0, none⟩)] w fun e w' => ∃ b, b = w.heap.size ∧ e = .returned (.func (.func 40) #[] #[.pointer (some ⟨b, 0, none⟩)]) ∧ Blk w' b 27 #[.pointer (some ⟨g, 0, none⟩)] ∧ Fresh w w' := by
  go_enter Tryd.func27, Tryd.ntmps27
  go_wp2
  go_ret
  exact ⟨_, rfl, rfl, Blk.new _ _ _, Fresh.alloc _ _⟩
set_option maxHeartbeats 6400000 in
theorem rg_all1 (n : Nat) (hn : 2 ≤ n) {w : World} {base g mb lb nn : Nat} {q last : Int} {N : Nat} {K : Int} {X : List StD} (h : RegX w base g mb lb nn q last N K X) (hn1 : 1 ≤ nn) (hn2 : nn ≤ 64) (hXl : X.length ≤ 1000000) (b : Nat) (hb : Blk w b 27 #[.pointer (some ⟨g, 0, none⟩)])
    (S : Nat → Prop) (hS : ∀ k, blkX g mb lb X k → ¬ S k) (hbS : ¬ S b) (hS2 : ∀ k, S k → k < w.heap.size) :
    SeqT Fence.wide n Tryd.prog 40 #[.pointer (some ⟨b, 0, none⟩)] (encE nn) (fun ys => ys = X) (fun pre => ∃ k, k ≤ X.length ∧ pre = X.take k) X.length S w := fun l J Jx W hW hl1 hl2 hJ hJx hY h0 => by
  have hgo : ∀ (pre : List StD) (W W' : World), J pre W → Fresh W W' → J pre W' := fun pre W W' hj hf => hJ pre W W' none hj ⟨Below.os hf, Below.tape hf, Below.output hf, Below.size hf, fun k hk _ => Below.block hf k hk⟩ (fun r e => by cases e)
  have HGO := Lib.hid hgo
  have hX := h.fresh hW
  have hal := h.alive
  have HBK : Hid (∀ k, blkX g mb lb X k → ¬ S k ∧ k < w.heap.size) := Lib.hid (fun k hk => ⟨hS k hk, by
    rcases hk with rfl | rfl | rfl | ⟨s, hs, rfl⟩
    · exact hal.1
    · exact hal.2.1
    · exact hal.2.2.1
    · exact hal.2.2.2 s hs⟩)
  have hbW := hb.fresh hW
  have cb := hbW.cell 0
  have c3 := hX.reg.blk.k3
  simp at cb
  have HX := Lib.hid hX
  have HBW := Lib.hid hbW
  have HS2 := Lib.hid hS2
  have HLL := Lib.hid (And.intro hl1 hl2)
  have HBL := Lib.hid hb.lt
  have HWF := Lib.hid hW
  have HFND : Hid (∀ k s, X[k]? = some s → X.find? (fun t => decide (t.id = s.id)) = some s) := Lib.hid (fun k s hk => by
    have hm := List.mem_of_getElem? hk
    cases hf : X.find? (fun t => decide (t.id = s.id)) with
    | none => have := List.find?_eq_none.1 hf s hm; simp at this
    | some t =>
      obtain ⟨ht, he⟩ := find_mem hf
      rw [ris_ne h.ris ht hm he])
  have HTK : Hid (∀ k s, X[k]? = some s → X.take (k + 1) = X.take k ++ [s]) := Lib.hid (fun k s hk => by
    obtain ⟨hk', rfl⟩ := List.getElem?_eq_some_iff.1 hk
    exact List.take_succ_eq_append_getElem hk')
  obtain ⟨m, hm⟩ : ∃ m, X.length = m := ⟨_, rfl⟩
  have HM := Lib.hid hm
  have HSRT := Lib.hid (rg_sorted W mb N X hX.reg.map hX.ris hXl)
  rw [hm] at hXl HSRT hY ⊢
  have HY := Lib.hid hY
  have HJ0 := Lib.hid h0
  clear h hm hX hb hbW hS hS2 hW hY h0 hgo hJ hJx hal hl1 hl2
  refine callsIn_of_wp Tryd.func40 rfl trivial ?_ rfl
  simp only [Tryd.ntmps40, List.size_toArray, List.length_cons, List.length_nil, Nat.reduceAdd, Nat.reduceSub, Array.replicate_succ, Array.replicate_zero, List.push_toArray, List.append_toArray, List.nil_append, List.cons_append]
  gi_wp2_with (refine ⟨trivial, fun h => (by cases h), ?_⟩; first
    | (gi_at_call 42; refine (callsIn_wide.2 (rg_keys _ _)).mono ?_; rintro e w1 ⟨rfl, rfl⟩)
    | (gi_at_call 41; refine (callsIn_wide.2 HSRT.out).mono ?_; rintro e w2 ⟨A, c, rfl, hown, hf2⟩))
  have hf02 : Fresh W w2 := (Fresh.alloc _ _).trans hf2
  have hsz : W.heap.size + 1 = (W.alloc (.cells #[.map (some mb)] 64)).heap.size := by simp
  have HST : Hid (J [] w2 ∧ RegX w2 base g mb lb nn q last N K X ∧ Own w2 (l + 1) 3 1 (.slice A m c) m (X.map (fun s => .int .i64 s.id)) ∧ Blk w2 b 27 #[.pointer (some ⟨g, 0, none⟩)]) := Lib.hid ⟨HGO.out _ _ _ HJ0.out hf02, HX.out.fresh hf02, by
    obtain ⟨h1, h2⟩ := hown
    refine ⟨h1, ?_⟩
    rcases h2 with h2 | ⟨gg, cap, cur, k1, k2, k3⟩
    · exact .inl h2
    · exact .inr ⟨gg, cap, cur, k1, by have := HLL.out.2; omega, k3⟩, HBW.out.fresh hf02⟩
  have HC : Hid (m ≤ c) := Lib.hid (by obtain ⟨A', c', e, g1, _⟩ := hown.slice; injection e with e1 e2 e3; omega)
  clear hown hf2 hf02 cb c3 hsz HSRT HJ0 HX HBW
  gi_loopw [12] (fun i wr => ∃ k : Nat, k ≤ m ∧ i = .int .i64 (k : Int) ∧ J (X.take k) wr ∧ RegX wr base g mb lb nn q last N K X ∧ Own wr (l + 1) 3 1 (.slice A m c) m (X.map (fun s => .int .i64 s.id)) ∧ Blk wr b 27 #[.pointer (some ⟨g, 0, none⟩)]) (fun i _ => m - (Go.Proofs.intOf i).toNat)
  case atStart => exact ⟨0, Nat.zero_le _, rfl, by rw [List.take_zero]; exact HST.out.1, HST.out.2.1, HST.out.2.2.1, HST.out.2.2.2⟩
  case round =>
    obtain ⟨k, hk, rfl, hJs, hX, hO, hB⟩ := hrel
    have hHC := HC.out
    by_cases hlt : k < m
    · obtain ⟨s, hx⟩ : ∃ s, X[k]? = some s := ⟨_, List.getElem?_eq_getElem (by rw [HM.out]; exact hlt)⟩
      have hlt' : (k : Int) < (m : Int) := by omega
      obtain ⟨gg, hgg, _⟩ := hO.pos (by omega)
      subst hgg
      have hci : wr.cell? ⟨gg, k, none⟩ = some (.int .i64 s.id) := by
        rcases hO.form with ⟨e, _⟩ | ⟨g2, cap, e, _, _, _, _, hc⟩
        · cases e
        · injection e with e1
          injection e1 with e1
          injection e1 with e1
          subst e1
          have := (hc k (by rw [List.length_map, HM.out]; exact hlt)).1
          rw [this, List.getElem?_map, hx]
          rfl
      have cb := hB.cell 0
      simp at cb
      have hw : IntKind.i64.wrap ((k : Int) + 1) = (k : Int) + 1 := by rw [IntKind.wrap_i64]; omega
      have HEN := Lib.hid (rg_entry hX hn1 hn2 s (HFND.out k s hx))
      have HTS := Lib.hid (HTK.out k s hx)
      have HXR := Lib.hid hX
      have HOR := Lib.hid hO
      have HBR := Lib.hid hB
      have HJR := Lib.hid hJs
      have HTL : Hid ((X.take k).length < m) := Lib.hid (by rw [List.length_take, HM.out]; omega)
      have HYS := Lib.hid (fun W1 (hj : J (X.take k) W1) => HY.out (X.take k) s W1 hj HTL.out)
      unfold EntP at HEN
      clear hx hX hO hB hJs HST
      obtain ⟨id, hid⟩ : ∃ id, s.id = id := ⟨_, rfl⟩
      rw [hid] at hci HEN
      clear hid
      gi_wp2_with (refine ⟨trivial, fun h => (by cases h), ?_⟩; gi_at_call 28; refine (callsIn_wide.2 HEN.out).mono ?_; rintro e w3 ⟨rfl, hf3⟩)
      have hJ3 := HGO.out _ _ _ HJR.out hf3
      have HX3 := Lib.hid (HXR.out.fresh hf3)
      have HO3 := Lib.hid (HOR.out.fresh hf3)
      have HB3 := Lib.hid (HBR.out.fresh hf3)
      obtain ⟨fn, tmps, assign, body, hy, hR⟩ := HYS.out w3 hJ3
      dsimp only [encE] at hy
      have HR := Lib.hid hR
      clear hJ3 hR hf3 HYS HEN cb hci
      generalize entV nn s = ev at *
      gi_wp2
      rw [hy]
      refine ⟨fun h => (by cases h), ?_⟩
      refine HR.out.mono ?_
      rintro e W3 ⟨hk4, hh⟩
      rcases hh with ⟨rfl, hJ4⟩ | ⟨rfl, hJx4⟩
      · have HX4 := Lib.hid (HX3.out.only hk4 (fun q hq e => by
          obtain ⟨h1, h2⟩ := HBK.out q hq
          rcases e with e | e
          · exact h1 e
          · have := HLL.out.1; omega))
        have HO4 := Lib.hid (HO3.out.only hk4 (fun q hq e => by
          have h1 := (HO3.out.lt q hq).1
          rcases e with e | e
          · have h2 := HS2.out q e; have := HLL.out.1; omega
          · omega))
        have HB4 := Lib.hid (HB3.out.only hk4 (fun e => by
          rcases e with e | e
          · exact hbS e
          · have := HLL.out.1; have := HBL.out; omega))
        have HJ4 := Lib.hid hJ4
        clear hJ4 hk4
        gi_wp2
        go_roundw
        case rel => exact ⟨k + 1, by omega, by first | rfl | simp, by rw [HTS.out]; exact HJ4.out, HX4.out, HO4.out, HB4.out⟩
        case measure => simp [Go.Proofs.intOf]; omega
      · have HJ4 := Lib.hid hJx4
        clear hJx4
        gi_wp2
        refine bodyPost_ret (results_none rfl _ _ _) rfl ?_
        exact ⟨⟨_, rfl⟩, .inr ⟨_, ⟨k + 1, by omega, HTS.out.symm⟩, HJ4.out⟩⟩
    · obtain rfl : k = m := by omega
      have hnk : ¬ (k : Int) < (k : Int) := by omega
      have hfull : X.take k = X := List.take_of_length_le (by rw [HM.out]; exact Nat.le_refl _)
      rw [hfull] at hJs
      have HJ4 := Lib.hid hJs
      clear hJs hX hO hB
      gi_wp2
      go_end0
      first | exact ⟨⟨_, rfl⟩, .inl ⟨_, rfl, HJ4.out⟩⟩ | exact ⟨⟨_, rfl⟩, .inl HJ4.out⟩ | exact .inl HJ4.out
end Go.Proofs.YtjediikcfhdgiaaDoor

