/-
  Contracts of package credit.
-/
import Derived.Test.YtnnciekbmapilaaCreditL
import Derived.Test.YtnnciekbmapilaaGen
import Derived.Test.YtnnciekbmapilaaMore
import Derived.Test.YtnnciekbmapilaaMake
import Derived.BigRegion
import Derived.Deep.RegionLaw
import Derived.Deep.RegionHeld3
import Derived.StillTailTactics
namespace Go.Proofs.Ytnnciekbmapilaa
set_option linter.unusedVariables false
open Go.RowKit

theorem win_info : (Try.prog.info? 48).map (fun i => (i.zero, i.size, i.bytes)) = some (some (.agg #[.int .i64 0]), 1, 8) := by kernel_rfl
/-- A row of windows. -/
def Prt (w : World) (g n k : Nat) (f : Nat → Int) : Prop := ∃ cur : Array Value, cur.size = k ∧ n ≤ k ∧ k ≤ maxLen ∧ Blk w g 48 cur ∧ ∀ j, j < n → cur[j]? = some (.int .i64 (f j))
section
variable {w w' : World} {g n k : Nat} {f : Nat → Int}
theorem Prt.cell (h : Prt w g n k f) {j : Nat} (hj : j < n) : w.cell? ⟨g, j, none⟩ = some (.int .i64 (f j)) := by
  obtain ⟨cur, _, _, _, hb, hc⟩ := h
  rw [hb.cell, hc j hj]
theorem Prt.frozen (h : Prt w g n k f) (j : Nat) : w.frozen? ⟨g, j, none⟩ = false := by
  obtain ⟨cur, _, _, _, hb, hc⟩ := h
  exact hb.frozen j
theorem Prt.lt (h : Prt w g n k f) : g < w.heap.size := by
  obtain ⟨cur, _, _, _, hb, hc⟩ := h
  exact hb.lt
theorem Prt.ne (h : Prt w g n k f) {c : Nat} {t : TypeId} {cs : Array Value} (hb : Blk w c t cs) (ht : t ≠ 48) : c ≠ g := by
  obtain ⟨cur, _, _, _, hb', hc⟩ := h
  exact hb.ne hb' ht
theorem Prt.only {S : Nat → Prop} (h : Prt w g n k f) (ho : Only S w w') (hs : ¬ S g) : Prt w' g n k f := by
  obtain ⟨cur, h1, h2, h3, hb, hc⟩ := h
  exact ⟨cur, h1, h2, h3, hb.only ho hs, hc⟩
theorem Prt.fresh (h : Prt w g n k f) (ho : Fresh w w') : Prt w' g n k f := by
  obtain ⟨cur, h1, h2, h3, hb, hc⟩ := h
  exact ⟨cur, h1, h2, h3, hb.fresh ho, hc⟩
theorem Prt.congr {f' : Nat → Int} (h : Prt w g n k f) (e : ∀ j, j < n → f j = f' j) : Prt w g n k f' := by
  obtain ⟨cur, h1, h2, h3, hb, hc⟩ := h
  exact ⟨cur, h1, h2, h3, hb, fun j hj => by rw [hc j hj, e j hj]⟩
theorem Prt.set (h : Prt w g n k f) {j : Nat} (hj : j < n) (v : Int) : Prt (w.setCell ⟨g, j, none⟩ (.int .i64 v)) g n k (updN f j v) := by
  obtain ⟨cur, h1, h2, h3, hb, hc⟩ := h
  refine ⟨cur.setIfInBounds j (.int .i64 v), by simpa using h1, h2, h3, hb.set j _, fun i hi => ?_⟩
  by_cases e : i = j
  · subst e; rw [updN_same]; simp [Array.getElem?_setIfInBounds]; omega
  · rw [Array.getElem?_setIfInBounds_ne (fun h => e h.symm), updN_ne e]; exact hc i hi
theorem Prt.wrote (h : Prt w g n k f) {j : Nat} (hj : j < n) (v : Int) (hw : Wrote ⟨g, j, none⟩ (.int .i64 v) w w') : Prt w' g n k (updN f j v) := by
  obtain ⟨cur, h1, h2, h3, hb, hc⟩ := h
  refine ⟨cur.setIfInBounds j (.int .i64 v), by simpa using h1, h2, h3, hw.blk hb, fun i hi => ?_⟩
  by_cases e : i = j
  · subst e; rw [updN_same]; simp [Array.getElem?_setIfInBounds]; omega
  · rw [Array.getElem?_setIfInBounds_ne (fun h => e h.symm), updN_ne e]; exact hc i hi
end
def intsV (f : Nat → Int) (n : Nat) : List Value := (List.range n).map (fun j => Value.int .i64 (f j))
theorem intsV_len (f : Nat → Int) (n : Nat) : (intsV f n).length = n := by simp [intsV]
theorem intsV_get (f : Nat → Int) {n j : Nat} (h : j < n) : (intsV f n)[j]? = some (.int .i64 (f j)) := by simp [intsV, h]
theorem intsV_succ (f : Nat → Int) (n : Nat) : intsV f (n + 1) = intsV f n ++ [.int .i64 (f n)] := by simp [intsV, List.range_succ]
theorem intsV_congr {f f' : Nat → Int} {n : Nat} (h : ∀ j, j < n → f j = f' j) : intsV f n = intsV f' n := by
  unfold intsV
  apply List.map_congr_left
  intro j hj
  rw [h j (by simpa using hj)]
/-- A row of the call's own, of numbers, as its block. -/
theorem Own.row {w : World} {base n : Nat} {E : TypeId} {v : Value} {f : Nat → Int} (h : Own w base E 1 v n (intsV f n)) (hn : 0 < n) : ∃ g k cur, v = .slice (some ⟨g, 0, none⟩) n k ∧ base ≤ g ∧ n ≤ k ∧ k ≤ maxLen ∧ cur.size = k ∧ Blk w g E cur ∧ ∀ j, j < n → cur[j]? = some (.int .i64 (f j)) := by
  rcases h.2 with ⟨rfl, rfl⟩ | ⟨g, cap, cur, rfl, hb, hh, hnc, hcm, hcs, ht⟩
  · omega
  · refine ⟨g, cap, cur, rfl, hb, hnc, hcm, by simpa using hcs, hh, fun j hj => ?_⟩
    have := intsV_get f hj
    rw [← ht, List.getElem?_take_of_lt (by omega)] at this
    simpa using this
theorem Own.prt {w : World} {base n : Nat} {v : Value} {f : Nat → Int} (h : Own w base 48 1 v n (intsV f n)) (hn : 0 < n) : ∃ g k, v = .slice (some ⟨g, 0, none⟩) n k ∧ base ≤ g ∧ Prt w g n k f := by
  obtain ⟨g, k, cur, h1, h2, h3, h4, h5, h6, h7⟩ := h.row hn
  exact ⟨g, k, h1, h2, cur, h5, h3, h4, h6, h7⟩

/-- A credit: its block c, its parts' block g. -/
structure Cr (w : World) (c g k n : Nat) (f : Nat → Int) (t : Nat) : Prop where
  blk : Blk w c 51 #[.int .i64 (sumN f n), .slice (some ⟨g, 0, none⟩) n k, .int .i64 (t : Int)]
  prt : Prt w g n k f
  n1 : 1 ≤ n
  n2 : n ≤ 64
  tl : t < n
  pos : ∀ j, j < n → 0 ≤ f j
  mx : sumN f n ≤ 2147483647
section
variable {w w' : World} {c g k n t : Nat} {f : Nat → Int}
theorem Cr.fresh (h : Cr w c g k n f t) (hf : Fresh w w') : Cr w' c g k n f t := ⟨h.blk.fresh hf, h.prt.fresh hf, h.n1, h.n2, h.tl, h.pos, h.mx⟩
theorem Cr.only {S : Nat → Prop} (h : Cr w c g k n f t) (hf : Only S w w') (h1 : ¬ S c) (h2 : ¬ S g) : Cr w' c g k n f t := ⟨h.blk.only hf h1, h.prt.only hf h2, h.n1, h.n2, h.tl, h.pos, h.mx⟩
theorem Cr.ne (h : Cr w c g k n f t) : c ≠ g := h.prt.ne h.blk (by decide)
theorem Cr.lt (h : Cr w c g k n f t) : c < w.heap.size ∧ g < w.heap.size := ⟨h.blk.lt, h.prt.lt⟩
end

theorem cr_new_no (n : Int) (w : World) (h : ¬ (1 ≤ n ∧ n ≤ 64)) :
    Calls Try.prog 8 #[.int .i64 n] w fun e w' => e = .returned (.tuple #[.pointer none, .int .i64 11]) ∧ w = w' := by
  by_cases h0 : n < 1
  · clear h
    go_enter Try.func8, Try.ntmps8
    go_wp2_with fail
    go_ret2
    exact ⟨rfl, rfl⟩
  · have h1 : 64 < n := by omega
    clear h
    go_enter Try.func8, Try.ntmps8
    go_wp2_with fail
    go_ret2
    exact ⟨rfl, rfl⟩

theorem partsX (t : Int) (n : Nat) (w : World) (h1 : 1 ≤ n) (h2 : n ≤ 64) (h3 : 0 ≤ t) (h4 : t ≤ 9223372036854775807) :
    Calls Try.prog 19 #[.int .i64 t, .int .i64 n] w fun e w' => ∃ p, e = .returned (.slice (some ⟨p, 0, none⟩) n n) ∧ w.heap.size ≤ p ∧ Blk w' p 3 (intsA (partsL t n)) ∧ Fresh w w' :=
  (parts_yes t n w h1 h2 h3 h4).mono fun e w' ⟨he, hb, hf⟩ => ⟨_, he, Nat.le_refl _, hb, hf⟩
structure NewR (w : World) (c pb n j : Nat) (wr : World) : Prop where
  own : ∃ v, Own wr w.heap.size 48 1 v j (intsV (part 65535 n) j) ∧ Blk wr c 51 #[.int .i64 65535, v, .int .i64 0]
  ps : Blk wr pb 3 (intsA (partsL 65535 n))
  fr : Fresh w wr
  hc : w.heap.size ≤ c
  hp : w.heap.size ≤ pb
theorem NewR.fresh {w wr wx : World} {c pb n j : Nat} (h : NewR w c pb n j wr) (hf : Fresh wr wx) : NewR w c pb n j wx := by
  obtain ⟨⟨v, ho, hb⟩, hps, hf1, hc, hp⟩ := h
  exact ⟨⟨v, ho.fresh hf, hb.fresh hf⟩, hps.fresh hf, hf1.trans hf, hc, hp⟩
def NewPost (n : Nat) (w : World) (e : Ending) (w' : World) : Prop := ∃ c g k, e = .returned (.tuple #[.pointer (some ⟨c, 0, none⟩), .int .i64 0]) ∧ w.heap.size ≤ c ∧ w.heap.size ≤ g ∧ Cr w' c g k n (part 65535 n) 0 ∧ Fresh w w'
set_option maxHeartbeats 1600000 in
theorem cr_new_yes (n : Nat) (w : World) (h1 : 1 ≤ n) (h2 : n ≤ 64) : Calls Try.prog 8 #[.int .i64 n] w (NewPost n w) := by
  have HPOS : Hid (∀ j, j < n → 0 ≤ part 65535 n j ∧ part 65535 n j ≤ 65535) := Lib.hid (fun j hj => part_bd 65535 n j (by omega) h1 hj)
  go_enter Try.func8, Try.ntmps8
  go_wp2_with fail
  with_reducible refine (wnew_yes 65535 _ (by omega) (by omega)).mono ?_
  rintro e w1 ⟨rfl, hf1⟩
  have hb1 := (Blk.new w 51 #[.int .i64 0, .slice none 0 0, .int .i64 0]).fresh hf1
  have HF1 := Lib.hid ((Fresh.alloc w (.cells #[.int .i64 0, .slice none 0 0, .int .i64 0] 51)).trans hf1)
  have HB1 := Lib.hid hb1
  clear hf1
  have p0 := hb1.cell 0
  have z0 := hb1.frozen 0
  have hc : w.heap.size ≤ w.heap.size := Nat.le_refl _
  generalize hcc : w.heap.size = c at p0 z0 HB1 hb1 ⊢
  clear hb1
  have HC : Hid (w.heap.size ≤ c) := Lib.hid (by omega)
  clear hcc hc
  go_wp2_with fail
  with_reducible refine (partsX 65535 n _ h1 h2 (by omega) (by omega)).mono ?_
  rintro e w2 ⟨p, rfl, hp, hps, hf2⟩
  go_wp2_with fail
  have hb2 : Blk w2 c 51 #[.int .i64 65535, .slice none 0 0, .int .i64 0] := ((HB1.out.set 0 (.int .i64 65535)).fresh hf2)
  have hR : NewR w c p n 0 w2 := ⟨⟨_, Own.nil _ _ _ _, hb2⟩, hps, Below.trans (HF1.out.step ⟨c, 0, none⟩ _ HC.out) (hf2.mono (by have := HF1.out.size; simpa using this)), HC.out, by have := HF1.out.size; simp at hp; omega⟩
  have HR := Lib.hid hR
  clear hR hb2 hf2 hps hp HB1 HF1 p0 z0
  go_loopw [27] (fun i wr => ∃ j : Nat, j ≤ n ∧ i = .int .i64 j ∧ NewR w c p n j wr) (fun i _ => n - (intOf i).toNat)
  case atStart => exact ⟨0, by omega, rfl, HR.out⟩
  case round =>
    obtain ⟨j, hj, rfl, hR⟩ := hrel
    by_cases hlt : j < n
    · have HR := Lib.hid hR
      have cp : wr.cell? ⟨p, j, none⟩ = some (.int .i64 (part 65535 n j)) := by rw [hR.ps.cell, intsA_get, partsL_get _ _ _ hlt]; rfl
      obtain ⟨hx0, hx1⟩ := HPOS.out j hlt
      generalize hx : part 65535 n j = x at cp hx0 hx1
      have HX := Lib.hid hx
      clear hx hR
      go_wp2_with fail
      with_reducible refine (wnew_yes x _ hx0 (by omega)).mono ?_
      rintro e w3 ⟨rfl, hf3⟩
      go_wp2_with fail
      have HR3 : Hid (NewR w c p n j (w3.alloc (.cells #[.int .i64 x] 48))) := Lib.hid (HR.out.fresh (hf3.allocS _))
      have HB7 : Hid (Blk (w3.alloc (.cells #[.int .i64 x] 48)) w3.heap.size 48 #[.int .i64 x]) := Lib.hid (Blk.new _ _ _)
      generalize hq : w3.heap.size = q at HB7 ⊢
      clear hq hf3
      refine wp_gen (fun W => NewR w c p n j W ∧ Blk W q 48 #[.int .i64 x]) ⟨HR3.out, HB7.out⟩ ?_
      clear HR3 HB7 HR
      intro W ⟨hRW, hq⟩
      obtain ⟨⟨v, ho, hb⟩, hps, hfw, hc, hp⟩ := hRW
      obtain ⟨v', w', hap, ho', hbl, _, hgr⟩ := Own.push (P := Try.prog) (w := W.drew) (w0 := w) Try.underlying49 win_info rfl (by omega) 49 (ho.fresh (Fresh.drew W)) (hfw.trans (Fresh.drew W)) (Nat.le_refl _) #[.int .i64 x] rfl (by simp [Value.oneCell']) (by unfold maxLen; omega) (by omega)
      obtain ⟨A', c', rfl, _⟩ := Own.slice ho'
      have hO : Only (fun k => v.ownBlock = some k) W w' := ((Only.of_fresh (Fresh.drewS (Fresh.refl W))).allocS (.cells #[.int .i64 x] 48)).trans ⟨hgr.os, hgr.tape, hgr.output, hgr.size, fun k hk hne => hgr.block k hk (fun e => hne e.symm)⟩
      have hnc : ¬ v.ownBlock = some c := fun e => by
        rcases ho.2 with ⟨rfl, _⟩ | ⟨g', cap, cur, rfl, _, hh, _⟩
        · cases e
        · simp [Value.ownBlock] at e; subst e; exact (show Blk W g' _ cur from hh).ne hb (by decide) rfl
      have hnp : ¬ v.ownBlock = some p := fun e => by
        rcases ho.2 with ⟨rfl, _⟩ | ⟨g', cap, cur, rfl, _, hh, _⟩
        · cases e
        · simp [Value.ownBlock] at e; subst e; exact (show Blk W g' _ cur from hh).ne hps (by decide) rfl
      have hb' := hb.only hO hnc
      have hps' := hps.only hO hnp
      obtain ⟨c0, c1, c2⟩ := hb.c3
      obtain ⟨d0, d1, d2⟩ := hb'.c3
      have e1 := hb'.frozen 1
      have q0 := hq.cell 0
      have hcl := hb.lt
      have hql := hq.lt
      have HO := Lib.hid ho'
      have HB := Lib.hid hb'
      have HPS := Lib.hid hps'
      have HBL := Lib.hid hbl
      have HC := Lib.hid hc
      have HP := Lib.hid hp
      clear ho hb hps hfw hc hp ho' hb' hps' hbl hgr hO hnc hnp hq
      go_region_law (with_reducible refine step_app rfl (.tmp 40) (.tmp 42) _ rfl hap rfl (by simp [Act.eval, Act.put]) (by simp [Act.eval, Act.put]) ?_)
      all_goals
        refine wx_gen (NewR w c p n (j + 1)) ?_ ?_
        focus
          have h1 := HB.out.set 1 (.slice A' (j + 1) c')
          have hown : ∀ k, (Value.slice A' (j + 1) c').ownBlock = some k → ¬ k = c := fun k hk e => by
            subst e
            rcases HO.out.2 with ⟨e, _⟩ | ⟨g', cap, cur, e, _, hh, _⟩
            · rw [e] at hk; cases hk
            · rw [e] at hk; simp [Value.ownBlock] at hk; subst hk; exact (show Blk w' g' _ cur from hh).ne HB.out (by decide) rfl
          refine ⟨⟨.slice A' (j + 1) c', ?_, by simpa using h1⟩, HPS.out.far (fun e => (HPS.out.ne HB.out (by decide)) e) _, ?_, HC.out, HP.out⟩
          · have := HO.out.only (Only.setCell w' ⟨c, 1, none⟩ (.slice A' (j + 1) c')) hown
            rw [intsV_succ, HX.out]
            exact this
          · exact Fresh.step (show Fresh w w' from HBL.out) ⟨c, 1, none⟩ _ HC.out
        clear c0 c1 c2 d0 d1 d2 e1 q0 hap
        intro W2 hR2
        have HR2 := Lib.hid hR2
        clear hR2
        go_wp2
        go_roundw
        case rel => exact ⟨j + 1, by omega, by go_num, HR2.out⟩
        case measure => simp [intOf]; omega
    · obtain rfl : j = n := by omega
      have HR := Lib.hid hR
      clear hR
      go_wp2_with fail
      go_ret2
      obtain ⟨⟨v, ho, hb⟩, hps, hf, hc, hp⟩ := HR.out
      obtain ⟨g, k, rfl, hg, hprt⟩ := ho.prt (by omega)
      refine ⟨c, g, k, rfl, hc, hg, ⟨?_, hprt, h1, h2, by omega, fun i hi => (HPOS.out i hi).1, ?_⟩, hf⟩
      · rw [sum_parts 65535 j (by omega)]; exact hb
      · rw [sum_parts 65535 j (by omega)]; omega
end Go.Proofs.Ytnnciekbmapilaa
