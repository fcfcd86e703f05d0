/-
  Texts laid together: ReasmF ReasmS.
-/
import Derived.Test.YtginhebfjbhmnaaGreatG13
import Derived.Deep.RegionHeld3
/-
  Contracts of package reasm: Feed, Copy.
-/
namespace Go.Proofs.YtginhebfjbhmnaaGreat
set_option maxRecDepth 100000
set_option linter.unusedVariables false
open Go.RowKit

def FeedOk (p : Nat) (most : Int) (v : Value) (P : List Fr × List UInt8) (w : World) (e : Ending) (w' : World) : Prop :=
  ∃ A1 n1 c1 fs v', e = .returned (.tuple #[.slice A1 n1 c1, .int .i64 0]) ∧ n1 = P.1.length ∧ OwnF w' w.heap.size (.slice A1 n1 c1) fs ∧ fs.map Prod.fst = P.1 ∧ RsAt w' p most P.2 v' ∧
    Only (fun k => k = p ∨ v.ownBlock = some k) w w' ∧ (∀ k, v'.ownBlock = some k → v.ownBlock = some k ∨ w.heap.size ≤ k) ∧ ∀ q ∈ fs, ∀ g, q.2 = some ⟨g, 0, none⟩ → v'.ownBlock ≠ some g
def FeedNo (p : Nat) (v : Value) (w : World) (e : Ending) (w' : World) : Prop :=
  e = .returned (.tuple #[.slice none 0 0, .int .i64 106]) ∧ RsDead w' p ∧ Only (fun k => k = p ∨ v.ownBlock = some k) w w'
def FeedPost (p : Nat) (most : Int) (v : Value) (r : Option (List Fr × List UInt8)) (w : World) (e : Ending) (w' : World) : Prop :=
  (∀ P, r = some P → FeedOk p most v P w e w') ∧ (r = none → FeedNo p v w e w')

theorem rfeed_dead (p : Nat) (b : Value) (w : World) (h : RsDead w p) :
    Calls Tryz.prog 24 #[.pointer (some ⟨p, 0, none⟩), b] w fun e w' => e = .returned (.tuple #[.slice none 0 0, .int .i64 25]) ∧ w = w' := by
  obtain ⟨A, c, h⟩ := h
  obtain ⟨c0, c1, c2⟩ := Blk.c3 h
  clear h
  go_enter Tryz.func24, Tryz.ntmps24
  go_wp2
  go_ret2
  exact ⟨rfl, rfl⟩

/-- Two cells of a block, as they stand. -/
abbrev TwoC (p : Nat) (a b : Value) (w' : World) : Prop := w'.cell? ⟨p, 0, none⟩ = some a ∧ w'.cell? ⟨p, 1, none⟩ = some b ∧ p < w'.heap.size
theorem TwoC.fresh {p : Nat} {a b : Value} {W W' : World} (h : TwoC p a b W) (hf : Fresh W W') : TwoC p a b W' :=
  ⟨(hf.cell (p := ⟨p, 0, none⟩) h.2.2).trans h.1, (hf.cell (p := ⟨p, 1, none⟩) h.2.2).trans h.2.1, by have := hf.size; have := h.2.2; omega⟩

set_option maxRecDepth 100000 in
set_option maxHeartbeats 6400000 in
theorem rfeed (p : Nat) (most : Int) (l : List UInt8) (v : Value) (A : Option Addr) (n c : Nat) (b : List UInt8) (r : Option (List Fr × List UInt8)) (w : World) (h : RsAt w p most l v) (hn : b.length = n) (hB : BS w A b) (hb : n ≤ 1000000000) (hr : allF most (l ++ b).length (l ++ b) = r) :
    Calls Tryz.prog 24 #[.pointer (some ⟨p, 0, none⟩), .slice A n c] w (FeedPost p most v r w) := by
  obtain ⟨A0, c0', hv, hlc0, hcm0, _⟩ := h.own.slice
  have hlen := h.len
  have hinv := h.inv
  have hm0 := h.m0
  have hm1 := h.m1
  have hnd := needI_pos hinv
  obtain ⟨A2, c2, w2, hap, ho2, hO2, hat2⟩ := Own.moreX (P := Tryz.prog) Tryz.underlying28 u8_info 28 h.own (Nat.zero_le _) A c b n (l.length + n) hn rfl hB (by omega)
  have hL : (l ++ b).length = l.length + n := by simp [hn]
  have hvp : ∀ k, v.ownBlock = some k → k ≠ p ∧ k < w.heap.size := h.ne
  have hb2 : Blk w2 p 81 #[.int .i64 most, v, .bool false] := h.blk.only hO2 (fun e => (hvp p e).1 rfl)
  have hpl := h.blk.lt
  have h2p : ∀ k, (Value.slice A2 (l.length + n) c2).ownBlock = some k → k ≠ p := fun k hk e => by
    rcases hat2 with h2 | h2
    · rw [h2] at hk; exact (hvp k hk).1 e
    · rw [h2] at hk; simp at hk; omega
  have hO3 : Only (fun k => k = p ∨ v.ownBlock = some k) w (w2.setCell ⟨p, 1, none⟩ (.slice A2 (l.length + n) c2)) := (hO2.mono (fun k hk => .inr hk)).trans ((Only.setCell w2 ⟨p, 1, none⟩ _).mono (fun k hk => .inl hk))
  have hb3 : Blk (w2.setCell ⟨p, 1, none⟩ (.slice A2 (l.length + n) c2)) p 81 #[.int .i64 most, .slice A2 (l.length + n) c2, .bool false] := hb2.set 1 _
  have ho3 : Own (w2.setCell ⟨p, 1, none⟩ (.slice A2 (l.length + n) c2)) 0 5 1 (.slice A2 (l.length + n) c2) (l.length + n) ((l ++ b).map byteV) := ho2.only (Only.setCell w2 ⟨p, 1, none⟩ _) h2p
  have HNe := Lib.hid (rneeds p most l v w h)
  subst hv
  obtain ⟨e0, e1, e2⟩ := h.blk.c3
  obtain ⟨f0, f1, f2⟩ := hb2.c3
  obtain ⟨z0, z1, z2⟩ := hb2.z3
  have HO3 := Lib.hid ho3
  have HOn := Lib.hid hO3
  have HB3 := Lib.hid hb3
  have HAT := Lib.hid hat2
  have HVP := Lib.hid hvp
  have HLN := Lib.hid hL
  have H2P := Lib.hid h2p
  have hs2 := hO2.size
  clear h hB hn hL hvp hb2 hb3 ho2 ho3 hO2 hO3 hat2 h2p
  by_cases hlt : (n : Int) < needI l
  · have hK : parseK (l ++ b) most = 16 := parse_need hinv (by have := HLN.out; simp at this; omega)
    have HR : Hid (r = some ([], l ++ b)) := by show _ = _; rw [← hr, allF_16 hK]
    have HK := Lib.hid hK
    clear hr hK
    generalize needI l = nd at *
    go_enter Tryz.func24, Tryz.ntmps24
    go_wp2_with fail
    with_reducible refine HNe.out.mono ?_
    rintro e w' ⟨rfl, rfl⟩
    go_wp2_with (at_builtin; with_reducible refine wp_app rfl (.tmp 20) (.tmp 21) _ rfl hap rfl rfl rfl ?_)
    go_ret2
    refine ⟨fun P hP => ?_, fun hN => by rw [HR.out] at hN; cases hN⟩
    rw [HR.out] at hP
    cases hP
    refine ⟨none, 0, 0, [], .slice A2 (l.length + n) c2, rfl, rfl, ⟨Own.nil _ _ _ _, fun p hp => by simp at hp⟩, rfl, ⟨HB3.out, ?_, HK.out, hm0, hm1⟩, HOn.out, fun k hk => ?_, fun q hq => by simp at hq⟩
    · rw [HLN.out]; exact HO3.out
    · rcases HAT.out with h2 | h2
      · rw [h2] at hk; exact .inl hk
      · rw [h2] at hk; simp at hk; exact .inr (by omega)
  · obtain ⟨A2', c2', e4, hc4, hm4, _⟩ := HO3.out.slice
    cases e4
    have HAL := Lib.hid (fall_at A2 (l.length + n) c2 (l ++ b) most r (w2.setCell ⟨p, 1, none⟩ (.slice A2 (l.length + n) c2)).drew HLN.out hc4 hm4 (HO3.out.bytes.1.fresh (Fresh.drew _)) (by omega) (by rw [← HLN.out]; exact hr))
    have HRS : Hid (∀ P, r = some P → parseK P.2 most = 16) := fun P hP => allF_rest _ _ (Nat.le_refl _) P (by rw [← hP]; exact hr)
    have HS0 : Hid (TwoC p (.int .i64 most) (.slice A2 (l.length + n) c2) (w2.setCell ⟨p, 1, none⟩ (.slice A2 (l.length + n) c2)).drew) := ⟨HB3.out.drew.cell 0, HB3.out.drew.cell 1, HB3.out.drew.lt⟩
    have hpw : p < w.heap.size := hpl
    clear hr
    generalize needI l = nd at *
    cases r with
    | none =>
      go_enter Tryz.func24, Tryz.ntmps24
      go_wp2_with fail
      with_reducible refine HNe.out.mono ?_
      rintro e w' ⟨rfl, rfl⟩
      go_wp2_with (at_builtin; with_reducible refine wp_app rfl (.tmp 20) (.tmp 21) _ rfl hap rfl rfl rfl ?_)
      clear hap e0 e1 e2 f0 f1 f2
      go_region_held3 (fun w' => w'.cell? ⟨p, 0, none⟩ = some (.int .i64 most) ∧ w'.cell? ⟨p, 1, none⟩ = some (.slice A2 (l.length + n) c2) ∧ p < w'.heap.size)
        (first | assumption | exact HS0.out | exact TwoC.fresh (by assumption) hf4)
        (first | (go_at_call 37; (with_reducible refine HAL.out.mono ?_); rintro e w4 ⟨_, h4⟩; obtain ⟨rfl, hf4⟩ := h4 rfl; clear h4))
      have hB4 := (HB3.out.drew).fresh hf4
      obtain ⟨k0, k1, k2⟩ := hB4.c3
      obtain ⟨y0, y1, y2⟩ := hB4.z3
      have HB4 := Lib.hid hB4
      have HF4 := Lib.hid ((Fresh.drew _).trans hf4)
      clear z0 z1 z2 hf4 hB4
      go_wp2
      go_ret2
      refine ⟨(fun P hP => by cases hP), fun _ => ⟨rfl, ?_, ?_⟩⟩
      · exact ⟨none, 0, ((HB4.out.set 0 _).set 1 _).set 2 _⟩
      · exact (HOn.out.trans ((Only.of_fresh HF4.out))).trans ((((Only.setCell w4 ⟨p, 0, none⟩ _).trans (Only.setCell _ ⟨p, 1, none⟩ _)).trans (Only.setCell _ ⟨p, 2, none⟩ _)).mono (fun k hk => .inl hk))
    | some P =>
      have hinvP := HRS.out P rfl
      have HIN := Lib.hid hinvP
      clear hinvP
      go_enter Tryz.func24, Tryz.ntmps24
      go_wp2_with fail
      with_reducible refine HNe.out.mono ?_
      rintro e w' ⟨rfl, rfl⟩
      go_wp2_with (at_builtin; with_reducible refine wp_app rfl (.tmp 20) (.tmp 21) _ rfl hap rfl rfl rfl ?_)
      clear hap e0 e1 e2 f0 f1 f2
      go_region_held3 (fun w' => w'.cell? ⟨p, 0, none⟩ = some (.int .i64 most) ∧ w'.cell? ⟨p, 1, none⟩ = some (.slice A2 (l.length + n) c2) ∧ p < w'.heap.size)
        (first | assumption | exact HS0.out | exact TwoC.fresh (by assumption) hf4)
        (first | (go_at_call 37; (with_reducible refine HAL.out.mono ?_); rintro e w4 ⟨h4, _⟩; obtain ⟨A5, n5, c5, fs, A6, rfl, rfl, ho4, hfs4, hpay4, hf4, hne4⟩ := h4 P rfl; clear h4))
      have hB4 := (HB3.out.drew).fresh hf4
      obtain ⟨k0, k1, k2⟩ := hB4.c3
      obtain ⟨y0, y1, y2⟩ := hB4.z3
      have HB4 := Lib.hid hB4
      have HF4 := Lib.hid ((Fresh.drew _).trans hf4)
      have HO4 := Lib.hid ho4
      have HFS4 := Lib.hid hfs4
      have HP4 := Lib.hid hpay4
      have HNE4 := Lib.hid hne4
      clear z0 z1 z2 hf4 hB4 ho4 hfs4 hpay4 hne4
      go_wp2
      go_ret2
      refine ⟨fun P' hP => ?_, fun hN => by cases hN⟩
      cases hP
      have hOs := Only.setCell w4 ⟨p, 1, none⟩ (.slice A6 P.2.length P.2.length)
      have hnp : ∀ g cs, Blk w4 g 5 cs → ¬ g = p := fun g cs hg e => by subst e; exact hg.ne HB4.out (by decide) rfl
      refine ⟨A5, P.1.length, c5, fs, .slice A6 P.2.length P.2.length, rfl, rfl, ?_, HFS4.out, ⟨HB4.out.set 1 _, ?_, HIN.out, hm0, hm1⟩, ?_, ?_, ?_⟩
      · have hbb := HOn.out.size
        have hOF : OwnF w4 w.heap.size (.slice A5 P.1.length c5) fs := ⟨HO4.out.1.base_le (by simpa using hbb), fun q hq => ⟨(HO4.out.2 q hq).1.base_le (by simpa using hbb), (HO4.out.2 q hq).2⟩⟩
        refine ⟨hOF.1.only hOs ?_, hOF.2.only hOs (fun g cs hg => hnp g cs hg)⟩
        intro k hk e
        obtain ⟨cur, hc⟩ := hOF.1.blk hk
        subst e
        exact hc.ne HB4.out (by decide) rfl
      · have := (HP4.out.own rfl (by have := numL_take3 P.2; unfold maxLen; rcases parseK_16 HIN.out with h | ⟨h1, h2, h3⟩ <;> omega)).base_le (base' := 0) (Nat.zero_le _)
        refine this.only hOs ?_
        intro k hk e
        obtain ⟨cur, hc⟩ := this.blk hk
        subst e
        exact hc.ne HB4.out (by decide) rfl
      · exact (HOn.out.trans ((Only.of_fresh HF4.out))).trans (hOs.mono (fun k hk => .inl hk))
      · intro k hk
        right
        obtain ⟨g, e, hg, _⟩ := HP4.out
        rw [e] at hk
        simp [Value.ownBlock] at hk
        have := HOn.out.size
        simp at hg this
        omega
      · intro q hq g hg e
        obtain ⟨g', e', _, _⟩ := HP4.out
        rw [e'] at e
        simp [Value.ownBlock] at e
        subst e
        exact HNE4.out q hq (hg.trans e'.symm)
def RCopy (most : Int) (l : List UInt8) (w : World) (e : Ending) (w' : World) : Prop :=
  ∃ p v, e = .returned (.pointer (some ⟨p, 0, none⟩)) ∧ w.heap.size ≤ p ∧ RsAt w' p most l v ∧ (∀ k, v.ownBlock = some k → w.heap.size ≤ k) ∧ Fresh w w'
set_option maxRecDepth 100000 in
set_option maxHeartbeats 1600000 in
theorem rcopy (p : Nat) (most : Int) (l : List UInt8) (v : Value) (w : World) (h : RsAt w p most l v) :
    Calls Tryz.prog 32 #[.pointer (some ⟨p, 0, none⟩)] w (RCopy most l w) := by
  obtain ⟨A, c, rfl, hlc, hcm, _⟩ := h.own.slice
  obtain ⟨c0, c1, c2⟩ := h.blk.c3
  have hpl := h.blk.lt
  have hlen := h.len
  have HBS := Lib.hid h.own.bytes.1
  have hinv := Lib.hid h.inv
  have hm0 := h.m0
  have hm1 := h.m1
  have hb1 := Blk.new w 81 #[.int .i64 most, .slice A l.length c, .bool false]
  have HB1 := Lib.hid hb1
  clear h hb1
  go_enter Tryz.func32, Tryz.ntmps32
  go_wp2_with fail
  with_reducible refine (onewR A l.length c l _ rfl (HBS.out.fresh (Fresh.alloc _ _)) (by omega)).mono ?_
  rintro e w3 ⟨q, g, rfl, hq, hg, hr3, hf3⟩
  have HB3 := Lib.hid (HB1.out.fresh hf3)
  have HF3 := Lib.hid hf3.tA
  have hqw : w.heap.size < q := by simp at hq; omega
  have hgw : w.heap.size < g := by simp at hg; omega
  clear hf3 hq hg
  go_wp2_with fail
  with_reducible refine (orest_new q g l l.length _ hr3 rfl).mono ?_
  rintro e w4 ⟨rfl, hbk4, _, ho4⟩
  have hB4 := HB3.out.only ho4 (by omega)
  obtain ⟨d0, d1, d2⟩ := hB4.c3
  obtain ⟨z0, z1, z2⟩ : w4.frozen? ⟨w.heap.size, 0, none⟩ = false ∧ w4.frozen? ⟨w.heap.size, 1, none⟩ = false ∧ w4.frozen? ⟨w.heap.size, 2, none⟩ = false := ⟨hB4.frozen 0, hB4.frozen 1, hB4.frozen 2⟩
  have HB4 := Lib.hid hB4
  have HF4 : Hid (Fresh w w4) := Below.trans HF3.out (Only.below ho4 HF3.out.size (fun k e => by omega))
  have HBK4 := Lib.hid hbk4
  clear hr3 hbk4 ho4 hB4
  go_wp2
  go_ret
  have hP : Pay w4 w.heap.size (some ⟨g, 0, none⟩) l := ⟨g, rfl, by omega, HBK4.out⟩
  have hOw := hP.own rfl (by unfold maxLen; omega)
  refine ⟨w.heap.size, .slice (some ⟨g, 0, none⟩) l.length l.length, rfl, Nat.le_refl _, ⟨HB4.out.set 1 _, ?_, hinv.out, hm0, hm1⟩, fun k hk => ?_, Below.trans HF4.out (Only.below (Only.setCell w4 ⟨w.heap.size, 1, none⟩ _) HF4.out.size (fun k e => by simp at e; omega))⟩
  · refine (hOw.base_le (base' := 0) (Nat.zero_le _)).only (Only.setCell w4 ⟨w.heap.size, 1, none⟩ _) (fun k hk e => ?_)
    simp [Value.ownBlock] at hk e
    omega
  · simp [Value.ownBlock] at hk
    omega
def RCopyDead (w : World) (e : Ending) (w' : World) : Prop := ∃ p, e = .returned (.pointer (some ⟨p, 0, none⟩)) ∧ w.heap.size ≤ p ∧ RsDead w' p ∧ Fresh w w'
set_option maxRecDepth 100000 in
set_option maxHeartbeats 1600000 in
theorem rcopy_dead (p : Nat) (w : World) (h : RsDead w p) :
    Calls Tryz.prog 32 #[.pointer (some ⟨p, 0, none⟩)] w (RCopyDead w) := by
  obtain ⟨A, c, h⟩ := h
  obtain ⟨c0, c1, c2⟩ := Blk.c3 h
  have hpl := h.lt
  have hb1 := Blk.new w 81 #[.int .i64 0, .slice A 0 c, .bool true]
  have HB1 := Lib.hid hb1
  clear h hb1
  go_enter Tryz.func32, Tryz.ntmps32
  go_wp2_with fail
  with_reducible refine (onewR A 0 c [] _ rfl (BS.nil _ _) (by omega)).mono ?_
  rintro e w3 ⟨q, g, rfl, hq, hg, hr3, hf3⟩
  have HB3 := Lib.hid (HB1.out.fresh hf3)
  have HF3 := Lib.hid hf3.tA
  have hqw : w.heap.size < q := by simp at hq; omega
  clear hf3 hq hg
  go_wp2_with fail
  with_reducible refine (orest_new q g [] 0 _ hr3 rfl).mono ?_
  rintro e w4 ⟨rfl, hbk4, _, ho4⟩
  have hB4 := HB3.out.only ho4 (by omega)
  obtain ⟨d0, d1, d2⟩ := hB4.c3
  obtain ⟨z0, z1, z2⟩ : w4.frozen? ⟨w.heap.size, 0, none⟩ = false ∧ w4.frozen? ⟨w.heap.size, 1, none⟩ = false ∧ w4.frozen? ⟨w.heap.size, 2, none⟩ = false := ⟨hB4.frozen 0, hB4.frozen 1, hB4.frozen 2⟩
  have HB4 := Lib.hid hB4
  have HF4 : Hid (Fresh w w4) := Below.trans HF3.out (Only.below ho4 HF3.out.size (fun k e => by omega))
  clear hr3 hbk4 ho4 hB4
  go_wp2
  go_ret
  exact ⟨w.heap.size, rfl, Nat.le_refl _, ⟨_, _, HB4.out.set 1 _⟩, Below.trans HF4.out (Only.below (Only.setCell w4 ⟨w.heap.size, 1, none⟩ _) HF4.out.size (fun k e => by simp at e; omega))⟩
end Go.Proofs.YtginhebfjbhmnaaGreat

/-
  A reassembler's calls by its state alone.
-/
namespace Go.Proofs.YtginhebfjbhmnaaGreat
set_option maxRecDepth 100000
set_option linter.unusedVariables false
open Go.RowKit
/-- What waits behind a chunk; none: dead. -/
def feedS (most : Int) (s : Option (List UInt8)) (b : List UInt8) : Option (List UInt8) := s.bind fun l => (allF most (l ++ b).length (l ++ b)).map Prod.snd
def RsV (w : World) (p : Nat) (most : Int) (s : Option (List UInt8)) (v : Value) : Prop :=
  match s with
  | some l => RsAt w p most l v
  | none => RsDead w p ∧ v = .slice none 0 0
theorem RsV.only {S : Nat → Prop} {w w' : World} {p : Nat} {most : Int} {s : Option (List UInt8)} {v : Value} (h : RsV w p most s v) (ho : Only S w w') (hp : ¬ S p) (hv : ∀ k, v.ownBlock = some k → ¬ S k) : RsV w' p most s v := by
  cases s with
  | some l => exact RsAt.only h ho hp hv
  | none => exact ⟨RsDead.only h.1 ho hp, h.2⟩
theorem RsV.fresh {w w' : World} {p : Nat} {most : Int} {s : Option (List UInt8)} {v : Value} (h : RsV w p most s v) (hf : Fresh w w') : RsV w' p most s v := by
  cases s with
  | some l => exact RsAt.fresh h hf
  | none => exact ⟨RsDead.fresh h.1 hf, h.2⟩
theorem RsV.lt {w : World} {p : Nat} {most : Int} {s : Option (List UInt8)} {v : Value} (h : RsV w p most s v) : p < w.heap.size ∧ ∀ k, v.ownBlock = some k → k ≠ p ∧ k < w.heap.size := by
  cases s with
  | some l => exact ⟨RsAt.blk h |>.lt, RsAt.ne h⟩
  | none =>
    obtain ⟨⟨A, c, hb⟩, rfl⟩ := h
    exact ⟨hb.lt, fun k hk => by cases hk⟩
def FeedV (p : Nat) (most : Int) (s : Option (List UInt8)) (v : Value) (w : World) (e : Ending) (w' : World) : Prop :=
  ∃ A n c z v', e = .returned (.tuple #[.slice A n c, .int .i64 z]) ∧ RsV w' p most s v' ∧ Only (fun k => k = p ∨ v.ownBlock = some k) w w' ∧ (∀ k, v'.ownBlock = some k → v.ownBlock = some k ∨ w.heap.size ≤ k)
theorem rfeedV (p : Nat) (most : Int) (s s' : Option (List UInt8)) (v : Value) (A : Option Addr) (n c : Nat) (b : List UInt8) (w : World) (h : RsV w p most s v) (hn : b.length = n) (hB : BS w A b) (hb : n ≤ 1000000000) (hs : feedS most s b = s') :
    Calls Tryz.prog 24 #[.pointer (some ⟨p, 0, none⟩), .slice A n c] w (FeedV p most s' v w) := by
  subst hs
  cases s with
  | some l =>
    cases hr : allF most (l ++ b).length (l ++ b) with
    | none =>
      refine (rfeed p most l v A n c b none w h hn hB hb hr).mono fun e w' ⟨_, h2⟩ => ?_
      obtain ⟨rfl, hd, ho⟩ := h2 rfl
      have e0 : feedS most (some l) b = none := by simp only [feedS, Option.bind_some, hr, Option.map_none]
      exact ⟨none, 0, 0, 106, .slice none 0 0, rfl, by rw [e0]; exact ⟨hd, rfl⟩, ho, fun k hk => by cases hk⟩
    | some P =>
      refine (rfeed p most l v A n c b (some P) w h hn hB hb hr).mono fun e w' ⟨h2, _⟩ => ?_
      obtain ⟨A1, n1, c1, fs, v', rfl, _, _, _, hrs, ho, hv, _⟩ := h2 P rfl
      have e0 : feedS most (some l) b = some P.2 := by simp only [feedS, Option.bind_some, hr, Option.map_some]
      exact ⟨A1, n1, c1, 0, v', rfl, by rw [e0]; exact hrs, ho, hv⟩
  | none =>
    obtain ⟨hd, rfl⟩ := h
    exact (rfeed_dead p _ w hd).mono fun e w' ⟨he, hw⟩ => by
      subst hw
      exact ⟨none, 0, 0, 25, .slice none 0 0, he, ⟨hd, rfl⟩, Only.refl _ _, fun k hk => by cases hk⟩
theorem rneedsV (p : Nat) (most : Int) (s : Option (List UInt8)) (v : Value) (w : World) (h : RsV w p most s v) :
    Calls Tryz.prog 36 #[.pointer (some ⟨p, 0, none⟩)] w fun e w' => e = .returned (.int .i64 (s.elim 0 needI)) ∧ w = w' := by
  cases s with
  | some l => exact rneeds p most l v w h
  | none => exact rneeds_dead p w h.1
def waitI (s : Option (List UInt8)) : Int := s.elim 0 fun l => (l.length : Int)
theorem rwaitingV (p : Nat) (most : Int) (s : Option (List UInt8)) (v : Value) (w : World) (h : RsV w p most s v) :
    Calls Tryz.prog 30 #[.pointer (some ⟨p, 0, none⟩)] w fun e w' => e = .returned (.int .i64 (waitI s)) ∧ w = w' := by
  cases s with
  | some l => exact rwaiting p most l v w h
  | none => exact rwaiting_dead p w h.1
def CopyV (most : Int) (s : Option (List UInt8)) (w : World) (e : Ending) (w' : World) : Prop :=
  ∃ p v, e = .returned (.pointer (some ⟨p, 0, none⟩)) ∧ w.heap.size ≤ p ∧ RsV w' p most s v ∧ (∀ k, v.ownBlock = some k → w.heap.size ≤ k) ∧ Fresh w w'
theorem rcopyV (p : Nat) (most : Int) (s : Option (List UInt8)) (v : Value) (w : World) (h : RsV w p most s v) :
    Calls Tryz.prog 32 #[.pointer (some ⟨p, 0, none⟩)] w (CopyV most s w) := by
  cases s with
  | some l => exact rcopy p most l v w h
  | none => exact (rcopy_dead p w h.1).mono fun e w' ⟨q, he, hq, hd, hf⟩ => ⟨q, .slice none 0 0, he, hq, ⟨hd, rfl⟩, (fun k hk => by cases hk), hf⟩
end Go.Proofs.YtginhebfjbhmnaaGreat

