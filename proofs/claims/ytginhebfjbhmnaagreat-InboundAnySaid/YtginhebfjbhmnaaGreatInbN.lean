/-
  The law InboundAny.
-/
import Derived.Test.YtginhebfjbhmnaaGreatG42
import Derived.Test.YtginhebfjbhmnaaGreatG40
import Derived.Test.YtginhebfjbhmnaaGreatG17
namespace Go.Proofs.YtginhebfjbhmnaaGreat
set_option maxRecDepth 100000
set_option linter.unusedVariables false
set_option linter.unusedSimpArgs false
open Go.RowKit
def totA (ls : List BSl) : Nat := (ls.map fun b => 5 + b.l.length).sum
theorem totA_snoc (ls : List BSl) (b : BSl) : totA (ls ++ [b]) = totA ls + (5 + b.l.length) := by simp [totA]
theorem totA_append (a b : List BSl) : totA (a ++ b) = totA a + totA b := by simp [totA]
theorem totA_take (ls : List BSl) (k : Nat) (b : BSl) (h : ls[k]? = some b) : totA (ls.take (k + 1)) = totA (ls.take k) + (5 + b.l.length) := by
  obtain ⟨hk, rfl⟩ := List.getElem?_eq_some_iff.1 h
  rw [List.take_succ_eq_append_getElem hk, totA_snoc]
theorem totA_le (ls : List BSl) (k : Nat) : totA (ls.take k) ≤ totA ls := by
  have h := totA_append (ls.take k) (ls.drop k)
  rw [List.take_append_drop] at h
  omega
theorem totA_each {ls : List BSl} (h : totA ls ≤ 600) : ∀ x ∈ ls, x.l.length ≤ 600 := fun x hx => by
  obtain ⟨k, hk⟩ := List.getElem?_of_mem hx
  have h1 := totA_take ls k x hk
  have h2 := totA_le ls (k + 1)
  omega
theorem IbAt.wait {w0 w : World} {B : InB} {l : List UInt8} {s : Option Part} {bg : Bool} (h : IbAt w0 w B l s bg) : (l.length : Int) + (lenS s : Int) ≤ 32777 := by
  have h1 : l.length ≤ 16392 := by
    have hi := h.rs.inv
    rcases parseK_16 hi with e | ⟨e1, e2, e3⟩
    · omega
    · omega
  have h2 : lenS s ≤ 16384 := by
    cases s with
    | none => simp [lenS]
    | some y =>
      obtain ⟨a, t, b⟩ := y
      have := (h.asm.part a t b rfl).2.2
      simp only [lenS]
      omega
  omega
/-- A reader, living or dead, and how many faults there were. -/
def AnyS (w wr : World) (p : Nat) (f : Value) : Prop := (f = .int .i64 0 ∧ ∃ B l s bg, B.p = p ∧ IbAt w wr B l s bg) ∨ (f = .int .i64 1 ∧ InDead wr p)
theorem AnyS.fresh {w wr wr' : World} {p : Nat} {f : Value} (h : AnyS w wr p f) (hf : Fresh wr wr') : AnyS w wr' p f := by
  rcases h with ⟨e, B, l, s, bg, hp, hi⟩ | ⟨e, hd⟩
  · exact .inl ⟨e, B, l, s, bg, hp, hi.fresh hf⟩
  · exact .inr ⟨e, Blk.fresh hd hf⟩
set_option maxHeartbeats 12800000 in
theorem InboundAny_any (s : BSls) (w : World) (hs : s.Ok w) :
    Calls Tryz.prog 4 #[.slice s.A s.xs.length s.c] w fun e w' => e = .returned (.bool true) ∧ Below w.heap.size w w' := by
  have HNEW := Lib.hid (fun W (hf : Fresh w W) => in_new w W hf)
  unfold InNewP at HNEW
  have HW := Lib.hid awake23
  obtain ⟨A, c, xs⟩ := s
  have hle := hs.le
  have hmax := hs.max
  have HROWS := Lib.hid hs.rows
  have HOK := Lib.hid hs.ok
  simp only [] at hle hmax HROWS HOK ⊢
  clear hs
  obtain ⟨m, hm⟩ : ∃ m, xs.length = m := ⟨_, rfl⟩
  have HM := Lib.hid hm
  rw [hm] at hle ⊢
  clear hm
  go_enter Tryz.func4, Tryz.ntmps4
  go_wp2_with fail
  with_reducible refine (HNEW.out _ (Fresh.refl _)).mono ?_
  rintro e W1 ⟨B, rfl, hib, hlo, hf1⟩
  have HIB := Lib.hid hib
  have HF1 := Lib.hid hf1
  clear hib hlo hf1 HNEW
  by_cases hm100 : m ≤ 100
  · have d1 : ¬ 100 < (m : Int) := by omega
    go_wp2
    go_loopw [4, 16] (fun t i wr => ∃ (k : Nat), k ≤ m ∧ i = .int .i64 (k : Int) ∧ t = .int .i64 (totA (xs.take k) : Int) ∧ totA (xs.take k) ≤ k * 140737488351237 ∧ W1 = wr) (fun _ i _ => m - (intOf i).toNat)
    case atStart => exact ⟨0, by omega, rfl, by simp [totA], by simp [totA], rfl⟩
    case round =>
      obtain ⟨k, hk, rfl, rfl, htk, rfl⟩ := hrel
      by_cases hlt : k < m
      · have hlt' : (k : Int) < (m : Int) := by omega
        obtain ⟨z, hz⟩ : ∃ z, xs[k]? = some z := ⟨_, List.getElem?_eq_getElem (by rw [HM.out]; exact hlt)⟩
        obtain ⟨b, o, rfl, hbw, k0⟩ := HROWS.out.one k z hz
        have j0 := (HF1.out.cell (p := ⟨b, o + k, none⟩) hbw).trans k0
        simp only [BSl.cells, List.getElem?_cons_zero] at j0
        have hzk := HOK.out z (List.mem_of_getElem? hz)
        have hz1 := hzk.le
        have hz2 := hzk.max
        have htt := totA_take xs k z hz
        clear hz k0 hzk
        obtain ⟨n, hn⟩ : ∃ n, z.l.length = n := ⟨_, rfl⟩
        rw [hn] at j0 hz1 htt
        clear hn
        obtain ⟨T, hT⟩ : ∃ T, totA (xs.take k) = T := ⟨_, rfl⟩
        obtain ⟨T', hT'⟩ : ∃ T', totA (xs.take (k + 1)) = T' := ⟨_, rfl⟩
        have HT' := Lib.hid hT'
        rw [hT] at htk htt ⊢
        rw [hT'] at htt
        clear hT hT'
        have hkm : k * 140737488351237 ≤ 14073748835123700 := by omega
        go_wp2
        go_roundw
        case rel => exact ⟨k + 1, by omega, by go_num, by rw [HT'.out, htt]; first | rfl | (congr 1; omega) | go_num, by rw [HT'.out, htt]; omega, (by first | rfl | trivial)⟩
        case measure => simp [intOf]; omega
      · have hkm : k = m := by omega
        subst hkm
        rw [List.take_of_length_le (by rw [HM.out]; exact Nat.le_refl _)]
        obtain ⟨T, hT⟩ : ∃ T, totA xs = T := ⟨_, rfl⟩
        have HT := Lib.hid hT
        rw [hT]
        clear hT htk
        by_cases h600 : T ≤ 600
        · have d2 : ¬ 600 < (T : Int) := by omega
          have HEA := Lib.hid (totA_each (ls := xs) (by rw [HT.out]; exact h600))
          have HST : Hid (AnyS w W1 B.p (.int .i64 0)) := Lib.hid (.inl ⟨rfl, B, _, _, _, rfl, HIB.out⟩)
          obtain ⟨p, hp⟩ : ∃ p, B.p = p := ⟨_, rfl⟩
          rw [hp] at HST ⊢
          clear hp HIB
          go_wp2
          go_loopw [7, 44] (fun f i wr => ∃ (k2 : Nat) (f7 : Value), f7 = f ∧ k2 ≤ k ∧ i = .int .i64 (k2 : Int) ∧ AnyS w wr p f7 ∧ Fresh w wr) (fun _ i _ => k - (intOf i).toNat)
          case atStart => exact ⟨0, _, rfl, by omega, rfl, HST.out, HF1.out⟩
          case round =>
            obtain ⟨k2, f7, hf7, hk2, rfl, hst, hfr⟩ := hrel
            subst hf7
            have HFR := Lib.hid hfr
            have HS := Lib.hid hst
            clear hfr hst HST
            by_cases hlt : k2 < k
            · have hlt' : (k2 : Int) < (k : Int) := by omega
              obtain ⟨z, hz⟩ : ∃ z, xs[k2]? = some z := ⟨_, List.getElem?_eq_getElem (by rw [HM.out]; exact hlt)⟩
              obtain ⟨b, o, rfl, hbw, k0⟩ := HROWS.out.one k2 z hz
              have j0 := (HFR.out.cell (p := ⟨b, o + k2, none⟩) hbw).trans k0
              simp only [BSl.cells, List.getElem?_cons_zero] at j0
              have hzk := HOK.out z (List.mem_of_getElem? hz)
              have hzl := HEA.out z (List.mem_of_getElem? hz)
              have HBZ := Lib.hid (hzk.bs.fresh HFR.out)
              obtain ⟨ZA, zc, zl⟩ := z
              obtain ⟨n, hn⟩ : ∃ n, zl.length = n := ⟨_, rfl⟩
              have HN := Lib.hid hn
              simp only at j0 hzl HBZ
              rw [hn] at j0 hzl
              clear hz k0 hzk hn hbw
              rcases HS.out with ⟨rfl, B2, l2, s2, bg2, hp2, hib2⟩ | ⟨rfl, hd2⟩
              · subst hp2
                have HIB := Lib.hid hib2
                clear hib2
                obtain ⟨⟨ev, co, st⟩, hq⟩ : ∃ q, feedQ l2 s2 bg2 zl = q := ⟨_, rfl⟩
                have hst : st = none ↔ co ≠ 0 := by
                  have h1 := congrArg Prod.snd hq
                  unfold feedQ at h1
                  cases hr : allF 16384 (l2 ++ zl).length (l2 ++ zl) with
                  | none =>
                    rw [hr] at h1
                    simp only [feedR, Prod.mk.injEq] at h1
                    obtain ⟨rfl, rfl⟩ := h1
                    simp
                  | some P =>
                    rw [hr] at h1
                    simp only [feedR, Prod.mk.injEq] at h1
                    obtain ⟨h1, h2⟩ := h1
                    rw [h1] at h2
                    by_cases hc : co = 0
                    · rw [if_pos hc] at h2
                      subst h2
                      simp [hc]
                    · rw [if_neg hc] at h2
                      subst h2
                      simp [hc]
                go_wp2_with fail
                with_reducible refine (in_dead_no HIB.out).mono ?_
                rintro e W2 ⟨rfl, hw2⟩
                obtain rfl := hw2
                by_cases hco : co = 0
                · subst hco
                  obtain ⟨st, rfl⟩ : ∃ y, st = some y := by
                    cases st with
                    | none => exact absurd rfl (hst.1 rfl)
                    | some y => exact ⟨y, rfl⟩
                  obtain ⟨l3, s3, bg3⟩ := st
                  have HFD := Lib.hid (in_feedV w W2 B2 l2 s2 bg2 ZA n zc zl HIB.out HN.out HBZ.out (by omega) ev 0 false _ hq (by decide))
                  unfold InFeedV at HFD
                  clear hq hst
                  go_wp2_with fail
                  with_reducible refine HFD.out.mono ?_
                  clear HFD
                  rintro e W3 ⟨ys, YA, yn, yc, rfl, hu1, hu2, hu3, ho3, hu5, hal⟩
                  clear hu1 hu2 hu3 hu5
                  obtain ⟨B3, hp3, hib3, _, _⟩ := hal _ _ _ rfl
                  have HF3 : Hid (Fresh w W3) := Lib.hid (Only.fresh ((Only.of_fresh HFR.out).trans ho3) (fun i hi hk => by have := (HIB.out.lt hk).2; omega))
                  have HI3 := Lib.hid hib3
                  clear hal ho3 hib3 HIB
                  go_wp2_with (first | (refine wp_storeB (ds := #[.int .i64 0, .bool false]) rfl (.tmp 12) (.tmp 55) _ rfl rfl rfl (Blk.new _ _ _) (by kernel_rfl) rfl (by simp [Value.oneCell']) ?_) | fail)
                  intro W4 hb4 ho4
                  have hf4 : Fresh W3 W4 := Only.fresh ((Only.of_fresh (Fresh.alloc _ _)).trans ho4) (fun i hi e => by omega)
                  have HB4 := Lib.hid hb4
                  have HI4 := Lib.hid (HI3.out.fresh hf4)
                  have HF4 := Lib.hid (HF3.out.trans hf4)
                  obtain ⟨b12, hb12⟩ : ∃ b, W3.heap.size = b := ⟨_, rfl⟩
                  rw [hb12] at HB4 ⊢
                  clear hb4 ho4 hf4 hb12 HI3 HF3
                  go_wp2_with (first | (refine wp_loadB rfl (.tmp 12) _ rfl rfl HB4.out (by kernel_rfl) (fun w => by simp [isAgg, go_sem]) ?_) | fail)
                  with_reducible refine (pok 0 false true (by decide) _).mono ?_
                  rintro e W5 ⟨rfl, hf5⟩
                  have HB5 := Lib.hid (HB4.out.fresh hf5)
                  have HI5 := Lib.hid (HI4.out.fresh hf5)
                  have HF5 := Lib.hid (HF4.out.trans hf5)
                  clear hf5 HB4 HI4 HF4
                  go_wp2_with fail
                  have hh := in_dead_no HI5.out
                  rw [hp3] at hh
                  with_reducible refine hh.mono ?_
                  clear hh
                  rintro e W6 ⟨rfl, hw6⟩
                  obtain rfl := hw6
                  obtain ⟨q0, q1⟩ := HB5.out.c2
                  go_wp2_with fail
                  with_reducible refine (pok 0 false true (by decide) _).mono ?_
                  rintro e W7 ⟨rfl, hf7⟩
                  have HI7 := Lib.hid (HI5.out.fresh hf7)
                  have HF7 := Lib.hid (HF5.out.trans hf7)
                  clear hf7 HB5 HI5 HF5 q0 q1
                  have hwt := HI7.out.wait
                  go_wp2_with fail
                  have hh := in_wait HI7.out
                  rw [hp3] at hh
                  with_reducible refine hh.mono ?_
                  clear hh
                  rintro e W8 ⟨rfl, hf8⟩
                  obtain ⟨wv, hwv⟩ : ∃ wv : Int, (l3.length : Int) + (lenS s3 : Int) = wv := ⟨_, rfl⟩
                  rw [hwv] at hwt ⊢
                  clear hwv
                  have hwt' : ¬ 32777 < wv := by omega
                  go_wp2_with fail
                  go_roundw
                  case rel => exact ⟨k2 + 1, _, rfl, by omega, by go_num, .inl ⟨rfl, B3, l3, s3, bg3, hp3, HI7.out.fresh hf8⟩, HF7.out.trans hf8⟩
                  case measure => simp [intOf]; omega
                · have HFD := Lib.hid (in_feedV w W2 B2 l2 s2 bg2 ZA n zc zl HIB.out HN.out HBZ.out (by omega) ev co true st hq (decide_eq_true hco))
                  unfold InFeedV at HFD
                  go_wp2_with fail
                  with_reducible refine HFD.out.mono ?_
                  clear HFD
                  rintro e W3 ⟨ys, YA, yn, yc, rfl, hu1, hu2, hu3, ho3, hdd, hal⟩
                  have HDD := Lib.hid (hdd (hst.2 hco))
                  have HF3 : Hid (Fresh w W3) := Lib.hid (Only.fresh ((Only.of_fresh HFR.out).trans ho3) (fun i hi hk => by have := (HIB.out.lt hk).2; omega))
                  clear hu1 hu2 hu3 hal ho3 hdd hst hq HIB
                  go_wp2_with (first | (refine wp_storeB (ds := #[.int .i64 co, .bool true]) rfl (.tmp 12) (.tmp 55) _ rfl rfl rfl (Blk.new _ _ _) (by kernel_rfl) rfl (by simp [Value.oneCell']) ?_) | fail)
                  intro W4 hb4 ho4
                  have hf4 : Fresh W3 W4 := Only.fresh ((Only.of_fresh (Fresh.alloc _ _)).trans ho4) (fun i hi e => by omega)
                  have HB4 := Lib.hid hb4
                  have HD4 := Lib.hid (show InDead W4 B2.p from Blk.fresh HDD.out hf4)
                  have HF4 := Lib.hid (HF3.out.trans hf4)
                  obtain ⟨b12, hb12⟩ : ∃ b, W3.heap.size = b := ⟨_, rfl⟩
                  rw [hb12] at HB4 ⊢
                  clear hb4 ho4 hf4 hb12 HDD HF3
                  go_wp2_with (first | (refine wp_loadB rfl (.tmp 12) _ rfl rfl HB4.out (by kernel_rfl) (fun w => by simp [isAgg, go_sem]) ?_) | fail)
                  with_reducible refine (pok co true false (by simp) _).mono ?_
                  rintro e W5 ⟨rfl, hf5⟩
                  have HB5 := Lib.hid (HB4.out.fresh hf5)
                  have HD5 := Lib.hid (show InDead W5 B2.p from Blk.fresh HD4.out hf5)
                  have HF5 := Lib.hid (HF4.out.trans hf5)
                  clear hf5 HB4 HD4 HF4
                  go_wp2_with fail
                  with_reducible refine (in_dead_yes HD5.out).mono ?_
                  rintro e W6 ⟨rfl, hw6⟩
                  obtain rfl := hw6
                  obtain ⟨q0, q1⟩ := HB5.out.c2
                  go_wp2_with fail
                  with_reducible refine (pok co true false (by simp) _).mono ?_
                  rintro e W7 ⟨rfl, hf7⟩
                  have HD7 := Lib.hid (show InDead W7 B2.p from Blk.fresh HD5.out hf7)
                  have HF7 := Lib.hid (HF5.out.trans hf7)
                  clear hf7 HB5 HD5 HF5 q0 q1
                  go_wp2_with fail
                  with_reducible refine (in_wait_dead HD7.out).mono ?_
                  rintro e W8 ⟨rfl, hw8⟩
                  obtain rfl := hw8
                  go_wp2_with fail
                  go_roundw
                  case rel => exact ⟨k2 + 1, _, rfl, by omega, by go_num, .inr ⟨by go_num, HD7.out⟩, HF7.out⟩
                  case measure => simp [intOf]; omega
              · have HD2 := Lib.hid hd2
                clear hd2
                go_wp2_with fail
                with_reducible refine (in_dead_yes HD2.out).mono ?_
                rintro e W2 ⟨rfl, hw2⟩
                obtain rfl := hw2
                go_wp2_with fail
                with_reducible refine (in_feed_dead _ _ _ HD2.out).mono ?_
                rintro e W3 ⟨rfl, hf3⟩
                have HDD := Lib.hid (show InDead W3 p from Blk.fresh HD2.out hf3)
                have HF3 := Lib.hid (HFR.out.trans hf3)
                clear hf3
                go_wp2_with (first | (refine wp_storeB (ds := #[.int .i64 105, .bool true]) rfl (.tmp 12) (.tmp 55) _ rfl rfl rfl (Blk.new _ _ _) (by kernel_rfl) rfl (by simp [Value.oneCell']) ?_) | fail)
                intro W4 hb4 ho4
                have hf4 : Fresh W3 W4 := Only.fresh ((Only.of_fresh (Fresh.alloc _ _)).trans ho4) (fun i hi e => by omega)
                have HB4 := Lib.hid hb4
                have HD4 := Lib.hid (show InDead W4 p from Blk.fresh HDD.out hf4)
                have HF4 := Lib.hid (HF3.out.trans hf4)
                obtain ⟨b12, hb12⟩ : ∃ b, W3.heap.size = b := ⟨_, rfl⟩
                rw [hb12] at HB4 ⊢
                clear hb4 ho4 hf4 hb12 HDD HF3
                go_wp2_with (first | (refine wp_loadB rfl (.tmp 12) _ rfl rfl HB4.out (by kernel_rfl) (fun w => by simp [isAgg, go_sem]) ?_) | fail)
                with_reducible refine (pok 105 true false (by decide) _).mono ?_
                rintro e W5 ⟨rfl, hf5⟩
                have HB5 := Lib.hid (HB4.out.fresh hf5)
                have HD5 := Lib.hid (show InDead W5 p from Blk.fresh HD4.out hf5)
                have HF5 := Lib.hid (HF4.out.trans hf5)
                clear hf5 HB4 HD4 HF4
                obtain ⟨q0, q1⟩ := HB5.out.c2
                go_wp2_with fail
                with_reducible refine (in_dead_yes HD5.out).mono ?_
                rintro e W6 ⟨rfl, hw6⟩
                obtain rfl := hw6
                go_wp2_with fail
                with_reducible refine (in_wait_dead HD5.out).mono ?_
                rintro e W8 ⟨rfl, hw8⟩
                obtain rfl := hw8
                go_wp2_with fail
                go_roundw
                case rel => exact ⟨k2 + 1, _, rfl, by omega, by go_num, .inr ⟨rfl, HD5.out⟩, HF5.out⟩
                case measure => simp [intOf]; omega
            · rcases HS.out with ⟨rfl, _⟩ | ⟨rfl, _⟩
              · go_wp2_with fail
                with_reducible refine (HW.out _).mono ?_
                rintro e W3 ⟨rfl, hf3⟩
                go_wp2
                go_ret
                exact ⟨rfl, HFR.out.trans hf3⟩
              · go_wp2_with fail
                with_reducible refine (HW.out _).mono ?_
                rintro e W3 ⟨rfl, hf3⟩
                go_wp2
                go_ret
                exact ⟨rfl, HFR.out.trans hf3⟩
        · have d2 : 600 < (T : Int) := by omega
          go_wp2_with fail
          with_reducible refine (HW.out _).mono ?_
          rintro e W3 ⟨rfl, hf3⟩
          go_wp2
          go_ret
          exact ⟨rfl, HF1.out.trans hf3⟩
  · have d1 : 100 < (m : Int) := by omega
    go_wp2
    go_loopw [4, 16] (fun t i wr => ∃ (k : Nat) (z : Int), k ≤ m ∧ i = .int .i64 (k : Int) ∧ t = .int .i64 z ∧ W1 = wr) (fun _ i _ => m - (intOf i).toNat)
    case atStart => exact ⟨0, 0, by omega, rfl, rfl, rfl⟩
    case round =>
      obtain ⟨k, z0, hk, rfl, rfl, rfl⟩ := hrel
      by_cases hlt : k < m
      · have hlt' : (k : Int) < (m : Int) := by omega
        obtain ⟨z, hz⟩ : ∃ z, xs[k]? = some z := ⟨_, List.getElem?_eq_getElem (by rw [HM.out]; exact hlt)⟩
        obtain ⟨b, o, rfl, hbw, k0⟩ := HROWS.out.one k z hz
        have j0 := (HF1.out.cell (p := ⟨b, o + k, none⟩) hbw).trans k0
        simp only [BSl.cells, List.getElem?_cons_zero] at j0
        have hzk := HOK.out z (List.mem_of_getElem? hz)
        have hz1 := hzk.le
        have hz2 := hzk.max
        clear hz k0 hzk
        obtain ⟨n, hn⟩ : ∃ n, z.l.length = n := ⟨_, rfl⟩
        rw [hn] at j0 hz1
        clear hn
        go_wp2
        go_roundw
        case rel => exact ⟨k + 1, _, by omega, by go_num, rfl, (by first | rfl | trivial)⟩
        case measure => simp [intOf]; omega
      · by_cases h600 : z0 ≤ 600
        · have d2 : ¬ 600 < z0 := by omega
          go_wp2_with fail
          with_reducible refine (HW.out _).mono ?_
          rintro e W3 ⟨rfl, hf3⟩
          go_wp2
          go_ret
          exact ⟨rfl, HF1.out.trans hf3⟩
        · have d2 : 600 < z0 := by omega
          go_wp2_with fail
          with_reducible refine (HW.out _).mono ?_
          rintro e W3 ⟨rfl, hf3⟩
          go_wp2
          go_ret
          exact ⟨rfl, HF1.out.trans hf3⟩
end Go.Proofs.YtginhebfjbhmnaaGreat

