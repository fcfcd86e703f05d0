/-
  Layer 12: the fixed answer; what may be gone through.
-/
import Derived.Test.YtapnlkmofldmdaaBlock5
import Derived.Deep.Cut
namespace Go.Proofs.Ytapnlkmofldmdaa
set_option linter.unusedVariables false
open Go.RowKit Go.ChangeShapes Go.WideShapes Go.Deep
theorem on_anyN (p : Nat) (lim : Int) (s : Option Part) (v : Value) (ty st : Int) (A : Option Addr) (n c : Nat) (l : List UInt8) (en eh ak : Bool) (fl co la inc de we : Int) (wd ex : Bool) (PA : Option Addr) (m pc : Nat) (ps : List (Int × Int)) (w : World) (r : Option Part × Option Part × Bool) (h : AsAt w p lim s v)
    (hn : l.length = n) (hm : ps.length = m) (hx : ItV.Ok w ⟨ty, st, A, c, l, en, eh, ak, fl, co, la, inc, de, we, wd, ex, PA, pc, ps⟩) (hp : 0 < l.length → ∀ b o, A = some ⟨b, o, none⟩ → ¬ b = p) (hr : onS lim s ty st l en eh = r) :
    Calls Try.prog 14 #[.pointer (some ⟨p, 0, none⟩), .agg #[.int .i64 ty, .int .i64 st, .slice A n c, .bool en, .bool eh, .bool ak, .int .i64 fl, .int .i64 co, .int .i64 la, .int .i64 inc, .int .i64 de, .int .i64 we, .bool wd, .bool ex, .slice PA m pc]] w
      (OnR p lim r v w) := by
  subst hn hm
  exact on_any p lim s v ⟨ty, st, A, c, l, en, eh, ak, fl, co, la, inc, de, we, wd, ex, PA, pc, ps⟩ w r h hx hp hr
theorem itOk0 (w : World) (ty st : Int) (A : Option Addr) (c : Nat) (l : List UInt8) (en eh : Bool) (h1 : l.length ≤ c) (h2 : c ≤ maxLen) (h3 : BS w A l) : ItV.Ok w ⟨ty, st, A, c, l, en, eh, false, 0, 0, 0, 0, 0, 0, false, false, none, 0, []⟩ :=
  ⟨h1, h2, h3, by simp, by simp [maxLen], Many.nil _ _ _ _⟩
set_option maxRecDepth 100000 in
set_option maxHeartbeats 6400000 in
theorem blk_awake (w : World) : Calls Try.prog 8 #[] w fun en w' => en = .returned (.bool true) ∧ Fresh w w' := by
  have kc : ∀ (w : World) (C : Array Value) (n c H : Nat), w.heap.size = H → (convert 31 31 (.slice (some ⟨H, 0, none⟩) n c)).run Try.prog (w.alloc (.cells C 5)) = .ok (.slice (some ⟨H, 0, none⟩) n c) (w.alloc (.cells C 5 (C.size, C.size + 1))) := fun w C n c H h => by
    subst h
    exact Lib.run_convert_bytes_const (P := Try.prog) w 31 5 C n c Try.underlying31 Try.underlying5
  go_enter Try.func8, Try.ntmps8
  go_wp2_with fail
  with_reducible refine (asNew 100 _ (by omega) (by omega)).mono ?_
  rintro en w1 ⟨p, rfl, hp, ha1, hf1⟩
  have HA1 := Lib.hid ha1
  have HF1 := Lib.hid hf1
  have HP : Hid (w.heap.size ≤ p ∧ p < w1.heap.size) := Lib.hid ⟨hp, ha1.lt.1⟩
  clear ha1 hf1 hp
  go_wp2_with fail
  have HON1 := Lib.hid (on_anyN p 100 none (.slice none 0 0) 1 3 (some ⟨w1.heap.size, 0, none⟩) 2 2 [97, 98] true false false 0 0 0 0 0 0 false false none 0 0 [] _ (some (3, [97, 98], true), none, false) (HA1.out.fresh (Fresh.alloc w1 (.cells (bytesA [97, 98]) 5 (2, 3)))) rfl rfl (itOk0 _ 1 3 _ 2 [97, 98] true false (by decide) (by decide) (BS.const w1 5 [97, 98] (2, 3))) (fun _ b o e => by cases e; have := HP.out; omega) (by decide))
  refine HON1.out.mono ?_
  rintro en w2 ⟨v2, b2, rfl, ha2, ho2, hv2, _⟩
  dsimp only [blkV, fltV, Option.isSome, if_true, if_false, Bool.false_eq_true]
  have HA2 := Lib.hid ha2
  have HF2 : Hid (Fresh w w2) := Lib.hid (Below.trans HF1.out (Only.below ((Only.of_fresh (Fresh.alloc _ _)).trans ho2) HF1.out.size (fun k e => by
    rcases e with e | e
    · have := HP.out; omega
    · cases e)))
  have HV2 : Hid (∀ k, v2.ownBlock = some k → w.heap.size ≤ k) := Lib.hid (fun k hk => by
    rcases hv2 k hk with e | e
    · cases e
    · have := HF1.out.size; simp at e; omega)
  clear ha2 ho2 hv2 HON1
  go_wp2_with fail
  have HON2 := Lib.hid (on_anyN p 100 (some (3, [97, 98], true)) v2 0 3 none 0 0 [] false false false 0 0 0 0 0 0 false false none 0 0 [] _ (some (3, [97, 98], true), none, true) ((HA2.out.fresh (Fresh.alloc w2 (.cells #[.int .i64 0, .slice none 0 0, .bool false] 52))).fresh (Fresh.alloc _ (.cells #[.int .i64 0, .bool false] 48))) rfl rfl (itOk0 _ 0 3 none 0 [] false false (by decide) (by decide) (BS.nil _ _)) (fun _ b o e => by cases e) (by decide))
  refine HON2.out.mono ?_
  rintro en w3 ⟨v3, b3, rfl, ha3, ho3, hv3, _⟩
  dsimp only [blkV, fltV, Option.isSome, if_true, if_false, Bool.false_eq_true]
  have HA3 := Lib.hid ha3
  have HF3 : Hid (Fresh w w3) := Lib.hid (Below.trans HF2.out (Only.below ((Only.of_fresh ((Fresh.alloc _ _).allocS _)).trans ho3) HF2.out.size (fun k e => by
    rcases e with e | e
    · have := HP.out; omega
    · exact HV2.out k e)))
  have HV3 : Hid (∀ k, v3.ownBlock = some k → w.heap.size ≤ k) := Lib.hid (fun k hk => by
    rcases hv3 k hk with e | e
    · exact HV2.out k e
    · have := HF2.out.size; simp at e; omega)
  have hpn : p < w2.heap.size := HA2.out.lt.1
  have HB3 := Lib.hid (((Blk.new (w2.alloc (.cells #[.int .i64 0, .slice none 0 0, .bool false] 52)) 48 #[.int .i64 0, .bool false])).only ho3 (by
    have h2 := HA2.out.lt
    rintro (e | e)
    · simp at e; omega
    · have := (h2.2 _ e).2; simp at this; omega))
  clear ha3 ho3 hv3 HON2
  obtain ⟨w3', hw3'⟩ : ∃ W : World, W = ((w3.alloc (.cells #[.int .i64 0, .slice none 0 0, .bool false] 52)).alloc (.cells #[.int .i64 101, .bool true] 48)) := ⟨_, rfl⟩
  have hs3' : w3'.heap.size = w3.heap.size + 1 + 1 := by rw [hw3']; simp
  have HF3' : Hid (Fresh w3 w3') := Lib.hid (by rw [hw3']; exact (Fresh.alloc _ _).allocS _)
  have HW3' := Lib.hid hw3'
  clear hw3'
  go_wp2_with fail
  have HON3 := Lib.hid (on_anyN p 100 (some (3, [97, 98], true)) v3 9 3 (some ⟨w3.heap.size + 1 + 1, 0, none⟩) 1 1 [99] false true false 0 0 0 0 0 0 false false none 0 0 [] (w3'.alloc (.cells (bytesA [99]) 5 (1, 2))) (none, some (3, [97, 98, 99], true), false) ((HA3.out.fresh HF3'.out).fresh (Fresh.alloc _ _)) rfl rfl (itOk0 _ 9 3 _ 1 [99] false true (by decide) (by decide) (by rw [← hs3']; exact BS.const w3' 5 [99] (1, 2))) (fun _ b o e => by cases e; have := HA3.out.lt.1; omega) (by decide))
  rw [HW3'.out] at HON3
  refine HON3.out.mono ?_
  rintro en w4 ⟨v4, b4, rfl, ha4, ho4, hv4, hb4⟩
  obtain ⟨hob4, hvb4⟩ := hb4 3 [97, 98, 99] true rfl
  obtain ⟨VB, cb, rfl, hcb, _⟩ := hob4.slice
  dsimp only [blkV, fltV, Option.isSome, if_true, if_false, Bool.false_eq_true]
  have HO34 : Hid (Only (fun k => k = p ∨ v3.ownBlock = some k) w3 w4) := Lib.hid ((Only.of_fresh ((HF3'.out.trans (Fresh.alloc _ _)))).trans (by rw [← HW3'.out] at ho4; exact ho4))
  have HF4 : Hid (Fresh w w4) := Lib.hid (Below.trans HF3.out (Only.below HO34.out HF3.out.size (fun k e => by
    rcases e with e | e
    · have := HP.out; omega
    · exact HV3.out k e)))
  have HBS4 := Lib.hid hob4.bytes.1
  have HFA4 : Hid (Blk w4 (w2.heap.size + 1) 48 #[.int .i64 0, .bool false]) := Lib.hid (by
    have h1 := HB3.out.only HO34.out (by
      have h3 := HA3.out.lt
      rintro (e | e)
      · simp at e; omega
      · obtain ⟨cur, hc⟩ := own_blk ((HA3.out.part 3 [97, 98] true rfl).2.1) e
        exact hc.ne HB3.out (by decide) rfl)
    simpa using h1)
  have HFB4 : Hid (Blk w4 (w3.heap.size + 1) 48 #[.int .i64 101, .bool true]) := Lib.hid (by
    have h0 : Blk w3' (w3.heap.size + 1) 48 #[.int .i64 101, .bool true] := by
      rw [HW3'.out]
      have := Blk.new (w3.alloc (.cells #[.int .i64 0, .slice none 0 0, .bool false] 52)) 48 #[.int .i64 101, .bool true]
      simpa using this
    have h1 := h0.fresh (Fresh.alloc w3' (.cells (bytesA [99]) 5 (1, 2)))
    refine h1.only (by rw [← HW3'.out] at ho4; exact ho4) ?_
    have h3 := HA3.out.lt
    rintro (e | e)
    · omega
    · have := (h3.2 _ e).2; omega)
  have hz24 : w2.heap.size + 1 < w4.heap.size := HFA4.out.lt
  have hz34 : w3.heap.size + 1 < w4.heap.size := HFB4.out.lt
  clear ha4 ho4 hv4 hb4 hob4 hvb4 HON3
  obtain ⟨w4', hw4'⟩ : ∃ W : World, W = ((w4.alloc (.cells #[.int .i64 3, .slice VB 3 cb, .bool true] 52)).alloc (.cells #[.int .i64 0, .bool false] 48)) := ⟨_, rfl⟩
  have hs4' : w4'.heap.size = w4.heap.size + 1 + 1 := by rw [hw4']; simp
  have HF4' : Hid (Fresh w4 w4') := Lib.hid (by rw [hw4']; exact (Fresh.alloc _ _).allocS _)
  have HT4' : Hid (Blk w4' w4.heap.size 52 #[.int .i64 3, .slice VB 3 cb, .bool true] ∧ Blk w4' (w4.heap.size + 1) 48 #[.int .i64 0, .bool false]) := Lib.hid (by
    rw [hw4']
    refine ⟨(Blk.new _ _ _).alloc _, ?_⟩
    have := Blk.new (w4.alloc (.cells #[.int .i64 3, .slice VB 3 cb, .bool true] 52)) 48 #[.int .i64 0, .bool false]
    simpa using this)
  have HW4' := Lib.hid hw4'
  clear hw4'
  go_wp2_with fail
  have HSP := Lib.hid (split_yes 1 (some ⟨w4.heap.size + 1 + 1, 0, none⟩) 5 [97, 98, 99, 100, 101] true 2 (w4'.alloc (.cells (bytesA [97, 98, 99, 100, 101]) 5 (5, 6))) (by decide) (by decide) (by decide) (by decide) (by decide) (by decide) (by rw [← hs4']; exact BS.const w4' 5 [97, 98, 99, 100, 101] (5, 6)) (by decide))
  rw [HW4'.out] at HSP
  refine HSP.out.mono ?_
  rintro en w5 ⟨n, SA, sc, fs, rfl, _, _, hn1, hn2, hf5⟩
  have hn : n = 2 := by simp at hn1 hn2; omega
  subst hn
  have hf5' : Fresh w4' w5 := by rw [← HW4'.out] at hf5; exact (Fresh.alloc _ _).trans hf5
  have HF5 : Hid (Fresh w4 w5) := Lib.hid (HF4'.out.trans hf5')
  obtain ⟨a0, a1⟩ := (HFA4.out.fresh HF5.out).c2
  obtain ⟨b0, b1⟩ := (HFB4.out.fresh HF5.out).c2
  obtain ⟨c0, c1, c2⟩ := (HT4'.out.1.fresh hf5').c3
  obtain ⟨d0, d1⟩ := (HT4'.out.2.fresh hf5').c2
  have hz5 := (HT4'.out.2.fresh hf5').lt
  have HCV : ∀ o, (convert 31 9 (.slice VB 3 cb)).run Try.prog (w5.alloc o) = .ok (.string (strB [97, 98, 99])) (w5.alloc o) := fun o =>
    run_str (HBS4.out.fresh (HF5.out.allocS o)) 31 9 5 Try.underlying31 Try.underlying5 Try.underlying9 cb
  have HFW : Hid (∀ o, Fresh w (w5.alloc o)) := Lib.hid (fun o => (HF4.out.trans HF5.out).allocS o)
  have hT : (strB [97, 98, 99]).toList = [97, 98, 99] := strB_toList _
  have hz6 : w2.heap.size + 1 < w5.heap.size := by omega
  have hz7 : w3.heap.size + 1 < w5.heap.size := by omega
  have hz8 : w4.heap.size < w5.heap.size := by omega
  clear hn1 hn2 hf5 hf5' HSP
  go_wp2
  go_ret
  exact ⟨rfl, HFW.out _⟩
end Go.Proofs.Ytapnlkmofldmdaa
