/-
  Texts laid together: FrameB FrameP.
-/
import Derived.Test.YtginhebfjbhmnaaGreatG02
import Derived.Test.YtginhebfjbhmnaaGreatG03
/-
  Contracts of package frame: Bytes.
-/
namespace Go.Proofs.YtginhebfjbhmnaaGreat
set_option maxRecDepth 100000
set_option linter.unusedVariables false
open Go.RowKit

/-- New bytes are told, and an error's number. -/
def BytesPost (L : List UInt8) (w : World) (e : Ending) (w' : World) : Prop :=
  ∃ A c, e = .returned (.tuple #[.slice A L.length c, .int .i64 0]) ∧ L.length ≤ c ∧ c ≤ maxLen ∧ Own w' w.heap.size 5 1 (.slice A L.length c) L.length (L.map byteV) ∧ Fresh w w'

/-- A right frame's bytes. -/
def frB2 (x y : UInt8) (st : Nat) (l : List UInt8) : List UInt8 := bigL l.length 3 ++ ([x, y] ++ (bigL st 4 ++ l))
theorem frB2_length (x y : UInt8) (st : Nat) (l : List UInt8) : (frB2 x y st l).length = 9 + l.length := by
  simp [frB2, bigL_length]; omega

theorem BytesPost.mk {L : List UInt8} {w w' : World} {A : Option Addr} {c n : Nat} (hn : n = L.length) (ho : Own w' w.heap.size 5 1 (.slice A n c) n (L.map byteV)) (hf : Fresh w w') : BytesPost L w (.returned (.tuple #[.slice A n c, .int .i64 0])) w' := by
  subst hn
  obtain ⟨A', c', e, h1, h2, _⟩ := ho.slice
  simp at e
  obtain ⟨rfl, rfl⟩ := e
  exact ⟨_, _, rfl, h1, h2, ho, hf⟩

theorem fbytes_no (ty fl st : Int) (A : Option Addr) (n c : Nat) (w : World) (h : frR ty fl st n = false) :
    Calls Tryz.prog 10 #[.agg #[.int .i64 ty, .int .i64 fl, .int .i64 st, .slice A n c]] w fun e w' => e = .returned (.tuple #[.slice none 0 0, .int .i64 10]) ∧ Fresh w w' := by
  have HR := Lib.hid (fun W => fright ty fl st A n c W)
  rw [h] at HR
  clear h
  go_enter Tryz.func10, Tryz.ntmps10
  go_wp2_with fail
  with_reducible refine (HR.out _).mono ?_
  rintro e w2 ⟨rfl, hf2⟩
  go_wp2
  go_ret2
  exact ⟨rfl, hf2.tA⟩

set_option maxRecDepth 100000 in
set_option maxHeartbeats 1600000 in
theorem fbytes_yes (x y : UInt8) (st : Nat) (A : Option Addr) (c : Nat) (l : List UInt8) (w : World) (hst : st ≤ 2147483647) (hl : l.length ≤ 16777215) (hA : BS w A l) (hlc : l.length ≤ c) :
    Calls Tryz.prog 10 #[.agg #[.int .i64 (x.toNat : Int), .int .i64 (y.toNat : Int), .int .i64 (st : Int), .slice A l.length c]] w (BytesPost (frB2 x y st l) w) := by
  have hx := UInt8.toNat_lt x
  have hy := UInt8.toNat_lt y
  have hR : frR (x.toNat : Int) (y.toNat : Int) (st : Int) l.length = true := by unfold frR; exact decide_eq_true (by omega)
  have HR := Lib.hid (fun W => fright (x.toNat : Int) (y.toNat : Int) (st : Int) A l.length c W)
  rw [hR] at HR
  have HL := Lib.hid (fun W => flen (x.toNat : Int) (y.toNat : Int) (st : Int) A l.length c W (by omega))
  have hmk := run_make0 (P := Tryz.prog) Tryz.underlying28 u8_info rfl (9 + l.length) (by omega) (by omega)
  rw [show ((9 + l.length : Nat) : Int) = 9 + (l.length : Int) by omega] at hmk
  have hxx : (x.toNat : Int) < 256 := by omega
  have hyy : (y.toNat : Int) < 256 := by omega
  have HLEN := Lib.hid (frB2_length x y st l)
  have HB1 := Lib.hid (Blk.new w 34 #[.int .i64 (x.toNat : Int), .int .i64 (y.toNat : Int), .int .i64 (st : Int), .slice A l.length c])
  have HA := Lib.hid (hA.fresh (Fresh.alloc w (.cells #[.int .i64 (x.toNat : Int), .int .i64 (y.toNat : Int), .int .i64 (st : Int), .slice A l.length c] 34)))
  have hz1 : w.heap.size + 1 = (w.alloc (.cells #[.int .i64 (x.toNat : Int), .int .i64 (y.toNat : Int), .int .i64 (st : Int), .slice A l.length c] 34)).heap.size := by simp
  have HZ1 := Lib.hid hz1
  have HFr := Lib.hid (Fresh.alloc w (.cells #[.int .i64 (x.toNat : Int), .int .i64 (y.toNat : Int), .int .i64 (st : Int), .slice A l.length c] 34))
  clear hR hA hz1
  go_enter Tryz.func10, Tryz.ntmps10
  go_wp2_with fail
  generalize w.alloc (.cells #[.int .i64 (x.toNat : Int), .int .i64 (y.toNat : Int), .int .i64 (st : Int), .slice A l.length c] 34) = W1 at *
  with_reducible refine (HR.out _).mono ?_
  rintro e w2 ⟨rfl, hf2⟩
  obtain ⟨c0, c1, c2, c3⟩ := (HB1.out.fresh hf2).c4
  have HF2 := Lib.hid hf2
  clear hf2
  go_wp2_with fail
  with_reducible refine (HL.out _).mono ?_
  rintro e w3 ⟨rfl, hf3⟩
  have HF3 := Lib.hid (HF2.out.trans hf3)
  obtain ⟨d0, d1, d2, d3⟩ := (HB1.out.fresh HF3.out).c4
  have hz3 := (HB1.out.fresh HF3.out).lt
  have HO3 := Lib.hid ((Own.made w3 5 (.int .u8 0) (9 + l.length) (by unfold maxLen; omega)).base_le (base' := w.heap.size + 1) (by omega))
  have HF3' := Lib.hid (HF3.out.trans (Fresh.alloc w3 (.cells (madeCells #[.int .u8 0] (9 + l.length)) 5)))
  clear hf3 c0 c1 c2 c3
  go_wp2_with fail
  with_reducible refine (obig_at l.length 3 (l.length : Int) 3 _ rfl (by omega) (by omega) (by omega) (by omega)).mono ?_
  rintro e w4 ⟨g4, rfl, _, hb4, hf4⟩
  have HF4 : Hid (Below (w.heap.size + 1) W1 w4) := by have := HF3'.out.trans hf4; rw [HZ1.out]; exact this
  obtain ⟨A5, c5, w5, hap5, ho5, hbl5, _⟩ := Own.moreN (P := Tryz.prog) (X := []) Tryz.underlying28 u8_info 28 (HO3.out.fresh hf4) HF4.out (by rw [HZ1.out]; exact Nat.le_refl _) _ 3 _ 3 3 (bigL_length _ _) (by omega) (BS.row hb4) (Nat.le_refl _) (by omega)
  obtain ⟨c0, c1, c2, c3⟩ := (HB1.out.below hbl5 (by omega)).c4
  have HO5 := Lib.hid ho5
  have HF5 := Lib.hid hbl5
  clear ho5 hbl5 hb4 hf4 d0 d1 d2 d3
  obtain ⟨A6, c6, w6, hap6, ho6, hbl6, _⟩ := Own.moreN (P := Tryz.prog) Tryz.underlying28 u8_info 28 (HO5.out.fresh (Fresh.alloc w5 (.cells #[.int .u8 (x.toNat : Int), .int .u8 (y.toNat : Int)] 5))) (HF5.out.alloc (by have := HF5.out.size; have := HZ1.out; omega) (.cells #[.int .u8 (x.toNat : Int), .int .u8 (y.toNat : Int)] 5)) (by rw [HZ1.out]; exact Nat.le_refl _) (some ⟨w5.heap.size, 0, none⟩) 2 [x, y] 2 5 rfl (by omega) (BS.row (Blk.new w5 5 #[.int .u8 (x.toNat : Int), .int .u8 (y.toNat : Int)])) (Nat.le_refl _) (by omega)
  obtain ⟨d0, d1, d2, d3⟩ := (HB1.out.below hbl6 (by omega)).c4
  have HO6 := Lib.hid ho6
  have HF6 := Lib.hid hbl6
  clear ho6 hbl6
  go_wp2_with (at_builtin; first | with_reducible refine wp_app rfl (.tmp 11) (.tmp 16) _ rfl hap5 rfl rfl rfl ?_ | with_reducible refine wp_app rfl (.tmp 18) (.tmp 25) _ rfl hap6 rfl rfl rfl ?_)
  with_reducible refine (obig_at st 4 (st : Int) 4 _ rfl (by omega) (by omega) (by omega) (by omega)).mono ?_
  rintro e w7 ⟨g7, rfl, _, hb7, hf7⟩
  have HF7 : Hid (Below (w.heap.size + 1) W1 w7) := by have := HF6.out.trans (hf7.mono (by have := HF6.out.size; have := HZ1.out; omega)); exact this
  obtain ⟨A8, c8, w8, hap8, ho8, hbl8, _⟩ := Own.moreN (P := Tryz.prog) Tryz.underlying28 u8_info 28 (HO6.out.fresh hf7) HF7.out (by rw [HZ1.out]; exact Nat.le_refl _) _ 4 _ 4 9 (bigL_length _ _) (by omega) (BS.row hb7) (Nat.le_refl _) (by omega)
  obtain ⟨c0, c1, c2, c3⟩ := (HB1.out.below hbl8 (by omega)).c4
  have HO8 := Lib.hid ho8
  have HF8 := Lib.hid hbl8
  clear ho8 hbl8 hb7 hf7 d0 d1 d2 d3 hap5 hap6
  obtain ⟨A9, c9, w9, hap9, ho9, hbl9, _⟩ := Own.moreN (P := Tryz.prog) Tryz.underlying28 u8_info 28 HO8.out HF8.out (by rw [HZ1.out]; exact Nat.le_refl _) A c l l.length (9 + l.length) rfl (by omega) (HA.out.fresh (by have := HF8.out; rw [HZ1.out] at this; exact this)) hlc (by omega)
  have HO9 := Lib.hid ho9
  have HF9 := Lib.hid hbl9
  clear ho9 hbl9
  go_wp2_with (at_builtin; first | with_reducible refine wp_app rfl (.tmp 27) (.tmp 31) _ rfl hap8 rfl rfl rfl ?_ | with_reducible refine wp_app rfl (.tmp 33) (.tmp 35) _ rfl hap9 rfl rfl rfl ?_)
  go_ret2
  refine BytesPost.mk HLEN.out.symm ?_ ?_
  · have := HO9.out.base_le (base' := w.heap.size) (by omega)
    simpa [frB2] using this
  · exact HFr.out.trans (by have := HF9.out; rw [HZ1.out] at this; exact this)
/-- New bytes, n of them. -/
def BytesN (L : List UInt8) (n : Nat) (w : World) (e : Ending) (w' : World) : Prop :=
  ∃ A c, e = .returned (.tuple #[.slice A n c, .int .i64 0]) ∧ n ≤ c ∧ c ≤ maxLen ∧ Own w' w.heap.size 5 1 (.slice A n c) n (L.map byteV) ∧ Fresh w w'
theorem fbytes_at (ty fl stz : Int) (x y : UInt8) (st : Nat) (A : Option Addr) (n r c : Nat) (l L : List UInt8) (w : World) (hx : ty = (x.toNat : Int)) (hy : fl = (y.toNat : Int)) (hz : stz = (st : Int)) (hn : l.length = n) (hL : frB2 x y st l = L) (hr : L.length = r) (hst : st ≤ 2147483647) (hl : n ≤ 16777215) (hA : BS w A l) (hlc : n ≤ c) :
    Calls Tryz.prog 10 #[.agg #[.int .i64 ty, .int .i64 fl, .int .i64 stz, .slice A n c]] w (BytesN L r w) := by
  subst hx hy hz hn hL hr
  exact fbytes_yes x y st A c l w hst hl hA hlc
def ping : List UInt8 := [49, 50, 51, 52, 53, 54, 55, 56]
def pingB : List UInt8 := [0, 0, 8, 6, 0, 0, 0, 0, 0, 49, 50, 51, 52, 53, 54, 55, 56]
theorem ping_bytes : frB2 6 0 0 ping = pingB := by decide
end Go.Proofs.YtginhebfjbhmnaaGreat

/-
  Contracts of package frame: Parse.
-/
namespace Go.Proofs.YtginhebfjbhmnaaGreat
set_option maxRecDepth 100000
set_option linter.unusedVariables false
open Go.RowKit

/-- The number of the error at the beginning of bytes; 0: none. -/
def parseK (l : List UInt8) (most : Int) : Nat :=
  if l.length < 9 then 16 else if most < (numL (l.take 3) : Int) then 106 else if l.length < 9 + numL (l.take 3) then 16 else 0
theorem parseK_ok {l : List UInt8} {most : Int} (h : parseK l most = 0) : 9 ≤ l.length ∧ (numL (l.take 3) : Int) ≤ most ∧ 9 + numL (l.take 3) ≤ l.length := by
  unfold parseK at h
  split at h
  · omega
  · split at h
    · omega
    · split at h
      · omega
      · omega
theorem numL_take3 (l : List UInt8) : numL (l.take 3) < 16777216 := numL_take_lt l 3 3 (Nat.le_refl _)

/-- While a frame is read: the frame so far in block B, the reader on its head. -/
structure PS (w W : World) (p g : Nat) (full : List UInt8) (o : Nat) (cs : Array Value) : Prop where
  blk : Blk W w.heap.size 34 cs
  rd : Rdr W p g full o
  hp : w.heap.size < p
  hg : w.heap.size < g
  bel : Fresh w W
theorem PS.only {w W W' : World} {p g : Nat} {full : List UInt8} {o o' : Nat} {cs : Array Value} (h : PS w W p g full o cs) (hr : Rdr W' p g full o') (ho : Only (· = p) W W') : PS w W' p g full o' cs :=
  ⟨h.blk.only ho (by have := h.hp; omega), hr, h.hp, h.hg, Below.trans h.bel (Only.below ho h.bel.size (fun k e => by have := h.hp; omega))⟩
theorem PS.set {w W : World} {p g : Nat} {full : List UInt8} {o : Nat} {cs : Array Value} (h : PS w W p g full o cs) (i : Nat) (v : Value) : PS w (W.setCell ⟨w.heap.size, i, none⟩ v) p g full o (cs.setIfInBounds i v) :=
  ⟨h.blk.set i v, h.rd.only (Only.setCell _ _ _) (by have := h.hp; simp; omega) (by have := h.hg; simp; omega), h.hp, h.hg, h.bel.setCell (Nat.le_refl _) _⟩
theorem PS.fresh {w W W' : World} {p g : Nat} {full : List UInt8} {o : Nat} {cs : Array Value} (h : PS w W p g full o cs) (hf : Fresh W W') : PS w W' p g full o cs :=
  ⟨h.blk.fresh hf, h.rd.fresh hf, h.hp, h.hg, h.bel.trans hf⟩

def ParseErr (k : Nat) (w : World) (e : Ending) (w' : World) : Prop :=
  e = .returned (.tuple #[.agg #[.int .i64 0, .int .i64 0, .int .i64 0, .slice none 0 0], .int .i64 0, .int .i64 (k : Int)]) ∧ Fresh w w'

theorem u8_size' : ∀ W : World, (Go.sizeOf 5).run Tryz.prog W = .ok 1 W := fun W => by kernel_rfl

set_option maxRecDepth 100000 in
set_option maxHeartbeats 1600000 in
theorem fparse_err (A : Option Addr) (c : Nat) (l : List UInt8) (most : Int) (w : World) (hl : l.length ≤ c) (hc : c ≤ maxLen) (hA : BS w A l) (k : Nat) (hk : parseK l most = k) (hk0 : k ≠ 0) :
    Calls Tryz.prog 49 #[.slice A l.length c, .int .i64 most] w (ParseErr k w) := by
  unfold maxLen at hc
  unfold parseK at hk
  by_cases h9 : l.length < 9
  · rw [if_pos h9] at hk
    have hk' := Lib.hid hk
    have h9' : (l.length : Int) < 9 := by omega
    clear hk hk0 h9 hA
    go_enter Tryz.func49, Tryz.ntmps49
    go_wp2
    refine bodyPost_ret (v := .tuple #[.agg #[.int .i64 0, .int .i64 0, .int .i64 0, .slice none 0 0], .int .i64 0, .int .i64 16]) (by simp [results, Tryz.results49, go_sem]) rfl ⟨by rw [← hk'.out]; rfl, ?_⟩
    exact (Fresh.alloc _ _)
  · rw [if_neg h9] at hk
    have h9' : ¬ (l.length : Int) < 9 := by omega
    have hN := numL_take3 l
    have h1 := run_cut_to (P := Tryz.prog) Tryz.underlying28 u8_size' A l.length c 9 (by omega)
    rw [show ((9 : Nat) : Int) = 9 by omega] at h1
    have hX : numL ((l.take 9).take 3) = numL (l.take 3) := by rw [List.take_take]; rfl
    have HNW := Lib.hid (fun W (hf : Fresh w W) => onew_at A 9 c (l.take 9) W (by simp; omega) ((hA.fresh hf).take 9) (by omega))
    generalize numL (l.take 3) = N at *
    have HX := Lib.hid hX
    clear hX hA h9
    have hlen : (l.take 9).length = 9 := by simp; omega
    have HLEN := Lib.hid hlen
    clear hlen
    generalize l.take 9 = full at *
    by_cases hm : most < (N : Int)
    · rw [if_pos hm] at hk
      have hk' := Lib.hid hk
      clear hk hk0
      go_enter Tryz.func49, Tryz.ntmps49
      go_wp2_with fail
      with_reducible refine (HNW.out _ (Fresh.alloc _ _)).mono ?_
      rintro e w2 ⟨p, g, rfl, hp, hg, hr2, hf2⟩
      have hps : PS w w2 p g full 0 _ := ⟨(Blk.new w _ _).fresh hf2, hr2, by simp at hp; omega, by simp at hg; omega, hf2.tA⟩
      have HPS := Lib.hid hps
      clear hp hg hr2 hf2 hps
      go_wp2_with fail
      with_reducible refine (onum_at p g full 0 3 N 3 _ (by omega) HPS.out.rd (by have := HLEN.out; omega) (by omega) (by rw [List.drop_zero]; exact HX.out)).mono ?_
      rintro e w3 ⟨rfl, hr3, ho3⟩
      have HPS3 := Lib.hid (HPS.out.only hr3 ho3)
      obtain ⟨c0, c1, c2, c3⟩ := HPS3.out.blk.c4
      obtain ⟨z0, z1, z2, z3⟩ := HPS3.out.blk.z4
      clear hr3 ho3
      go_wp2
      refine bodyPost_ret (v := .tuple #[.agg #[.int .i64 0, .int .i64 0, .int .i64 0, .slice none 0 0], .int .i64 0, .int .i64 106]) (by simp [results, Tryz.results49, go_sem, c0, c1, c2, c3]) rfl ⟨by rw [← hk'.out]; rfl, ?_⟩
      exact ((((HPS3.out.set 0 _).set 1 _).set 2 _).set 3 _).bel
    · rw [if_neg hm] at hk
      by_cases hs : l.length < 9 + N
      · rw [if_pos hs] at hk
        have hs' : (l.length : Int) < 9 + (N : Int) := by omega
        have hk' := Lib.hid hk
        clear hk hk0
        go_enter Tryz.func49, Tryz.ntmps49
        go_wp2_with fail
        with_reducible refine (HNW.out _ (Fresh.alloc _ _)).mono ?_
        rintro e w2 ⟨p, g, rfl, hp, hg, hr2, hf2⟩
        have hps : PS w w2 p g full 0 _ := ⟨(Blk.new w _ _).fresh hf2, hr2, by simp at hp; omega, by simp at hg; omega, hf2.tA⟩
        have HPS := Lib.hid hps
        clear hp hg hr2 hf2 hps
        go_wp2_with fail
        with_reducible refine (onum_at p g full 0 3 N 3 _ (by omega) HPS.out.rd (by have := HLEN.out; omega) (by omega) (by rw [List.drop_zero]; exact HX.out)).mono ?_
        rintro e w3 ⟨rfl, hr3, ho3⟩
        have HPS3 := Lib.hid (HPS.out.only hr3 ho3)
        obtain ⟨c0, c1, c2, c3⟩ := HPS3.out.blk.c4
        obtain ⟨z0, z1, z2, z3⟩ := HPS3.out.blk.z4
        clear hr3 ho3
        go_wp2
        refine bodyPost_ret (v := .tuple #[.agg #[.int .i64 0, .int .i64 0, .int .i64 0, .slice none 0 0], .int .i64 0, .int .i64 16]) (by simp [results, Tryz.results49, go_sem, c0, c1, c2, c3]) rfl ⟨by rw [← hk'.out]; rfl, ?_⟩
        exact ((((HPS3.out.set 0 _).set 1 _).set 2 _).set 3 _).bel
      · rw [if_neg hs] at hk
        exact absurd hk.symm hk0

/-- New bytes: in a block of their own. -/
def Pay (w : World) (base : Nat) (A : Option Addr) (l : List UInt8) : Prop := ∃ g, A = some ⟨g, 0, none⟩ ∧ base ≤ g ∧ Blk w g 5 (bytesA l)
theorem Pay.bs {w : World} {base : Nat} {A : Option Addr} {l : List UInt8} (h : Pay w base A l) : BS w A l := by
  obtain ⟨g, rfl, _, hb⟩ := h
  exact BS.row hb
theorem Pay.at_ {w : World} {base : Nat} {A : Option Addr} {l : List UInt8} (h : Pay w base A l) : ∀ b o, A = some ⟨b, o, none⟩ → base ≤ b := by
  obtain ⟨g, rfl, hg, _⟩ := h
  intro b o e
  simp at e
  omega
theorem Pay.fresh {w w' : World} {base : Nat} {A : Option Addr} {l : List UInt8} (h : Pay w base A l) (hf : Fresh w w') : Pay w' base A l := by
  obtain ⟨g, e, hg, hb⟩ := h
  exact ⟨g, e, hg, hb.fresh hf⟩
theorem Pay.base_le {w : World} {base base' : Nat} {A : Option Addr} {l : List UInt8} (h : Pay w base A l) (hb : base' ≤ base) : Pay w base' A l := by
  obtain ⟨g, e, hg, hb'⟩ := h
  exact ⟨g, e, Nat.le_trans hb hg, hb'⟩
theorem Pay.only {S : Nat → Prop} {w w' : World} {base : Nat} {A : Option Addr} {l : List UInt8} (h : Pay w base A l) (ho : Only S w w') (hs : ∀ g cs, Blk w g 5 cs → ¬ S g) : Pay w' base A l := by
  obtain ⟨g, e, hg, hb⟩ := h
  exact ⟨g, e, hg, hb.only ho (hs g _ hb)⟩
theorem Pay.own {w : World} {base n : Nat} {A : Option Addr} {l : List UInt8} (h : Pay w base A l) (hn : l.length = n) (hm : n ≤ maxLen) : Own w base 5 1 (.slice A n n) n (l.map byteV) := by
  subst hn
  obtain ⟨g, rfl, hg, hb⟩ := h
  exact ⟨by simp, .inr ⟨g, _, _, rfl, hg, hb, Nat.le_refl _, hm, by simp [bytesA_size], by simp only [bytesA, Nat.mul_one]; exact List.take_of_length_le (by simp)⟩⟩
/-- What is read of a whole frame. -/
def ParseOk (x y : UInt8) (st : Nat) (pl : List UInt8) (n u : Nat) (w : World) (e : Ending) (w' : World) : Prop :=
  ∃ A, e = .returned (.tuple #[.agg #[.int .i64 (x.toNat : Int), .int .i64 (y.toNat : Int), .int .i64 (st : Int), .slice A n n], .int .i64 (u : Int), .int .i64 0]) ∧
    BS w' A pl ∧ Pay w' w.heap.size A pl ∧ Fresh w w'

set_option maxRecDepth 100000 in
set_option maxHeartbeats 3200000 in
theorem fparse_ok (A : Option Addr) (c : Nat) (l : List UInt8) (most : Int) (w : World) (hl : l.length ≤ c) (hc : c ≤ maxLen) (hA : BS w A l) (x y : UInt8) (N : Nat) (h9 : 9 ≤ l.length) (hN : numL (l.take 3) = N) (hm : (N : Int) ≤ most) (hs : 9 + N ≤ l.length) (hx : l[3]? = some x) (hy : l[4]? = some y) (S : Nat) (hS : numL ((l.drop 5).take 4) = S) :
    Calls Tryz.prog 49 #[.slice A l.length c, .int .i64 most] w (ParseOk x y (S % 2147483648) ((l.take (9 + N)).drop 9) N (9 + N) w) := by
  unfold maxLen at hc
  have hN3 := numL_take3 l
  have hS4 := numL_take_lt (l.drop 5) 4 4 (Nat.le_refl _)
  rw [hN] at hN3
  rw [hS, show (256 : Nat) ^ 4 = 4294967296 from rfl] at hS4
  have h1 := run_cut_to (P := Tryz.prog) Tryz.underlying28 u8_size' A l.length c 9 (by omega)
  rw [show ((9 : Nat) : Int) = 9 by omega] at h1
  have h2 := run_cut_mid (P := Tryz.prog) Tryz.underlying28 u8_size' A l.length c 9 (9 + N) (by omega) (by omega)
  rw [show ((9 : Nat) : Int) = 9 by omega, show ((9 + N : Nat) : Int) = 9 + (N : Int) by omega, show 9 + N - 9 = N by omega] at h2
  have HNW := Lib.hid (fun W (hf : Fresh w W) => onew_at A 9 c (l.take 9) W (by simp; omega) ((hA.fresh hf).take 9) (by omega))
  have hpl : ((l.take (9 + N)).drop 9).length = N := by simp; omega
  have HNW2 := Lib.hid (fun W (hf : Fresh w W) => onewR (cutA A 9 c) N (c - 9) ((l.take (9 + N)).drop 9) W hpl (((hA.fresh hf).take (9 + N)).cut 9 c (by simp; omega)) (by omega))
  have HPL := Lib.hid hpl
  have hlen : (l.take 9).length = 9 := by simp; omega
  have HLEN := Lib.hid hlen
  have HX : Hid (numL ((l.take 9).take 3) = N) := by show _ = _; rw [List.take_take]; exact hN
  have HS : Hid (numL (((l.take 9).drop 5).take 4) = S) := by show _ = _; rw [← hS, List.drop_take, List.take_take]; rfl
  have HX3 : Hid ((l.take 9)[3]? = some x) := by show _ = _; rw [List.getElem?_take_of_lt (by omega)]; exact hx
  have HY3 : Hid ((l.take 9)[4]? = some y) := by show _ = _; rw [List.getElem?_take_of_lt (by omega)]; exact hy
  have HL31 := Lib.hid (u64_low31 S (by omega))
  have h9' : ¬ (l.length : Int) < 9 := by omega
  have hs' : ¬ (l.length : Int) < 9 + (N : Int) := by omega
  have hSm : S % 2147483648 < 2147483648 := Nat.mod_lt _ (by omega)
  have hx8 := UInt8.toNat_lt x
  have hy8 := UInt8.toNat_lt y
  clear hlen hA hN hS hx hy hpl h9
  generalize l.take 9 = full at *
  generalize (l.take (9 + N)).drop 9 = pl at *
  generalize S % 2147483648 = S31 at *
  go_enter Tryz.func49, Tryz.ntmps49
  go_wp2_with fail
  with_reducible refine (HNW.out _ (Fresh.alloc _ _)).mono ?_
  rintro e w2 ⟨p, g, rfl, hp, hg, hr2, hf2⟩
  have hps : PS w w2 p g full 0 _ := ⟨(Blk.new w _ _).fresh hf2, hr2, by simp at hp; omega, by simp at hg; omega, hf2.tA⟩
  have HPS := Lib.hid hps
  clear hp hg hr2 hf2 hps
  go_wp2_with fail
  with_reducible refine (onum_at p g full 0 3 N 3 _ (by omega) HPS.out.rd (by have := HLEN.out; omega) (by omega) (by rw [List.drop_zero]; exact HX.out)).mono ?_
  rintro e w3 ⟨rfl, hr3, ho3⟩
  have HPS3 := Lib.hid (HPS.out.only hr3 ho3)
  clear hr3 ho3
  go_wp2_with fail
  with_reducible refine (obyte_at p g full (0 + 3) x _ HPS3.out.rd HX3.out).mono ?_
  rintro e w4 ⟨rfl, hr4, ho4⟩
  have HPS4 := Lib.hid (HPS3.out.only hr4 ho4)
  obtain ⟨c0, c1, c2, c3⟩ := HPS4.out.blk.c4
  obtain ⟨z0, z1, z2, z3⟩ := HPS4.out.blk.z4
  clear hr4 ho4
  have HPS4' := Lib.hid (HPS4.out.set 0 (.int .i64 (x.toNat : Int)))
  go_wp2_with fail
  with_reducible refine (obyte_at p g full (0 + 3 + 1) y _ HPS4'.out.rd HY3.out).mono ?_
  rintro e w5 ⟨rfl, hr5, ho5⟩
  have HPS5 := Lib.hid (HPS4'.out.only hr5 ho5)
  clear c0 c1 c2 c3 z0 z1 z2 z3
  obtain ⟨c0, c1, c2, c3⟩ := Blk.c4 (a := .int .i64 (x.toNat : Int)) (b := .int .i64 0) (c := .int .i64 0) (d := .slice none 0 0) HPS5.out.blk
  obtain ⟨z0, z1, z2, z3⟩ := Blk.z4 (a := .int .i64 (x.toNat : Int)) (b := .int .i64 0) (c := .int .i64 0) (d := .slice none 0 0) HPS5.out.blk
  clear hr5 ho5
  have HPS5' := Lib.hid (HPS5.out.set 1 (.int .i64 (y.toNat : Int)))
  go_wp2_with fail
  with_reducible refine (onum_at p g full (0 + 3 + 1 + 1) 4 S 4 _ (by omega) HPS5'.out.rd (by have := HLEN.out; omega) (by omega) HS.out).mono ?_
  rintro e w6 ⟨rfl, hr6, ho6⟩
  have HPS6 := Lib.hid (HPS5'.out.only hr6 ho6)
  clear c0 c1 c2 c3 z0 z1 z2 z3
  obtain ⟨c0, c1, c2, c3⟩ := Blk.c4 (a := .int .i64 (x.toNat : Int)) (b := .int .i64 (y.toNat : Int)) (c := .int .i64 0) (d := .slice none 0 0) HPS6.out.blk
  obtain ⟨z0, z1, z2, z3⟩ := Blk.z4 (a := .int .i64 (x.toNat : Int)) (b := .int .i64 (y.toNat : Int)) (c := .int .i64 0) (d := .slice none 0 0) HPS6.out.blk
  clear hr6 ho6
  have HPS6' := Lib.hid (HPS6.out.set 2 (.int .i64 (S31 : Int)))
  have hL31 := HL31.out
  go_wp2_with fail
  with_reducible refine (HNW2.out _ HPS6'.out.bel).mono ?_
  rintro e w7 ⟨p2, g2, rfl, hp2, hg2, hr7, hf7⟩
  have HPS7 := Lib.hid (HPS6'.out.fresh hf7)
  have hb2 : w.heap.size < p2 ∧ w.heap.size < g2 := by have := HPS6'.out.blk.lt; omega
  clear c0 c1 c2 c3 z0 z1 z2 z3 hp2 hg2 hf7 hL31
  go_wp2_with fail
  with_reducible refine (orest_new p2 g2 pl N _ hr7 HPL.out).mono ?_
  rintro e w8 ⟨rfl, hbk8, _, ho8⟩
  have hbl8 := HPS7.out.blk.only ho8 (by omega)
  have HBL8 := Lib.hid hbl8
  have HF8 : Hid (Fresh w w8) := Below.trans HPS7.out.bel (Only.below ho8 HPS7.out.bel.size (fun k e => by omega))
  obtain ⟨c0, c1, c2, c3⟩ := Blk.c4 (a := .int .i64 (x.toNat : Int)) (b := .int .i64 (y.toNat : Int)) (c := .int .i64 (S31 : Int)) (d := .slice none 0 0) hbl8
  obtain ⟨z0, z1, z2, z3⟩ := Blk.z4 (a := .int .i64 (x.toNat : Int)) (b := .int .i64 (y.toNat : Int)) (c := .int .i64 (S31 : Int)) (d := .slice none 0 0) hbl8
  have HBK8 := Lib.hid hbk8
  clear hbl8 hr7 ho8 hbk8
  go_wp2
  refine bodyPost_ret (v := .tuple #[.agg #[.int .i64 (x.toNat : Int), .int .i64 (y.toNat : Int), .int .i64 (S31 : Int), .slice (some ⟨g2, 0, none⟩) N N], .int .i64 (9 + (N : Int)), .int .i64 0]) (by simp [results, Tryz.results49, go_sem, c0, c1, c2, c3]) rfl ?_
  have HO : Only (· = w.heap.size) w8 (_) := (((((Only.setCell w8 ⟨w.heap.size, 3, none⟩ (.slice (some ⟨g2, 0, none⟩) N N)).trans (Only.setCell _ ⟨w.heap.size, 0, none⟩ (.int .i64 (x.toNat : Int)))).trans (Only.setCell _ ⟨w.heap.size, 1, none⟩ (.int .i64 (y.toNat : Int)))).trans (Only.setCell _ ⟨w.heap.size, 2, none⟩ (.int .i64 (S31 : Int)))).trans (Only.setCell _ ⟨w.heap.size, 3, none⟩ (.slice (some ⟨g2, 0, none⟩) N N)))
  have hB := HBK8.out.only HO (by omega)
  exact ⟨_, rfl, BS.row hB, ⟨g2, rfl, by omega, hB⟩, Below.trans HF8.out (Only.below HO HF8.out.size (fun k e => by omega))⟩
theorem fparse_err_at (A : Option Addr) (n c : Nat) (l : List UInt8) (most : Int) (w : World) (hn : l.length = n) (hl : n ≤ c) (hc : c ≤ maxLen) (hA : BS w A l) (k : Nat) (hk : parseK l most = k) (hk0 : k ≠ 0) :
    Calls Tryz.prog 49 #[.slice A n c, .int .i64 most] w (ParseErr k w) := by
  subst hn
  exact fparse_err A c l most w hl hc hA k hk hk0
/-- A whole frame is told, its numbers in whatever spelling. -/
def ParseZ (ty fl st : Int) (pl : List UInt8) (n : Nat) (u : Int) (w : World) (e : Ending) (w' : World) : Prop :=
  ∃ A, e = .returned (.tuple #[.agg #[.int .i64 ty, .int .i64 fl, .int .i64 st, .slice A n n], .int .i64 u, .int .i64 0]) ∧
    BS w' A pl ∧ Pay w' w.heap.size A pl ∧ Fresh w w'
theorem fparse_at (A : Option Addr) (n c : Nat) (l : List UInt8) (most : Int) (w : World) (hn : l.length = n) (hl : n ≤ c) (hc : c ≤ maxLen) (hA : BS w A l) (x y : UInt8) (N S : Nat) (ty fl st u : Int) (pl : List UInt8) (hk : parseK l most = 0) (hN : numL (l.take 3) = N) (hx : l[3]? = some x) (hy : l[4]? = some y) (hS : numL ((l.drop 5).take 4) % 2147483648 = S) (hp : (l.take (9 + N)).drop 9 = pl)
    (hty : ty = (x.toNat : Int)) (hfl : fl = (y.toNat : Int)) (hst : st = (S : Int)) (hu : u = ((9 + N : Nat) : Int)) :
    Calls Tryz.prog 49 #[.slice A n c, .int .i64 most] w (ParseZ ty fl st pl N u w) := by
  subst hn hS hp hty hfl hst hu
  obtain ⟨h1, h2, h3⟩ := parseK_ok hk
  rw [hN] at h2 h3
  exact fparse_ok A c l most w hl hc hA x y N h1 hN h2 h3 hx hy _ rfl
/-- No frame is told, an error's number in whatever spelling. -/
def ParseNo (k : Int) (w : World) (e : Ending) (w' : World) : Prop :=
  e = .returned (.tuple #[.agg #[.int .i64 0, .int .i64 0, .int .i64 0, .slice none 0 0], .int .i64 0, .int .i64 k]) ∧ Fresh w w'
theorem fparse_no (A : Option Addr) (n c : Nat) (l : List UInt8) (most z : Int) (w : World) (hn : l.length = n) (hl : n ≤ c) (hc : c ≤ maxLen) (hA : BS w A l) (k : Nat) (hk : parseK l most = k) (hk0 : k ≠ 0) (hz : z = (k : Int)) :
    Calls Tryz.prog 49 #[.slice A n c, .int .i64 most] w (ParseNo z w) := by
  subst hn hz
  exact fparse_err A c l most w hl hc hA k hk hk0
theorem frB2_take3 (x y : UInt8) (s : Nat) (l r : List UInt8) : (frB2 x y s l ++ r).take 3 = bigL l.length 3 := by
  have h : (bigL l.length 3).length = 3 := bigL_length _ _
  unfold frB2
  rw [List.append_assoc, List.take_append_of_le_length (by omega), List.take_of_length_le (by omega)]
theorem frB2_drop3 (x y : UInt8) (s : Nat) (l r : List UInt8) : (frB2 x y s l ++ r).drop 3 = [x, y] ++ (bigL s 4 ++ (l ++ r)) := by
  have h : (bigL l.length 3).length = 3 := bigL_length _ _
  unfold frB2
  rw [List.append_assoc, List.drop_append_of_le_length (by omega), List.drop_of_length_le (by omega)]
  simp
theorem frB2_num (x y : UInt8) (s : Nat) (l r : List UInt8) (hl : l.length ≤ 16777215) : numL ((frB2 x y s l ++ r).take 3) = l.length := by
  rw [frB2_take3, numL_bigL]
  exact Nat.mod_eq_of_lt (by omega)
theorem frB2_get3 (x y : UInt8) (s : Nat) (l r : List UInt8) : (frB2 x y s l ++ r)[3]? = some x := by
  have h := congrArg (fun l : List UInt8 => l[0]?) (frB2_drop3 x y s l r)
  simpa using h
theorem frB2_get4 (x y : UInt8) (s : Nat) (l r : List UInt8) : (frB2 x y s l ++ r)[4]? = some y := by
  have h := congrArg (fun l : List UInt8 => l[1]?) (frB2_drop3 x y s l r)
  simpa using h
theorem frB2_drop5 (x y : UInt8) (s : Nat) (l r : List UInt8) : (frB2 x y s l ++ r).drop 5 = bigL s 4 ++ (l ++ r) := by
  have h := congrArg (List.drop 2) (frB2_drop3 x y s l r)
  simpa using h
theorem frB2_stream (x y : UInt8) (s : Nat) (l r : List UInt8) (hs : s ≤ 2147483647) : numL (((frB2 x y s l ++ r).drop 5).take 4) % 2147483648 = s := by
  have h : (bigL s 4).length = 4 := bigL_length _ _
  rw [frB2_drop5, List.take_append_of_le_length (by omega), List.take_of_length_le (by omega), numL_bigL, show (256 : Nat) ^ 4 = 4294967296 from rfl]
  omega
theorem frB2_pl (x y : UInt8) (s : Nat) (l r : List UInt8) : ((frB2 x y s l ++ r).take (9 + l.length)).drop 9 = l := by
  have h : (bigL s 4).length = 4 := bigL_length _ _
  rw [List.drop_take, show 9 + l.length - 9 = l.length by omega]
  have h2 := congrArg (List.drop 4) (frB2_drop5 x y s l r)
  have h3 : (bigL s 4 ++ (l ++ r)).drop 4 = l ++ r := by
    rw [List.drop_append_of_le_length (by omega), List.drop_of_length_le (by omega)]
    rfl
  rw [List.drop_drop, h3] at h2
  rw [h2]
  simp
theorem frB2_parse (x y : UInt8) (s : Nat) (l r : List UInt8) (most : Int) (hl : l.length ≤ 16777215) : parseK (frB2 x y s l ++ r) most = if most < (l.length : Int) then 106 else 0 := by
  have h : (frB2 x y s l ++ r).length = 9 + l.length + r.length := by rw [List.length_append, frB2_length]
  unfold parseK
  rw [frB2_num x y s l r hl, if_neg (by omega)]
  split
  · rfl
  · rw [if_neg (by omega)]
end Go.Proofs.YtginhebfjbhmnaaGreat

