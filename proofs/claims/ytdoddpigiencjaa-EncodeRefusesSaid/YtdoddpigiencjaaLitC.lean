/-
  Package lit: Encode, Len, Short.
-/
import Derived.Test.YtdoddpigiencjaaLitB
namespace Go.Proofs.Ytdoddpigiencjaa
set_option linter.unusedVariables false
set_option linter.unusedSimpArgs false
open Go.RowKit
def LitP (l : List UInt8) (cd : Bool) (w : World) (e : Ending) (w' : World) : Prop := ∃ (P : List UInt8) (A : Option Addr) (c : Nat), e = .returned (.tuple #[.slice A P.length c, .int .i64 0]) ∧ IsLit l cd P ∧ Own w' w.heap.size 5 1 (.slice A P.length c) P.length (P.map byteV) ∧ Fresh w w'
set_option maxRecDepth 100000 in
set_option maxHeartbeats 1600000 in
theorem lit_encode (A : Option Addr) (c : Nat) (l : List UInt8) (cd : Bool) (w : World) (hl : l.length ≤ 4096) (hB : BS w A l) :
    Calls Try.prog 64 #[.slice A l.length c, .bool cd] w (LitP l cd w) := by
  have HE := Lib.hid (huff_encode A c l w hB (by omega))
  have HL0 : Hid (Calls Try.prog 76 #[.slice A l.length c, .int .i64 0] w (OwnP (encL l.length 7 0 ++ l) w)) := Lib.hid (lit_lay A c 0 l w (by omega) (by omega) hB)
  have hsz := szB_le l
  have HL1 : Hid (∀ (O : List UInt8) (A1 : Option Addr) (c1 : Nat) (W : World), IsEnc l O → BS W A1 O → Calls Try.prog 76 #[.slice A1 O.length c1, .int .i64 1] W (OwnP (encL O.length 7 1 ++ O) W)) := Lib.hid (fun O A1 c1 W h hb => lit_lay A1 c1 1 O W (by omega) (by have := h.len; omega) hb)
  have hl' : ¬ (4096 : Int) < (l.length : Int) := by omega
  have HP0 : Hid (∀ e W, OwnP (encL l.length 7 0 ++ l) w e W → ∃ (P : List UInt8) (A : Option Addr) (c : Nat), e = .returned (.slice A P.length c) ∧ IsLit l false P ∧ Own W w.heap.size 5 1 (.slice A P.length c) P.length (P.map byteV) ∧ Fresh w W) := Lib.hid (fun e W h => by
    obtain ⟨A1, c1, he, ho, hf⟩ := h
    exact ⟨_, A1, c1, he, ⟨l, rfl, rfl⟩, ho, hf⟩)
  clear hB hsz
  generalize l.length = n at *
  cases cd with
  | true =>
    go_enter Try.func64, Try.ntmps64
    go_wp2_with fail
    with_reducible refine HE.out.mono ?_
    rintro e w1 ⟨O, A1, c1, rfl, henc, ho1, hf1⟩
    have HEN := Lib.hid henc
    have HB1 := Lib.hid ho1.bytes.1
    have HF1 := Lib.hid hf1
    clear henc ho1 hf1 HE HL0 HP0
    go_wp2_with fail
    with_reducible refine (HL1.out O A1 c1 w1 HEN.out HB1.out).mono ?_
    rintro e w2 ⟨A2, c2, rfl, ho2, hf2⟩
    have HFIN : Hid (LitP l true w (.returned (.tuple #[.slice A2 (encL O.length 7 1 ++ O).length c2, .int .i64 0])) w2) := Lib.hid ⟨_, A2, c2, rfl, ⟨O, HEN.out, rfl⟩, ho2.base_le HF1.out.size, HF1.out.trans hf2⟩
    clear ho2 hf2
    generalize (encL O.length 7 1 ++ O).length = m at *
    go_wp2
    go_ret2
    exact HFIN.out
  | false =>
    go_enter Try.func64, Try.ntmps64
    go_wp2_with fail
    with_reducible refine HL0.out.mono ?_
    rintro e w2 he
    obtain ⟨P, A2, c2, rfl, hP, ho2, hf2⟩ := HP0.out _ _ he
    have HFIN : Hid (LitP l false w (.returned (.tuple #[.slice A2 P.length c2, .int .i64 0])) w2) := Lib.hid ⟨_, A2, c2, rfl, hP, ho2, hf2⟩
    clear ho2 hf2 hP he HP0 HL0 HE HL1
    generalize P.length = m at *
    go_wp2
    go_ret2
    exact HFIN.out
set_option maxRecDepth 100000 in
set_option maxHeartbeats 1600000 in
theorem lit_encode_no (A : Option Addr) (n c : Nat) (cd : Bool) (w : World) (hl : 4096 < n) (hn : n ≤ 9223372036854775807) :
    Calls Try.prog 64 #[.slice A n c, .bool cd] w fun e w' => e = .returned (.tuple #[.slice none 0 0, .int .i64 11]) ∧ w = w' := by
  have hl' : (4096 : Int) < (n : Int) := by omega
  go_enter Try.func64, Try.ntmps64
  go_wp2
  go_ret2
  exact ⟨rfl, rfl⟩
set_option maxRecDepth 100000 in
set_option maxHeartbeats 1600000 in
theorem lit_len (A : Option Addr) (c : Nat) (l : List UInt8) (cd : Bool) (w : World) (hl : l.length ≤ 4096) (hB : BS w A l) :
    Calls Try.prog 65 #[.slice A l.length c, .bool cd] w fun e w' => e = .returned (.int .i64 (litN l cd : Int)) ∧ Fresh w w' := by
  have HS := Lib.hid (hf_size A c l w hB (by omega))
  have hpn := payN_le l cd
  have hln := (litN_le l cd (by omega)).2
  have HL : Hid (∀ W, Calls Try.prog 79 #[.int .i64 (payN l cd : Int), .int .i64 7] W fun e w' => e = .returned (.int .i64 (encL (payN l cd) 7 0).length) ∧ Fresh W w') := Lib.hid (fun W => len_yes (payN l cd) 7 W (by omega) (by omega) (by omega))
  have hl' : ¬ (4096 : Int) < (l.length : Int) := by omega
  have hsum : (((encL (payN l cd) 7 0).length : Int) + (payN l cd : Int)) = (litN l cd : Int) := by unfold litN; simp
  have HSUM := Lib.hid hsum
  have hwr : IntKind.i64.wrap (((encL (payN l cd) 7 0).length : Int) + (payN l cd : Int)) = ((encL (payN l cd) 7 0).length : Int) + (payN l cd : Int) := IntWalk.i64_in _ (by rw [hsum]; omega)
  have HR : Hid ((if cd then (((szB l + 7) / 8 : Nat) : Int) else (l.length : Int)) = (payN l cd : Int)) := Lib.hid (by cases cd <;> rfl)
  clear hsum hB
  generalize litN l cd = r at *
  generalize (encL (payN l cd) 7 0).length = x at *
  generalize payN l cd = p at *
  generalize (szB l + 7) / 8 = z at *
  generalize l.length = n at *
  cases cd with
  | true =>
    have e : (z : Int) = (p : Int) := HR.out
    have e2 : z = p := by omega
    subst e2
    clear e HR
    go_enter Try.func65, Try.ntmps65
    go_wp2_with first | (go_at_call 78; with_reducible refine HS.out.mono ?_; rintro e w1 ⟨rfl, rfl⟩) | (go_at_call 79; with_reducible refine (HL.out _).mono ?_; rintro e w2 ⟨rfl, hf2⟩)
    go_ret
    exact ⟨ret_int HSUM.out, hf2⟩
  | false =>
    have e : (n : Int) = (p : Int) := HR.out
    have e2 : n = p := by omega
    subst e2
    clear e HR
    go_enter Try.func65, Try.ntmps65
    go_wp2_with (go_at_call 79; with_reducible refine (HL.out _).mono ?_; rintro e w2 ⟨rfl, hf2⟩)
    go_ret
    exact ⟨ret_int HSUM.out, hf2⟩
set_option maxRecDepth 100000 in
theorem lit_len_no (A : Option Addr) (n c : Nat) (cd : Bool) (w : World) (hl : 4096 < n) (hn : n ≤ 9223372036854775807) :
    Calls Try.prog 65 #[.slice A n c, .bool cd] w fun e w' => e = .returned (.int .i64 0) ∧ w = w' := by
  have hl' : (4096 : Int) < (n : Int) := by omega
  go_enter Try.func65, Try.ntmps65
  go_wp2
  go_ret
  exact ⟨rfl, rfl⟩
/-- The shorter bytes of a text. -/
def ShortP (l : List UInt8) (w : World) (e : Ending) (w' : World) : Prop := ∃ (P : List UInt8) (A : Option Addr) (c : Nat), e = .returned (.slice A P.length c) ∧ IsLit l (decide (litN l true < litN l false)) P ∧ Own w' w.heap.size 5 1 (.slice A P.length c) P.length (P.map byteV) ∧ Fresh w w'
set_option maxRecDepth 100000 in
set_option maxHeartbeats 1600000 in
theorem lit_short (A : Option Addr) (c : Nat) (l : List UInt8) (w : World) (hl : l.length ≤ 4096) (hB : BS w A l) :
    Calls Try.prog 44 #[.slice A l.length c] w (ShortP l w) := by
  have HL1 := Lib.hid (lit_len A c l true w hl hB)
  have HL0 : Hid (∀ W, Fresh w W → Calls Try.prog 65 #[.slice A l.length c, .bool false] W fun e w' => e = .returned (.int .i64 (litN l false : Int)) ∧ Fresh W w') := Lib.hid (fun W hf => lit_len A c l false W hl (hB.fresh hf))
  have HE : Hid (∀ W cd, Fresh w W → Calls Try.prog 64 #[.slice A l.length c, .bool cd] W (LitP l cd W)) := Lib.hid (fun W cd hf => lit_encode A c l cd W hl (hB.fresh hf))
  have HFN : Hid (∀ cd, cd = decide (litN l true < litN l false) → ∀ W e W', Fresh w W → LitP l cd W e W' → ∃ (P : List UInt8) (A : Option Addr) (c : Nat), e = .returned (.tuple #[.slice A P.length c, .int .i64 0]) ∧ ShortP l w (.returned (.slice A P.length c)) W') := Lib.hid (fun cd hcd W e W' hf h => by
    subst hcd
    obtain ⟨P, A1, c1, he, hP, ho, hf2⟩ := h
    exact ⟨P, A1, c1, he, P, A1, c1, rfl, hP, ho.base_le hf.size, hf.trans hf2⟩)
  have hd : decide ((litN l true : Int) < (litN l false : Int)) = decide (litN l true < litN l false) := by simp
  generalize litN l true = x at *
  generalize litN l false = y at *
  clear hB
  obtain ⟨b, hb⟩ : ∃ b, decide (x < y) = b := ⟨_, rfl⟩
  rw [hb] at hd
  have HFB := Lib.hid (HFN.out b hb.symm)
  clear HFN
  generalize l.length = n at *
  go_enter Try.func44, Try.ntmps44
  go_wp2_with fail
  with_reducible refine HL1.out.mono ?_
  rintro e w1 ⟨rfl, hf1⟩
  have HF1 := Lib.hid hf1
  clear hf1
  go_wp2_with fail
  with_reducible refine (HL0.out _ HF1.out).mono ?_
  rintro e w2 ⟨rfl, hf2⟩
  have HF2 := Lib.hid (HF1.out.trans hf2)
  clear hf2
  go_wp2_with fail
  with_reducible refine (HE.out _ b HF2.out).mono ?_
  rintro e w3 he
  obtain ⟨P, A1, c1, rfl, hs⟩ := HFB.out _ _ _ HF2.out he
  have HS := Lib.hid hs
  clear hs he HFB HE HL0 HL1
  generalize P.length = m at *
  go_wp2
  go_ret
  exact HS.out
end Go.Proofs.Ytdoddpigiencjaa

