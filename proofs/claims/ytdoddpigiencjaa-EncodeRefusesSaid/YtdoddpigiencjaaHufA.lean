/-
  Package huff: without a coder.
-/
import Derived.Test.YtdoddpigiencjaaHufM2
namespace Go.Proofs.Ytdoddpigiencjaa
set_option linter.unusedVariables false
set_option linter.unusedSimpArgs false
open Go.RowKit
theorem Fresh.onlyB {p : Nat} {w w1 w2 : World} (hf : Fresh w w1) (ho : Only (· = p) w1 w2) (hp : w.heap.size ≤ p) : Fresh w w2 :=
  Only.fresh (S := fun _ => False) ((Only.of_fresh hf).trans' ho (fun i hi e => by omega)) (fun _ _ h => h)
theorem coder_new {w : World} {p : Nat} (h : Blk w p 156 codZ.toArray) : CoderAt w p false := ⟨rfl, by rw [codZ_eq] at h; exact h⟩
def EncF (l : List UInt8) (w : World) (e : Ending) (w' : World) : Prop :=
  ∃ (O : List UInt8) (A : Option Addr) (c : Nat), e = .returned (.slice A O.length c) ∧ IsEnc l O ∧ Own w' w.heap.size 5 1 (.slice A O.length c) O.length (O.map byteV) ∧ Fresh w w'
set_option maxRecDepth 100000 in
set_option maxHeartbeats 1600000 in
theorem huff_encode (A : Option Addr) (c : Nat) (l : List UInt8) (w : World) (hB : BS w A l) (hl : l.length ≤ 100000000) : Calls Try.prog 77 #[.slice A l.length c] w (EncF l w) := by
  have HE := Lib.hid (fun W p (h : CoderAt W p false) (hb : BS W A l) (hA : ∀ b o, A = some ⟨b, o, none⟩ → 0 < l.length → b ≠ p) => hf_encode p false A c l W h hA hb hl)
  have HNW := Lib.hid (hf_new w)
  have H := Lib.hid hB
  have HLT : Hid (∀ b o, A = some ⟨b, o, none⟩ → 0 < l.length → b < w.heap.size) := Lib.hid (fun b o e hn => by
    obtain ⟨b', o', e', hlt, _⟩ := hB hn
    rw [e] at e'
    simp at e'
    omega)
  generalize l.length = n at *
  clear hB
  go_enter Try.func77, Try.ntmps77
  go_wp2_with fail
  with_reducible refine HNW.out.mono ?_
  rintro e w2 ⟨p, rfl, hb2, hp2, hf2⟩
  have HX := Lib.hid (And.intro hb2 (And.intro hp2 hf2))
  clear hb2 hp2 hf2
  go_wp2_with fail
  have hne : ∀ b o, A = some ⟨b, o, none⟩ → 0 < n → b ≠ p := fun b o e hn => by
    have := HLT.out b o e hn
    have := HX.out.2.1
    omega
  have HE2 := Lib.hid (HE.out w2 p (coder_new HX.out.1) (H.out.fresh HX.out.2.2) hne)
  clear hne
  with_reducible refine HE2.out.mono ?_
  rintro e w3 ⟨O, A9, c9, rfl, henc, base, hbase, hown, _, ho3⟩
  have HFIN : Hid (EncF l w (.returned (.slice A9 O.length c9)) w3) := Lib.hid ⟨O, A9, c9, rfl, henc, hown.base_le (Nat.le_trans HX.out.2.2.size hbase), Fresh.onlyB HX.out.2.2 ho3 HX.out.2.1⟩
  clear henc hbase hown ho3
  go_wp2
  go_ret
  exact HFIN.out
def DecF (D : List Bool) (w : World) (e : Ending) (w' : World) : Prop :=
  ∃ (A : Option Addr) (c : Nat), e = .returned (.tuple #[.slice A (decE D).2.length c, .int .i64 ((decE D).1 : Int)]) ∧ Own w' w.heap.size 5 1 (.slice A (decE D).2.length c) (decE D).2.length ((decE D).2.map byteV) ∧ Fresh w w'
set_option maxRecDepth 100000 in
set_option maxHeartbeats 1600000 in
theorem huff_decode (A : Option Addr) (c : Nat) (l : List UInt8) (w : World) (hB : BS w A l) (hl : l.length ≤ 100000000) : Calls Try.prog 83 #[.slice A l.length c] w (DecF (bitsL l) w) := by
  have HE := Lib.hid (fun W p (h : CoderAt W p false) (hb : BS W A l) (hA : ∀ b o, A = some ⟨b, o, none⟩ → 0 < l.length → b ≠ p) => hf_decode p false A c l W h hA hb hl)
  have HNW := Lib.hid (hf_new w)
  have H := Lib.hid hB
  have HLT : Hid (∀ b o, A = some ⟨b, o, none⟩ → 0 < l.length → b < w.heap.size) := Lib.hid (fun b o e hn => by
    obtain ⟨b', o', e', hlt, _⟩ := hB hn
    rw [e] at e'
    simp at e'
    omega)
  generalize l.length = n at *
  clear hB
  go_enter Try.func83, Try.ntmps83
  go_wp2_with fail
  with_reducible refine HNW.out.mono ?_
  rintro e w2 ⟨p, rfl, hb2, hp2, hf2⟩
  have HX := Lib.hid (And.intro hb2 (And.intro hp2 hf2))
  clear hb2 hp2 hf2
  go_wp2_with fail
  have hne : ∀ b o, A = some ⟨b, o, none⟩ → 0 < n → b ≠ p := fun b o e hn => by
    have := HLT.out b o e hn
    have := HX.out.2.1
    omega
  have HE2 := Lib.hid (HE.out w2 p (coder_new HX.out.1) (H.out.fresh HX.out.2.2) hne)
  clear hne
  with_reducible refine HE2.out.mono ?_
  rintro e w3 ⟨A9, c9, base, rfl, hbase, hown, _, ho3⟩
  have HFIN : Hid (DecF (bitsL l) w (.returned (.tuple #[.slice A9 (decE (bitsL l)).2.length c9, .int .i64 ((decE (bitsL l)).1 : Int)])) w3) := Lib.hid ⟨A9, c9, rfl, hown.base_le (Nat.le_trans HX.out.2.2.size hbase), Fresh.onlyB HX.out.2.2 ho3 HX.out.2.1⟩
  clear hbase hown ho3
  generalize decE (bitsL l) = R at *
  go_wp2
  go_ret2
  exact HFIN.out
end Go.Proofs.Ytdoddpigiencjaa

