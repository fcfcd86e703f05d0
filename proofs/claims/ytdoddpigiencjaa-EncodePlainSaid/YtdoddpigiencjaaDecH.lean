/-
  Package decode: Decode.
-/
import Derived.Test.YtdoddpigiencjaaDecG
namespace Go.Proofs.Ytdoddpigiencjaa
set_option maxRecDepth 100000
set_option linter.unusedVariables false
set_option linter.unusedSimpArgs false
open Go.RowKit
theorem de_decode_dead (base d p : Nat) (v : Value) (fs : List FldT) (lim most bound : Int) (A : Option Addr) (n c : Nat) (w : World) (h : DecAt w base d p v fs lim most bound true) :
    Calls Try.prog 16 #[.pointer (some ⟨d, 0, none⟩), .slice A n c] w fun e w' => e = .returned (.tuple #[.slice none 0 0, .int .i64 25]) ∧ w = w' := by
  obtain ⟨c0, c1, c2, c3⟩ := h.blk.c4
  clear h
  go_enter Try.func16, Try.ntmps16
  go_wp2
  go_ret2
  exact ⟨rfl, rfl⟩
theorem BkAt.die {w wr : World} {base d p : Nat} {v v' ov : Value} {fs : List FldT} {lim most bound : Int} {out : List LnD} (h : BkAt w wr base d p v v' ov fs lim most bound false out) : DecAt (wr.setCell ⟨d, 3, none⟩ (.bool true)) base d p v' fs lim most bound true ∧ Only (fun k => k = d ∨ k = p ∨ v.ownBlock = some k) w (wr.setCell ⟨d, 3, none⟩ (.bool true)) := by
  have ho : Only (· = d) wr (wr.setCell ⟨d, 3, none⟩ (.bool true)) := (Only.of_fresh (Fresh.refl _)).step _ _ (.inl rfl)
  refine ⟨⟨h.dec.blk.set 3 _, h.dec.tab.only ho (fun e => h.dp e.symm) h.dv⟩, Only.trans' (Only.trans' (Only.of_fresh (Fresh.refl w)) h.only (fun i _ e => .inr e)) ho (fun i _ e => .inl e)⟩
/-- What Decode does with a decoder that isn't dead. -/
def DecodeP (w : World) (base d p : Nat) (v : Value) (most bound : Int) (R : Nat × List LnD × List FldT × Int) (e : Ending) (W : World) : Prop :=
  (∃ v' A' c', R.1 = 0 ∧ e = .returned (.tuple #[.slice A' R.2.1.length c', .int .i64 0]) ∧ BkAt w W base d p v v' (.slice A' R.2.1.length c') R.2.2.1 R.2.2.2 most bound false R.2.1) ∨
  (∃ v', R.1 ≠ 0 ∧ e = .returned (.tuple #[.slice none 0 0, .int .i64 (R.1 : Int)]) ∧ DecAt W base d p v' R.2.2.1 R.2.2.2 most bound true ∧ (∀ k, v'.ownBlock = some k → v.ownBlock = some k ∨ w.heap.size ≤ k) ∧ (∀ k, v'.ownBlock = some k → k ≠ d) ∧ Only (fun k => k = d ∨ k = p ∨ v.ownBlock = some k) w W)
set_option maxHeartbeats 1600000 in
theorem de_decode (base d p : Nat) (v : Value) (fs : List FldT) (lim most bound : Int) (A : Option Addr) (c : Nat) (l : List UInt8) (w : World) (h : DecAt w base d p v fs lim most bound false) (hbase : base ≤ w.heap.size) (h0 : 0 ≤ lim) (h1 : lim ≤ most) (hmx : most ≤ 65536) (htz : (tz fs : Int) ≤ lim) (hdp : d ≠ p) (hdv : ∀ k, v.ownBlock = some k → k ≠ d) (hb0 : 0 ≤ bound) (hb1 : bound ≤ 16384) (hl : l.length ≤ 100000000) (hlc : l.length ≤ c) (hcm : c ≤ maxLen) (hB : BS w A l) (hNI : NotIn p v A l) :
    Calls Try.prog 16 #[.pointer (some ⟨d, 0, none⟩), .slice A l.length c] w (DecodeP w base d p v most bound (blockR most bound l.length fs lim 0 [] l)) := by
  have HBLK := Lib.hid (de_block base d p v fs lim most bound false A c l w h hbase h0 h1 hmx htz hdp hdv hb0 hb1 hl hlc hcm hB hNI)
  obtain ⟨c0, c1, c2, c3⟩ := h.blk.c4
  obtain ⟨R, hR⟩ : ∃ R, blockR most bound l.length fs lim 0 [] l = R := ⟨_, rfl⟩
  rw [hR] at HBLK ⊢
  clear hR h hB hNI htz h0 h1 hmx hbase hdv hl hlc hcm hb0 hb1 hdp
  obtain ⟨er, out, gs, lm⟩ := R
  by_cases her : er = 0
  · subst her
    have HB2 : Hid (Calls Try.prog 32 #[.pointer (some ⟨d, 0, none⟩), .slice A l.length c] w fun e W => ∃ v' A' c', e = .returned (.tuple #[.slice A' out.length c', .int .i64 0]) ∧ BkAt w W base d p v v' (.slice A' out.length c') gs lm most bound false out) := Lib.hid (HBLK.out.mono (fun e W hh => by
      rcases hh with ⟨v', A', c', _, e1, e2⟩ | ⟨_, _, _, e1, _⟩
      · exact ⟨v', A', c', e1, e2⟩
      · exact absurd rfl e1))
    clear HBLK
    go_enter Try.func16, Try.ntmps16
    go_wp2_with fail
    with_reducible refine HB2.out.mono ?_
    rintro e w1 ⟨v', A', c', rfl, hk⟩
    have HK := Lib.hid hk
    clear hk c0 c1 c2 c3
    go_wp2
    go_ret2
    exact .inl ⟨v', A', c', rfl, rfl, HK.out⟩
  · have HB2 : Hid (Calls Try.prog 32 #[.pointer (some ⟨d, 0, none⟩), .slice A l.length c] w fun e W => ∃ v' ov o2, e = .returned (.tuple #[.slice none 0 0, .int .i64 (er : Int)]) ∧ BkAt w W base d p v v' ov gs lm most bound false o2) := Lib.hid (HBLK.out.mono (fun e W hh => by
      rcases hh with ⟨v', A', c', e0, e1, e2⟩ | ⟨v', ov, o2, _, e1, e2⟩
      · exact absurd e0 her
      · exact ⟨v', ov, o2, e1, e2⟩))
    clear HBLK
    have h0d : ((er : Int) != 0) = true := by simp; omega
    have h0i : ¬ (er : Int) = 0 := by omega
    go_enter Try.func16, Try.ntmps16
    go_wp2_with fail
    with_reducible refine HB2.out.mono ?_
    rintro e w1 ⟨v', ov, o2, rfl, hk⟩
    have HK := Lib.hid hk
    obtain ⟨d0, d1, d2, d3⟩ := hk.dec.blk.c4
    have z3 := hk.dec.blk.frozen 3
    clear hk c0 c1 c2 c3
    go_wp2
    go_ret2
    exact .inr ⟨v', her, rfl, HK.out.die.1, HK.out.grow, HK.out.dv, HK.out.die.2⟩
end Go.Proofs.Ytdoddpigiencjaa

