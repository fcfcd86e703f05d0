/-
  Texts laid together: Huf4 Huf5 Huf6 Huf7 Huf8 Huf9 HufA.
-/
import Derived.Test.YtapikjhfgcbifaaGreatDoorHufP1
import Derived.Defers
import Derived.Laws.LoneSync
import Derived.RegionCalls
import Derived.Laws.NewBlocks
import Derived.Laws.BitsAllLaws
/-
  Package huff: sync.Once; the codes are made once.
-/
namespace Go.Proofs.YtapikjhfgcbifaaGreatDoor
set_option linter.unusedVariables false
set_option linter.unusedSimpArgs false
open Go.RowKit
theorem disable (w : World) : (callFunc 137 #[]).run Tryz.prog w = .ok (.value (.tuple #[])) w := run_call_mark0 Tryz.func137 (by kernel_rfl) (by kernel_rfl) (by kernel_rfl) .disable (by kernel_rfl) w
theorem enable (w : World) : (callFunc 139 #[]).run Tryz.prog w = .ok (.value (.tuple #[])) w := run_call_mark0 Tryz.func139 (by kernel_rfl) (by kernel_rfl) (by kernel_rfl) .enable (by kernel_rfl) w
theorem acquire (a : Addr) (w : World) : (callFunc 140 #[.pointer (some a)]).run Tryz.prog w = .ok (.value (.tuple #[])) w := run_call_marked Tryz.func140 (by kernel_rfl) (by kernel_rfl) (by kernel_rfl) .acquire (by kernel_rfl) a w
theorem releaseMerge (a : Addr) (w : World) : (callFunc 142 #[.pointer (some a)]).run Tryz.prog w = .ok (.value (.tuple #[])) w := run_call_marked Tryz.func142 (by kernel_rfl) (by kernel_rfl) (by kernel_rfl) .releaseMerge (by kernel_rfl) a w
theorem store_deferred (a : Addr) (x : Value) (u : FrameMode) (w : World) (hc : w.cell? a = some x) (hz : w.frozen? a = false) :
    CallsD Tryz.prog 132 #[.pointer (some a), .bool true] u w fun e u' w' => u' = u ∧ (e = .returned (.tuple #[]) ∧ w' = w.drew.setCell a (.int .u32 1)) := by
  have hc' : w.drew.cell? a = some x := by go_simp
  have hz' : w.drew.frozen? a = false := by go_simp
  have hst := run_call_store (P := Tryz.prog) Tryz.func135 (by kernel_rfl) (by kernel_rfl) (by kernel_rfl) (by kernel_rfl) (k := .u32) (y := 1) hc' hz'
  go_enter_d Tryz.func132, Tryz.ntmps132
  go_wp2
  go_region_calls
  all_goals (go_end0; exact ⟨rfl, rfl⟩)
set_option maxRecDepth 100000 in
set_option maxHeartbeats 1600000 in
theorem unlock_deferred (a : Addr) (u : FrameMode) (w : World) (hc : w.cell? a = some (.int .i32 1)) (hz : w.frozen? a = false) :
    CallsD Tryz.prog 131 #[.pointer (some a)] u w fun e u' w' => u' = u ∧ (e = .returned (.tuple #[]) ∧ w' = w.setCell a (.int .i32 0)) := by
  have hd := disable
  have he := enable
  have hr := releaseMerge
  have hadd := run_call_add (P := Tryz.prog) Tryz.func143 (by kernel_rfl) (by kernel_rfl) (by kernel_rfl) .i32 (by kernel_rfl) (y := -1) (s := 0) hc hz (by simp [go_sem]; rfl)
  have hcv := run_convert_to_unsafe (P := Tryz.prog) (src := 193) (dst := 197) Tryz.underlying193 Tryz.underlying197 (by kernel_rfl) hc
  go_enter_d Tryz.func131, Tryz.ntmps131
  go_wp2
  go_end0
  all_goals (first | exact ⟨rfl, rfl⟩ | (go_wp2; go_end0; exact ⟨rfl, rfl⟩))
set_option maxRecDepth 100000 in
set_option maxHeartbeats 1600000 in
theorem lock_free (a : Addr) (w : World) (hc : w.cell? a = some (.int .i32 0)) (hz : w.frozen? a = false) :
    Calls Tryz.prog 130 #[.pointer (some a)] w fun e w' => e = .returned (.tuple #[]) ∧ w' = w.setCell a (.int .i32 1) := by
  have hd := disable
  have he := enable
  have ha := acquire
  have hcas := run_call_cas_hit (P := Tryz.prog) Tryz.func138 (by kernel_rfl) (by kernel_rfl) (by kernel_rfl) .i32 (by kernel_rfl) (y := 1) hc hz
  have hc' : (w.setCell a (.int .i32 1)).cell? a = some (.int .i32 1) := World.cell?_setCell_same w a _ hc
  have hcv := run_convert_to_unsafe (P := Tryz.prog) (src := 193) (dst := 197) Tryz.underlying193 Tryz.underlying197 (by kernel_rfl) hc'
  go_enter Tryz.func130, Tryz.ntmps130
  go_wp2
  first | go_end0 | (simp only [Exit.inBlock, Exit.then]; refine bodyPost_ret (results_none rfl _ _ _) rfl ?_) | refine bodyPost_ret (results_none rfl _ _ _) rfl ?_
  all_goals (first | exact ⟨rfl, rfl⟩ | (go_wp2; go_end0; exact ⟨rfl, rfl⟩))
def hdC (d l m : Int) : List Value := [.int .u32 d, .int .i32 l, .int .u32 0, .int .i64 m]
theorem CodAt.h0 {w : World} {p : Nat} {d l m : Int} {c : Cod} (h : CodAt w p (hdC d l m) c) : w.cell? ⟨p, 0, none⟩ = some (.int .u32 d) ∧ w.cell? ⟨p, 1, none⟩ = some (.int .i32 l) ∧ w.cell? ⟨p, 3, none⟩ = some (.int .i64 m) :=
  ⟨(h.cellL 0).trans ((Cod.get_hd h.1 (by omega)).trans rfl), (h.cellL 1).trans ((Cod.get_hd h.1 (by omega)).trans rfl), (h.cellL 3).trans ((Cod.get_hd h.1 (by omega)).trans rfl)⟩
theorem CodAt.set0 {w : World} {p : Nat} {d l m d' : Int} {c : Cod} (h : CodAt w p (hdC d l m) c) : CodAt (w.setCell ⟨p, 0, none⟩ (.int .u32 d')) p (hdC d' l m) c := h.setL _ _ rfl (Cod.set_hd h.1 (by omega) _)
theorem CodAt.set1 {w : World} {p : Nat} {d l m l' : Int} {c : Cod} (h : CodAt w p (hdC d l m) c) : CodAt (w.setCell ⟨p, 1, none⟩ (.int .i32 l')) p (hdC d l' m) c := h.setL _ _ rfl (Cod.set_hd h.1 (by omega) _)
theorem CodAt.set3 {w : World} {p : Nat} {d l m m' : Int} {c : Cod} (h : CodAt w p (hdC d l m) c) : CodAt (w.setCell ⟨p, 3, none⟩ (.int .i64 m')) p (hdC d l m') c := h.setL _ _ rfl (Cod.set_hd h.1 (by omega) _)
def MadeP (p : Nat) (d l : Int) (w : World) (e : Ending) (w' : World) : Prop := e = .returned (.tuple #[]) ∧ CodAt w' p (hdC d l 1) Cod.made ∧ Only (· = p) w w'
set_option maxRecDepth 100000 in
set_option maxHeartbeats 1600000 in
theorem ready_one (p : Nat) (pl : Nat) (d l : Int) (w : World) (hpl : w.cell? ⟨pl, 0, none⟩ = some (.pointer (some ⟨p, 0, none⟩))) (hne : pl ≠ p) (h : CodAt w p (hdC d l 0) Cod.zero) :
    Calls Tryz.prog 123 #[.pointer (some ⟨pl, 0, none⟩)] w (MadeP p d l w) := by
  have HL := Lib.hid (hf_lay p (hdC d l 0) w h)
  have hplt := cell_lt hpl
  have HPL := Lib.hid hpl
  clear h
  go_enter Tryz.func123, Tryz.ntmps123
  go_wp2_with fail
  with_reducible refine HL.out.mono ?_
  rintro e w2 ⟨rfl, hc2, ho2⟩
  have HX := Lib.hid (And.intro hc2 ho2)
  have hp2 : w2.cell? ⟨pl, 0, none⟩ = some (.pointer (some ⟨p, 0, none⟩)) := (ho2.cell hplt hne).trans HPL.out
  have h3 := hc2.h0.2.2
  have z3 := hc2.frozen 3
  have hadd := run_call_add (P := Tryz.prog) Tryz.func128 (by kernel_rfl) (by kernel_rfl) (by kernel_rfl) .i64 (by kernel_rfl) (y := 1) (s := 1) h3 z3 (by simp [go_sem]; rfl)
  clear hc2 ho2 hpl
  go_wp2
  go_end0
  exact ⟨rfl, HX.out.1.set3, HX.out.2.step _ _ (.inl rfl)⟩
end Go.Proofs.YtapikjhfgcbifaaGreatDoor

/-
  Package huff: sync.Once's Do; ready.
-/
namespace Go.Proofs.YtapikjhfgcbifaaGreatDoor
set_option linter.unusedVariables false
set_option linter.unusedSimpArgs false
open Go.RowKit
set_option maxRecDepth 100000 in
set_option maxHeartbeats 1600000 in
theorem slow_any (p pl : Nat) (w : World) (hpl : w.cell? ⟨pl, 0, none⟩ = some (.pointer (some ⟨p, 0, none⟩))) (hne : pl ≠ p) (h : CodAt w p (hdC 0 0 0) Cod.zero) :
    Calls Tryz.prog 127 #[.pointer (some ⟨p, 0, none⟩), .func (.func 123) #[] #[.pointer (some ⟨pl, 0, none⟩)]] w (MadeP p 1 0 w) := by
  have h1 := h.set1 (l' := 1)
  have HO1 : Hid (Only (· = p) w (w.setCell ⟨p, 1, none⟩ (.int .i32 1))) := Lib.hid (Only.setCell w ⟨p, 1, none⟩ _)
  have HPL1 : (w.setCell ⟨p, 1, none⟩ (.int .i32 1)).cell? ⟨pl, 0, none⟩ = some (.pointer (some ⟨p, 0, none⟩)) := (HO1.out.cell (cell_lt hpl) hne).trans hpl
  have HC := Lib.hid (ready_one p pl 0 1 _ HPL1 hne h1)
  have hl := run_call_load (P := Tryz.prog) Tryz.func129 (by kernel_rfl) (by kernel_rfl) (by kernel_rfl) .u32 (by kernel_rfl) (a := ⟨p, 0, none⟩) (x := 0) h1.h0.1
  have hnot : ∀ (x : Bool) (w : World), (Op.unary .not (.bool x)).run Tryz.prog w = .ok (.bool (!x)) w := fun _ _ => rfl
  have HLK := Lib.hid (lock_free ⟨p, 1, none⟩ w h.h0.2.1 (h.frozen 1))
  clear h HPL1 h1 hpl
  go_enter_defers Tryz.func127, Tryz.ntmps127
  go_wp2_with fail
  with_reducible refine HLK.out.mono ?_
  rintro e w' ⟨rfl, rfl⟩
  go_wp2_with (first | (go_at_call 126; go_in))
  with_reducible refine HC.out.mono ?_
  rintro e w2 ⟨rfl, hc2, ho2⟩
  have HX := Lib.hid (And.intro hc2 ho2)
  clear hc2 ho2
  go_wp2_with fail
  refine leaves_cons (f := 132) (args := #[.pointer (some ⟨p, 0, none⟩), .bool true]) (by simp) (by simp [go_sem]) ?_
  refine (store_deferred ⟨p, 0, none⟩ (.int .u32 0) .returning _ HX.out.1.h0.1 (HX.out.1.frozen 0)).mono ?_
  rintro e u' w'' ⟨rfl, rfl, rfl⟩
  have HY : Hid (CodAt (w2.drew.setCell ⟨p, 0, none⟩ (.int .u32 1)) p (hdC 1 1 1) Cod.made ∧ Only (· = p) w (w2.drew.setCell ⟨p, 0, none⟩ (.int .u32 1))) := Lib.hid ⟨(HX.out.1.fresh (Fresh.drew _)).set0, ((HO1.out.trans HX.out.2).drewS).step _ _ (.inl rfl)⟩
  refine leaves_cons (f := 131) (args := #[.pointer (some ⟨p, 1, none⟩)]) (by simp [settle]) (by simp [go_sem]) ?_
  refine (unlock_deferred ⟨p, 1, none⟩ _ _ HY.out.1.h0.2.1 (HY.out.1.frozen 1)).mono ?_
  rintro e u' w'' ⟨rfl, rfl, rfl⟩
  have HFIN : MadeP p 1 0 w (.returned (.tuple #[])) ((w2.drew.setCell ⟨p, 0, none⟩ (.int .u32 1)).setCell ⟨p, 1, none⟩ (.int .i32 0)) := ⟨rfl, HY.out.1.set1, HY.out.2.step _ _ (.inl rfl)⟩
  simp [Leaves, settle, results, Tryz.results127]
  exact HFIN
set_option maxRecDepth 100000 in
set_option maxHeartbeats 1600000 in
theorem do_first (p pl : Nat) (w : World) (hpl : w.cell? ⟨pl, 0, none⟩ = some (.pointer (some ⟨p, 0, none⟩))) (hne : pl ≠ p) (h : CodAt w p (hdC 0 0 0) Cod.zero) :
    Calls Tryz.prog 122 #[.pointer (some ⟨p, 0, none⟩), .func (.func 123) #[] #[.pointer (some ⟨pl, 0, none⟩)]] w (MadeP p 1 0 w) := by
  have HS := Lib.hid (slow_any p pl w hpl hne h)
  have hl := run_call_load (P := Tryz.prog) Tryz.func129 (by kernel_rfl) (by kernel_rfl) (by kernel_rfl) .u32 (by kernel_rfl) (a := ⟨p, 0, none⟩) (x := 0) h.h0.1
  have hnot : ∀ (x : Bool) (w : World), (Op.unary .not (.bool x)).run Tryz.prog w = .ok (.bool (!x)) w := fun _ _ => rfl
  clear h hpl
  go_enter Tryz.func122, Tryz.ntmps122
  go_wp2_with (first | (go_at_call 126; go_in))
  with_reducible refine HS.out.mono ?_
  rintro e w2 ⟨rfl, hc2, ho2⟩
  have HX := Lib.hid (And.intro hc2 ho2)
  clear hc2 ho2
  go_wp2
  go_end0
  exact ⟨rfl, HX.out.1, HX.out.2⟩
set_option maxRecDepth 100000 in
set_option maxHeartbeats 1600000 in
theorem do_done (p : Nat) (fv : Value) (w : World) (h : CodAt w p (hdC 1 0 1) Cod.made) :
    Calls Tryz.prog 122 #[.pointer (some ⟨p, 0, none⟩), fv] w (MadeP p 1 0 w) := by
  have H := Lib.hid h
  have hl := run_call_load (P := Tryz.prog) Tryz.func129 (by kernel_rfl) (by kernel_rfl) (by kernel_rfl) .u32 (by kernel_rfl) (a := ⟨p, 0, none⟩) (x := 1) h.h0.1
  have hnot : ∀ (x : Bool) (w : World), (Op.unary .not (.bool x)).run Tryz.prog w = .ok (.bool (!x)) w := fun _ _ => rfl
  clear h
  go_enter Tryz.func122, Tryz.ntmps122
  go_wp2
  go_end0
  exact ⟨rfl, H.out, Only.refl _ _⟩
/-- A coder: its codes aren't made yet, or are. -/
def CoderAt (w : World) (p : Nat) (r : Bool) : Prop := if r then CodAt w p (hdC 1 0 1) Cod.made else CodAt w p (hdC 0 0 0) Cod.zero
theorem CoderAt.fresh {w w' : World} {p : Nat} {r : Bool} (h : CoderAt w p r) (hf : Fresh w w') : CoderAt w' p r := by
  cases r with
  | true => exact CodAt.fresh h hf
  | false => exact CodAt.fresh h hf
theorem CoderAt.lt {w : World} {p : Nat} {r : Bool} (h : CoderAt w p r) : p < w.heap.size := by
  cases r with
  | true => exact (show CodAt w p (hdC 1 0 1) Cod.made from h).2.lt
  | false => exact (show CodAt w p (hdC 0 0 0) Cod.zero from h).2.lt
def RdyP (p : Nat) (w : World) (e : Ending) (w' : World) : Prop := e = .returned (.pointer (some ⟨p, 4, none⟩)) ∧ CodAt w' p (hdC 1 0 1) Cod.made ∧ Only (· = p) w w'
set_option maxRecDepth 100000 in
set_option maxHeartbeats 1600000 in
theorem hf_ready (p : Nat) (r : Bool) (w : World) (h : CoderAt w p r) : Calls Tryz.prog 119 #[.pointer (some ⟨p, 0, none⟩)] w (RdyP p w) := by
  have HD : Hid (∀ W (pl : Nat), Fresh w W → W.cell? ⟨pl, 0, none⟩ = some (.pointer (some ⟨p, 0, none⟩)) → pl ≠ p → Calls Tryz.prog 122 #[.pointer (some ⟨p, 0, none⟩), .func (.func 123) #[] #[.pointer (some ⟨pl, 0, none⟩)]] W (MadeP p 1 0 W)) := Lib.hid (fun W pl hw hpl hne => by
    cases r with
    | true => exact do_done p _ W (CodAt.fresh h hw)
    | false => exact do_first p pl W hpl hne (CodAt.fresh h hw))
  have hlt := h.lt
  have hmf : ∀ (fn : Fn) (first cap : Array Value) (w : World), (Instr.makeFunc fn first cap).run Tryz.prog w = .ok (.func fn first cap) w := fun _ _ _ _ => rfl
  clear h
  go_enter Tryz.func119, Tryz.ntmps119
  go_upto_region 1 with fail
  obtain ⟨b, hb⟩ : ∃ b, w.heap.size = b := ⟨_, rfl⟩
  rw [hb]
  refine wp_gen (fun W => Fresh w W ∧ W.cell? ⟨b, 0, none⟩ = some (.pointer (some ⟨p, 0, none⟩)) ∧ b < W.heap.size) ⟨Fresh.alloc _ _, by rw [← hb]; exact (Blk.new w _ _).cell 0, by simp [hb]⟩ ?_
  rintro W ⟨hf, hc, hbl⟩
  have HN : Hid (b ≠ p) := Lib.hid (by omega)
  have HF := Lib.hid hf
  have HC := Lib.hid hc
  clear hf hb
  go_wp2_with fail
  with_reducible refine (HD.out W b HF.out HC.out HN.out).mono ?_
  rintro e w2 ⟨rfl, hc2, ho2⟩
  have HX := Lib.hid (And.intro hc2 ho2)
  have hc' : w2.cell? ⟨b, 0, none⟩ = some (.pointer (some ⟨p, 0, none⟩)) := (ho2.cell (p := ⟨b, 0, none⟩) hbl HN.out).trans HC.out
  clear hc2 ho2 hc
  go_wp2
  go_ret
  exact ⟨rfl, HX.out.1, (Only.of_fresh HF.out).trans HX.out.2⟩
end Go.Proofs.YtapikjhfgcbifaaGreatDoor

/-
  Package huff: Code.
-/
namespace Go.Proofs.YtapikjhfgcbifaaGreatDoor
set_option linter.unusedVariables false
set_option linter.unusedSimpArgs false
open Go.RowKit
attribute [local go_sem high] fold_lnA run_index_lnA
theorem u8_infoH : (Tryz.prog.info? 5).map (fun i => (i.zero, i.size, i.bytes)) = some (some (.int .u8 0), 1, 1) := by kernel_rfl
end Go.Proofs.YtapikjhfgcbifaaGreatDoor

/-
  Package huff: Encode.
-/
namespace Go.Proofs.YtapikjhfgcbifaaGreatDoor
set_option linter.unusedVariables false
set_option linter.unusedSimpArgs false
open Go.RowKit
attribute [local go_sem high] fold_lnA run_index_lnA
/-- So far k bytes' codes are told, but for the last W bits. -/
def EncR (w : World) (p : Nat) (l : List UInt8) (k most : Nat) (out bits waiting : Value) (wr : World) : Prop :=
  ∃ (O : List UInt8) (V W : Nat), bits = .int .u64 (V : Int) ∧ V < 2 ^ 64 ∧ waiting = .int .i64 (W : Int) ∧ W < most ∧ Own wr w.heap.size 5 1 out O.length (O.map byteV) ∧ bitsL O ++ bitsOf V W = encB (l.take k) ∧ Fresh w wr
theorem EncR.fresh {w : World} {p : Nat} {l : List UInt8} {k most : Nat} {out bits waiting : Value} {wr wr' : World} (h : EncR w p l k most out bits waiting wr) (hf : Fresh wr wr') : EncR w p l k most out bits waiting wr' := by
  obtain ⟨O, V, W, a, b, c, d, e, f, g⟩ := h
  exact ⟨O, V, W, a, b, c, d, e.fresh hf, f, g.trans hf⟩
theorem or_shift (V W y nu : Nat) (hy : y ≤ 30) (hW : W < 8) (hn : nu < 2 ^ y) :
    ∃ V2 : Nat, bits .or .u64 (IntKind.u64.wrap ((V : Int) * 2 ^ y)) (IntKind.u64.wrap (nu : Int)) = (V2 : Int) ∧ V2 < 2 ^ 64 ∧ bitsOf V2 (W + y) = bitsOf V W ++ bitsOf nu y := by
  have hn64 : nu < 2 ^ 64 := Nat.lt_of_lt_of_le hn (Nat.pow_le_pow_right (by omega) (by omega))
  have ha : V * 2 ^ y % 2 ^ 64 < 2 ^ 64 := Nat.mod_lt _ (by decide)
  refine ⟨(V * 2 ^ y % 2 ^ 64) ||| nu, ?_, Nat.or_lt_two_pow ha hn64, ?_⟩
  · have e1 : IntKind.u64.wrap ((V : Int) * 2 ^ y) = ((V * 2 ^ y % 2 ^ 64 : Nat) : Int) := by
      rw [IntKind.wrap_u64]
      simp
    have e2 : IntKind.u64.wrap (nu : Int) = (nu : Int) := by
      rw [IntKind.wrap_u64]
      have : (2 : Nat) ^ 64 = 18446744073709551616 := by decide
      omega
    rw [e1, e2, bits_or_u64_nat _ _ ha hn64]
  · apply List.ext_getElem
    · simp [bitsOf_length]
    · intro i h1 h2
      rw [bitsOf_length] at h1
      rw [bitsOf_get, Nat.testBit_or, Nat.testBit_mod_two_pow, Nat.testBit_mul_two_pow]
      by_cases h : i < W
      · rw [List.getElem_append_left (by rw [bitsOf_length]; exact h), bitsOf_get]
        have hj : y ≤ W + y - 1 - i := by omega
        have h64 : W + y - 1 - i < 64 := by omega
        have hnu : nu.testBit (W + y - 1 - i) = false := Nat.testBit_lt_two_pow (Nat.lt_of_lt_of_le hn (Nat.pow_le_pow_right (by omega) hj))
        rw [hnu, show W + y - 1 - i - y = W - 1 - i by omega]
        simp [hj, h64]
      · rw [List.getElem_append_right (by rw [bitsOf_length]; omega), bitsOf_get, bitsOf_length]
        have hj : ¬ y ≤ W + y - 1 - i := by omega
        rw [show W + y - 1 - i = y - 1 - (i - W) by omega] at hj ⊢
        simp [hj]
theorem or_ones (V W q : Nat) (hq : W + q = 8) : ∃ c9 : UInt8, bits .or .u8 (IntKind.u8.wrap (IntKind.u64.wrap ((V : Int) * 2 ^ q))) (IntKind.u8.wrap (IntKind.u8.wrap (2 ^ q) - 1)) = (c9.toNat : Int) ∧ bb c9 = bitsOf V W ++ ones q ∨ q = 8 := by
  by_cases h8 : q = 8
  · exact ⟨0, .inr h8⟩
  have hq7 : q ≤ 7 := by omega
  have hp : 2 ^ q ≤ 2 ^ 7 := Nat.pow_le_pow_right (by omega) hq7
  have hp0 : 0 < 2 ^ q := Nat.pow_pos (by omega)
  have ha : V * 2 ^ q % 2 ^ 8 < 2 ^ 8 := Nat.mod_lt _ (by decide)
  have e1 : IntKind.u8.wrap (IntKind.u64.wrap ((V : Int) * 2 ^ q)) = ((V * 2 ^ q % 2 ^ 8 : Nat) : Int) := by
    rw [IntKind.wrap_u64, IntKind.wrap_u8]
    have : ((V : Int) * 2 ^ q) = ((V * 2 ^ q : Nat) : Int) := by simp
    rw [this]
    omega
  have e2 : IntKind.u8.wrap (IntKind.u8.wrap (2 ^ q) - 1) = ((2 ^ q - 1 : Nat) : Int) := by
    have : ((2 : Int) ^ q) = ((2 ^ q : Nat) : Int) := by simp
    rw [this, IntKind.wrap_u8, IntKind.wrap_u8]
    omega
  have hlt : V * 2 ^ q % 2 ^ 8 ||| (2 ^ q - 1) < 2 ^ 8 := Nat.or_lt_two_pow ha (by omega)
  refine ⟨UInt8.ofNat (V * 2 ^ q % 2 ^ 8 ||| (2 ^ q - 1)), .inl ⟨?_, ?_⟩⟩
  · rw [e1, e2, u8_or_nat _ _ (by omega) (by omega)]
    have : (UInt8.ofNat (V * 2 ^ q % 2 ^ 8 ||| (2 ^ q - 1))).toNat = (V * 2 ^ q % 2 ^ 8 ||| (2 ^ q - 1)) := by
      rw [UInt8.toNat_ofNat']
      exact Nat.mod_eq_of_lt hlt
    rw [this]
  · unfold bb
    rw [show (UInt8.ofNat (V * 2 ^ q % 2 ^ 8 ||| (2 ^ q - 1))).toNat = (V * 2 ^ q % 2 ^ 8 ||| (2 ^ q - 1)) by
      rw [UInt8.toNat_ofNat']
      exact Nat.mod_eq_of_lt hlt]
    apply List.ext_getElem
    · simp [bitsOf_length, ones]; omega
    · intro i h1 h2
      rw [bitsOf_length] at h1
      rw [bitsOf_get, Nat.testBit_or, Nat.testBit_mod_two_pow, Nat.testBit_mul_two_pow, Nat.testBit_two_pow_sub_one]
      by_cases h : i < W
      · rw [List.getElem_append_left (by rw [bitsOf_length]; exact h), bitsOf_get]
        have hj : q ≤ 8 - 1 - i := by omega
        have hj2 : ¬ 8 - 1 - i < q := by omega
        have hj3 : 8 - 1 - i < 8 := by omega
        rw [show 8 - 1 - i - q = W - 1 - i by omega]
        simp [hj, hj2, hj3]
      · rw [List.getElem_append_right (by rw [bitsOf_length]; omega)]
        have hj : ¬ q ≤ 8 - 1 - i := by omega
        have hj2 : 8 - 1 - i < q := by omega
        simp [hj, hj2, ones]
theorem emit (V w' : Nat) : bb (UInt8.ofNat (V / 2 ^ w')) ++ bitsOf V w' = bitsOf V (8 + w') := by
  unfold bb
  rw [bitsOf_append, show (UInt8.ofNat (V / 2 ^ w')).toNat = V / 2 ^ w' % 2 ^ 8 by simp, bitsOf_mod _ 8 8 (Nat.le_refl _)]
/-- The text of bytes, told in new memory. -/
def EncP (p : Nat) (l : List UInt8) (w : World) (e : Ending) (w' : World) : Prop :=
  ∃ (O : List UInt8) (A : Option Addr) (c : Nat), e = .returned (.slice A O.length c) ∧ IsEnc l O ∧ ∃ base, w.heap.size ≤ base ∧ Own w' base 5 1 (.slice A O.length c) O.length (O.map byteV) ∧ CodAt w' p (hdC 1 0 1) Cod.made ∧ Only (· = p) w w'
set_option maxRecDepth 100000 in
set_option maxHeartbeats 3200000 in
theorem hf_encode (p : Nat) (r : Bool) (A : Option Addr) (c : Nat) (l : List UInt8) (w : World) (h : CoderAt w p r) (hA : ∀ b o, A = some ⟨b, o, none⟩ → 0 < l.length → b ≠ p) (hB : BS w A l) (hl : l.length ≤ 100000000) :
    Calls Tryz.prog 118 #[.pointer (some ⟨p, 0, none⟩), .slice A l.length c] w (EncP p l w) := by
  have HR := Lib.hid (hf_ready p r w h)
  have H := Lib.hid hB
  have HSZ := Lib.hid (fun W (hb : BS W A l) => hf_size A c l W hb hl)
  obtain ⟨n, hn⟩ : ∃ n, l.length = n := ⟨_, rfl⟩
  have HN := Lib.hid hn
  have HA := Lib.hid hA
  have hsz := szB_le l
  rw [hn] at HSZ hl hsz ⊢
  obtain ⟨N, hN⟩ : ∃ N, (szB l + 7) / 8 = N := ⟨_, rfl⟩
  rw [hN] at HSZ
  have hNl : N ≤ 1000000000 := by omega
  have hmk := run_make0 (P := Tryz.prog) Tryz.underlying23 u8_infoH rfl N (by omega) (by omega)
  clear h hn hA hB
  go_enter Tryz.func118, Tryz.ntmps118
  go_wp2_with fail
  with_reducible refine HR.out.mono ?_
  rintro e w2 ⟨rfl, hc2, ho2⟩
  have HX := Lib.hid (And.intro hc2 ho2)
  have HB2 : Hid (BS w2 A l) := Lib.hid (fun hn => (H.out.only ho2 (fun b o e hb => HA.out b o e hn hb)) hn)
  clear hc2 ho2
  go_wp2_with fail
  with_reducible refine (HSZ.out _ HB2.out).mono ?_
  rintro e w3 ⟨rfl, rfl⟩
  go_upto_region 5 with fail
  refine wp_gen (fun W => EncR w2 p l 0 8 (.slice (some ⟨w2.heap.size, 0, none⟩) 0 N) (.int .u64 0) (.int .i64 0) W) ⟨[], 0, 0, rfl, by decide, rfl, by omega, Own.made w2 5 (.int .u8 0) N (by unfold maxLen; omega), rfl, Fresh.alloc _ _⟩ ?_
  intro W3 hr3
  have HR3 := Lib.hid hr3
  clear hr3 hmk
  go_wp2
  go_loopw [6, 7, 8, 19] (fun out bits waiting i wr => ∃ k : Nat, k ≤ n ∧ i = .int .i64 k ∧ EncR w2 p l k 8 out bits waiting wr) (fun _ _ _ i _ => n - (intOf i).toNat)
  case atStart => exact ⟨0, by omega, rfl, HR3.out⟩
  case round =>
    obtain ⟨k, hk, rfl, O, V, W, rfl, hV, rfl, hW, hown, hbits, hf⟩ := hrel
    by_cases hlt : k < n
    · have hlt' : (k : Int) < (n : Int) := by omega
      have hkl : k < l.length := by rw [HN.out]; exact hlt
      obtain ⟨b, o, rfl, hb, hc⟩ := (HB2.out.fresh hf) (by rw [HN.out]; omega)
      have hck := hc k hkl
      have hx := UInt8.toNat_lt l[k]
      have hx1 : (l[k].toNat : Int) ≤ 256 := by omega
      have hx0 : (0 : Int) ≤ (l[k].toNat : Int) := by omega
      have hx2 : (l[k].toNat : Int) < 257 := by omega
      have hL := lnI_eq (s := l[k].toNat) (by omega)
      have hln := (ln_ok (s := l[k].toNat) (by omega)).2.1
      have hnu := (sym (s := l[k].toNat) (by omega)).2.2.2.2.1
      have y1 : wr.cell? ⟨p, 4 + l[k].toNat, none⟩ = some (.int .u32 (numF l[k].toNat : Int)) := by
        have hcod := HX.out.1.fresh hf
        exact (hcod.cellL _).trans (Cod.get_num hcod.1 (by omega))
      have HTK : Hid (encB (l.take (k + 1)) = encB (l.take k) ++ bitsOf (numF l[k].toNat) (ln l[k].toNat)) := Lib.hid (by
        rw [List.take_succ_eq_append_getElem hkl, encB_append]
        simp [encB, codeB])
      unfold byteV at hck
      generalize l[k] = x at *
      generalize ln x.toNat = y at *
      generalize numF x.toNat = nu at *
      obtain ⟨V2, hV2, hV3, hV4⟩ := or_shift V W y nu hln hW hnu
      have e1 : IntKind.i64.wrap ((W : Int) + (y : Int)) = (W : Int) + (y : Int) := IntWalk.i64_in _ (by omega)
      have HIN : Hid (EncR w2 p l (k + 1) 38 u6 (.int .u64 (V2 : Int)) (.int .i64 ((W : Int) + (y : Int))) wr) := Lib.hid ⟨O, V2, W + y, rfl, hV3, by simp, by omega, hown, by rw [HTK.out, ← hbits, hV4, List.append_assoc], hf⟩
      clear hc hown hbits hf hV3 hV4 hV
      go_upto_region 8 with fail
      go_quiet (fail)
      clear y1 hV2
      have HIN2 := Lib.hid (HIN.out.fresh (Fresh.drewN wr nq))
      clear HIN
      go_wp2
      obtain ⟨w4, hw4⟩ : ∃ w4, wr.drewN nq = w4 := ⟨_, rfl⟩
      rw [hw4] at HIN2 ⊢
      clear hw4
      go_loopw [6, 8] (fun out waiting wv => EncR w2 p l (k + 1) 38 out (.int .u64 (V2 : Int)) waiting wv) (fun _ waiting _ => (intOf waiting).toNat)
      case atStart => exact HIN2.out
      case round =>
        obtain ⟨O, V', W', he, hV, rfl, hW', hown, hbits, hf⟩ := hrel
        simp at he
        obtain rfl : V2 = V' := by omega
        by_cases h8 : 8 ≤ W'
        · obtain ⟨v, rfl⟩ : ∃ v, W' = v + 8 := ⟨W' - 8, by omega⟩
          have h8' : (8 : Int) ≤ ((v + 8 : Nat) : Int) := by omega
          have e2 : IntKind.i64.wrap (((v + 8 : Nat) : Int) - 8) = (v : Int) := by rw [IntKind.wrap_i64]; omega
          have e3 : ((V2 : Int) / 2 ^ v % 256) = ((UInt8.ofNat (V2 / 2 ^ v)).toNat : Int) := by
            simp
          have hOl : O.length * 8 ≤ szB l := by
            have h1 := congrArg List.length hbits
            rw [List.length_append, bitsL_length, bitsOf_length] at h1
            have h2 : (encB (l.take (k + 1))).length ≤ szB l := by
              have := szB_append (l.take (k + 1)) (l.drop (k + 1))
              rw [List.take_append_drop] at this
              have h3 : (encB (l.take (k + 1))).length = szB (l.take (k + 1)) := rfl
              omega
            omega
          obtain ⟨A', cc, rfl, _, _, _⟩ := hown.slice
          obtain ⟨v', w', hap, ho', hb', hne, _⟩ := hown.push (P := Tryz.prog) Tryz.underlying23 u8_infoH rfl (by omega) 23 hf (Nat.le_refl _) #[byteV (UInt8.ofNat (V2 / 2 ^ v))] rfl (by intro u hu; simp at hu; subst hu; rfl) (by unfold maxLen; omega) (by omega)
          have HREL : Hid (EncR w2 p l (k + 1) 38 v' (.int .u64 (V2 : Int)) (.int .i64 (v : Int)) w') := Lib.hid ⟨O ++ [UInt8.ofNat (V2 / 2 ^ v)], V2, v, rfl, hV, rfl, by omega, by simpa using ho', by
            rw [← hbits, bitsL_append, List.append_assoc, show v + 8 = 8 + v by omega, ← emit]
            rfl, hb'⟩
          unfold byteV at hap
          generalize (UInt8.ofNat (V2 / 2 ^ v)).toNat = c2 at *
          clear hown hbits hf ho' hb' hne hOl
          go_upto_region 12 with fail
          go_wp2_with (at_builtin; refine wp_app rfl _ _ _ rfl hap rfl rfl rfl ?_)
          go_roundw
          case rel => exact HREL.out
          case measure => simp [intOf]; omega
        · have h8' : ¬ (8 : Int) ≤ (W' : Int) := by omega
          have HREL : Hid (EncR w2 p l (k + 1) 8 u6 (.int .u64 (V2 : Int)) (.int .i64 (W' : Int)) wr) := Lib.hid ⟨O, V2, W', rfl, hV, rfl, by omega, hown, hbits, hf⟩
          clear hown hbits hf
          go_wp2
          go_roundw
          case rel => exact ⟨k + 1, by omega, by go_num, HREL.out⟩
          case measure => simp [intOf]; omega
    · obtain rfl : k = n := by omega
      rw [List.take_of_length_le (by rw [HN.out]; exact Nat.le_refl _)] at hbits
      by_cases h0 : 0 < W
      · have h0' : (0 : Int) < (W : Int) := by omega
        obtain ⟨q, hq⟩ : ∃ q, W + q = 8 := ⟨8 - W, by omega⟩
        have e1 : IntKind.i64.wrap (8 - (W : Int)) = (q : Int) := by rw [IntKind.wrap_i64]; omega
        have e2 : (8 : Int) - (W : Int) = (q : Int) := by omega
        have i1 : (0 : Int) ≤ (q : Int) := by omega
        obtain ⟨A', cc, rfl, _, _, _⟩ := hown.slice
        obtain ⟨c9, hc9⟩ := or_ones V W q hq
        have hc9 := hc9.resolve_right (by omega)
        obtain ⟨hc9, hb9⟩ := hc9
        have hOl : O.length * 8 ≤ szB l := by
          have h1 := congrArg List.length hbits
          rw [List.length_append, bitsL_length, bitsOf_length] at h1
          have h3 : (encB l).length = szB l := rfl
          omega
        have hbk : Blk ((wr.alloc (.cells #[.int .u8 (c9.toNat : Int)] 5)).drew) wr.heap.size 5 (bytesA [c9]) := (Blk.new wr 5 (bytesA [c9])).drew
        obtain ⟨A9, cc9, w9, hap, ho9, hf9, _⟩ := Own.moreN (P := Tryz.prog) Tryz.underlying23 u8_infoH 23 (hown.fresh ((Fresh.alloc wr (.cells #[.int .u8 (c9.toNat : Int)] 5)).drewS)) (hf.trans ((Fresh.alloc wr (.cells #[.int .u8 (c9.toNat : Int)] 5)).drewS)) (Nat.le_refl _) (some ⟨wr.heap.size, 0, none⟩) 1 [c9] 1 (O.length + 1) rfl rfl (BS.row hbk) (by omega) (by omega)
        have HFIN : Hid (EncP p l w (.returned (.slice A9 (O.length + 1) cc9)) w9) := Lib.hid ⟨O ++ [c9], A9, cc9, by simp, ⟨q, by omega, by
          rw [bitsL_append, ← hbits, List.append_assoc]
          show bitsL O ++ (bb c9 ++ []) = _
          rw [hb9]; simp⟩, w2.heap.size, HX.out.2.size, by simpa using ho9, HX.out.1.fresh hf9, HX.out.2.trans (Only.of_fresh hf9)⟩
        clear hown hbits hf ho9 hf9 hb9 hOl hbk
        go_upto_region 16 with fail
        go_region_law (with_reducible refine step_app rfl (.tmp 56) (.tmp 65) _ rfl hap rfl (by simp [Act.eval, Act.put]) (by simp [Act.eval, Act.put]) ?_)
        all_goals
          clear hc9 hap
          go_wp2
          go_ret
          exact HFIN.out
      · obtain rfl : W = 0 := by omega
        obtain ⟨A', cc, rfl, _, _, _⟩ := hown.slice
        have HFIN : Hid (EncP p l w (.returned (.slice A' O.length cc)) wr) := Lib.hid ⟨O, A', cc, rfl, ⟨0, by omega, by rw [← hbits]; simp [bitsOf, ones]⟩, w2.heap.size, HX.out.2.size, hown, HX.out.1.fresh hf, HX.out.2.trans (Only.of_fresh hf)⟩
        clear hown hbits hf
        rw [show ((0 : Nat) : Int) = 0 from rfl]
        go_wp2
        go_ret
        exact HFIN.out
end Go.Proofs.YtapikjhfgcbifaaGreatDoor

/-
  Package huff: next.
-/
namespace Go.Proofs.YtapikjhfgcbifaaGreatDoor
set_option linter.unusedVariables false
set_option linter.unusedSimpArgs false
open Go.RowKit
theorem bitsL_get (l : List UInt8) (pos : Nat) (h : pos / 8 < l.length) : (bitsL l)[pos]? = some ((l[pos / 8]).toNat.testBit (7 - pos % 8)) := by
  induction l generalizing pos with
  | nil => simp at h
  | cons c r ih =>
    rw [bitsL_cons]
    by_cases h8 : pos < 8
    · have e0 : pos / 8 = 0 := by omega
      rw [List.getElem?_append_left (by rw [bb_length]; exact h8), List.getElem?_eq_getElem (by rw [bb_length]; exact h8)]
      unfold bb
      rw [bitsOf_get]
      simp only [e0, List.getElem_cons_zero]
      congr 2
      omega
    · have e1 : pos / 8 = (pos - 8) / 8 + 1 := by omega
      rw [List.getElem?_append_right (by rw [bb_length]; omega), bb_length, ih (pos - 8) (by simp at h; omega)]
      simp only [e1, List.getElem_cons_succ]
      congr 2
      omega
/-- No symbol of at most m bits stands there. -/
def NoSym (D : List Bool) (m : Nat) : Prop := ∀ s, s < 257 → ln s ≤ m → ¬ codeB s <+: D
theorem NoSym.none {D : List Bool} {m : Nat} (h : NoSym D m) (hm : 30 ≤ m ∨ D.length ≤ m) : nextS D = none := by
  rw [nextS_none]
  intro s hs hp
  refine h s hs ?_ hp
  rcases hm with hm | hm
  · have := (ln_ok hs).2.1; omega
  · have := hp.length_le
    rw [codeB_length] at this
    omega
/-- The code's number after one more bit. -/
theorem sym_iff {D : List Bool} {C m : Nat} (hC : C < 2 ^ m) (hm : m ≤ 30) (hb : bitsOf C m = D.take m) (hl : m ≤ D.length) :
    (∀ i, fstF m + i = C → i < cntF m → nextS D = some (ordF (plcF m + i)) ∧ ln (ordF (plcF m + i)) = m) ∧ ((C < fstF m ∨ cntF m ≤ C - fstF m) → ∀ s, s < 257 → ln s = m → ¬ codeB s <+: D) := by
  refine ⟨fun i he hi => ?_, fun hno s hs hls hp => ?_⟩
  · obtain ⟨h1, h2⟩ := placeP (n := m) (by omega) hi
    have hlt : plcF m + i < 257 := by have := (tab1 (n := m) (by omega)).2.2.2.1; omega
    refine ⟨nextS_some.2 ⟨(ordP hlt).1, ?_⟩, h1⟩
    unfold codeB
    rw [h1, h2, he, hb]
    exact List.take_prefix _ _
  · have he : codeB s = D.take m := by
      have := List.prefix_iff_eq_take.1 hp
      rwa [codeB_length, hls] at this
    rw [← hb] at he
    unfold codeB at he
    rw [hls] at he
    have hsy := sym hs
    rw [hls] at hsy
    have := bitsOf_inj (by exact hsy.2.2.2.2.1) hC he
    have h5 := hsy.1
    have h6 := hsy.2.2.2.2.2
    omega
theorem next_bit (C x y m : Nat) (hC : C < 2 ^ m) (hm : m ≤ 29) (hx : x < 256) (hy : y ≤ 7) :
    ∃ C2 : Nat, bits .or .u32 ((C : Int) * 2 % 4294967296) (bits .and .u8 ((x : Int) / 2 ^ y) 1 % 4294967296) = (C2 : Int) ∧ C2 < 2 ^ (m + 1) ∧ bitsOf C2 (m + 1) = bitsOf C m ++ [x.testBit y] := by
  have hp : 2 ^ m ≤ 2 ^ 29 := Nat.pow_le_pow_right (by omega) hm
  have hd : x / 2 ^ y < 256 := Nat.lt_of_le_of_lt (Nat.div_le_self _ _) hx
  have e1 : bits .and .u8 ((x : Int) / 2 ^ y) 1 = ((x / 2 ^ y % 2 : Nat) : Int) := by
    have : ((x : Int) / 2 ^ y) = ((x / 2 ^ y : Nat) : Int) := by simp
    rw [this, show (1 : Int) = ((1 : Nat) : Int) from rfl, u8_and_nat _ _ hd (by omega), Nat.and_one_is_mod]
  have e2 : (((x / 2 ^ y % 2 : Nat) : Int)) % 4294967296 = ((x / 2 ^ y % 2 : Nat) : Int) := by omega
  have e3 : (C : Int) * 2 % 4294967296 = ((C * 2 : Nat) : Int) := by omega
  have hor : C * 2 ||| x / 2 ^ y % 2 = C * 2 + x / 2 ^ y % 2 := by
    have := Nat.two_pow_add_eq_or_of_lt (i := 1) (b := x / 2 ^ y % 2) (by omega) C
    rw [Nat.pow_one, Nat.mul_comm] at this
    exact this.symm
  refine ⟨C * 2 + x / 2 ^ y % 2, ?_, by rw [Nat.pow_succ]; omega, ?_⟩
  · rw [e1, e2, e3, u32_or_nat _ _ (by omega) (by omega), hor]
  · have := bitsOf_cat C (x / 2 ^ y % 2) m 1 (by omega)
    rw [Nat.pow_one] at this
    rw [this]
    congr 1
    simp [bitsOf, Nat.testBit_eq_decide_div_mod_eq]
def NextP (D : List Bool) (w : World) (e : Ending) (w' : World) : Prop :=
  e = (match nextS D with | some s => .returned (.tuple #[.int .i64 (s : Int), .int .i64 (ln s : Int), .bool true]) | none => .returned (.tuple #[.int .i64 0, .int .i64 0, .bool false])) ∧ Fresh w w'
set_option maxRecDepth 100000 in
set_option maxHeartbeats 3200000 in
theorem hf_next (p : Nat) (hd : List Value) (A : Option Addr) (c at0 : Nat) (l : List UInt8) (w : World) (h : CodAt w p hd Cod.made) (hB : BS w A l) (hl : l.length ≤ 100000000) (hat : at0 ≤ 8 * l.length) :
    Calls Tryz.prog 120 #[.pointer (some ⟨p, 4, none⟩), .slice A l.length c, .int .i64 (at0 : Int)] w (NextP ((bitsL l).drop at0) w) := by
  obtain ⟨D, hD⟩ : ∃ D, (bitsL l).drop at0 = D := ⟨_, rfl⟩
  have HDL : Hid (D.length + at0 = 8 * l.length) := Lib.hid (by rw [← hD, List.length_drop, bitsL_length]; omega)
  have HDG : Hid (∀ m, (hm : (at0 + m) / 8 < l.length) → D[m]? = some ((l[(at0 + m) / 8]).toNat.testBit (7 - (at0 + m) % 8))) := Lib.hid (fun m hm => by
    rw [← hD, List.getElem?_drop, bitsL_get _ _ hm])
  rw [hD]
  have H := Lib.hid hB
  have HC := Lib.hid h
  obtain ⟨n, hn⟩ : ∃ n, l.length = n := ⟨_, rfl⟩
  have HN := Lib.hid hn
  rw [hn] at hl hat ⊢
  have HDL2 : Hid (D.length + at0 = 8 * n) := Lib.hid (by have := HDL.out; omega)
  clear h hB hn hD HDL
  go_enter Tryz.func120, Tryz.ntmps120
  go_wp2
  go_loop [2, 9, 10] (fun a c n' => ∃ m C : Nat, m ≤ 30 ∧ at0 + m ≤ 8 * n ∧ a = .int .i64 ((at0 + m : Nat) : Int) ∧ c = .int .u32 (C : Int) ∧ n' = .int .i64 ((m : Int) + 1) ∧ C < 2 ^ m ∧ bitsOf C m = D.take m ∧ NoSym D m) (fun _ _ n' => 31 - (intOf n').toNat)
  case atStart => exact ⟨0, 0, by omega, by omega, rfl, rfl, rfl, by simp, by simp [bitsOf], fun s hs hl => by have := (ln_ok hs).1; omega⟩
  case round =>
    obtain ⟨m, C, hm, ham, rfl, rfl, rfl, hC, hb, hns⟩ := hrel
    by_cases hend : 30 ≤ m ∨ 8 * n ≤ at0 + m
    · have HFIN : Hid (NextP D w (.returned (.tuple #[.int .i64 0, .int .i64 0, .bool false])) w) := Lib.hid ⟨by rw [hns.none (by have := HDL2.out; omega)], Fresh.refl _⟩
      clear hb hns hC
      have e0 : IntKind.i64.wrap (8 * (n : Int)) = 8 * (n : Int) := IntWalk.i64_in _ (by omega)
      by_cases h30 : 30 ≤ m
      · have h1 : ¬ (m : Int) + 1 ≤ 30 := by omega
        go_wp2
        go_ret3
        exact HFIN.out
      · have h1 : (m : Int) + 1 ≤ 30 := by omega
        have h2 : ¬ ((at0 + m : Nat) : Int) < 8 * (n : Int) := by omega
        go_wp2
        go_ret3
        exact HFIN.out
    · have h1 : (m : Int) + 1 ≤ 30 := by omega
      have h2 : ((at0 + m : Nat) : Int) < 8 * (n : Int) := by omega
      obtain ⟨pos, hpos⟩ : ∃ pos, at0 + m = pos := ⟨_, rfl⟩
      have HPOS := Lib.hid hpos
      rw [hpos] at h2 ham ⊢
      have hdv : pos / 8 < l.length := by rw [HN.out]; omega
      have hdg := HDG.out m (by rw [hpos]; exact hdv)
      simp only [hpos] at hdg
      have e0 : IntKind.i64.wrap (8 * (n : Int)) = 8 * (n : Int) := IntWalk.i64_in _ (by omega)
      obtain ⟨b, o, rfl, hbl, hc⟩ := H.out (by omega)
      have hck := hc (pos / 8) hdv
      have hx := UInt8.toNat_lt l[pos / 8]
      unfold byteV at hck
      generalize l[pos / 8] = x at *
      obtain ⟨C2, hC2, hC3, hC4⟩ := next_bit C x.toNat (7 - pos % 8) m hC (by omega) hx (by omega)
      have HTK : Hid (bitsOf C2 (m + 1) = D.take (m + 1)) := Lib.hid (by
        rw [hC4, hb, List.take_add_one, hdg]
        rfl)
      have e1 : ((7 : Int) - ((pos : Int) % 8)).toNat = 7 - pos % 8 := by omega
      have i1 : (0 : Int) ≤ 7 - ((pos : Int) % 8) := by omega
      have i2 : (0 : Int) ≤ (pos : Int) := by omega
      have i3 : (pos : Int) / 8 < (n : Int) := by omega
      have i4 : ((pos : Int) / 8).toNat = pos / 8 := by omega
      have HNS := Lib.hid hns
      clear hc hb hC4 hns hdg
      obtain ⟨s1, s2⟩ := sym_iff (D := D) hC3 (by omega) HTK.out (by have := HDL2.out; omega)
      have S1 := Lib.hid s1
      have S2 := Lib.hid s2
      have HTAB := Lib.hid (tab1 (n := m + 1) (by omega))
      have y1 : w.cell? ⟨p, 518 + (m + 1), none⟩ = some (.int .u32 (fstF (m + 1) : Int)) := (HC.out.cellL _).trans (Cod.get_fst HC.out.1 (by omega))
      have y2 : w.cell? ⟨p, 580 + (m + 1), none⟩ = some (.int .i64 (cntF (m + 1) : Int)) := (HC.out.cellL _).trans (Cod.get_cnt HC.out.1 (by omega))
      have y3 : w.cell? ⟨p, 549 + (m + 1), none⟩ = some (.int .i64 (plcF (m + 1) : Int)) := (HC.out.cellL _).trans (Cod.get_plc HC.out.1 (by omega))
      have HMATCH : Hid (fstF (m + 1) ≤ C2 ∧ C2 - fstF (m + 1) < cntF (m + 1) → w.cell? ⟨p, 261 + (plcF (m + 1) + (C2 - fstF (m + 1))), none⟩ = some (.int .i64 (ordF (plcF (m + 1) + (C2 - fstF (m + 1))) : Int)) ∧ ∀ w', Fresh w w' → NextP D w (.returned (.tuple #[.int .i64 (ordF (plcF (m + 1) + (C2 - fstF (m + 1))) : Int), .int .i64 ((m : Int) + 1), .bool true])) w') := Lib.hid (fun ⟨h1, h2⟩ => by
        obtain ⟨k1, k2⟩ := S1.out (C2 - fstF (m + 1)) (by omega) h2
        refine ⟨(HC.out.cellL _).trans (Cod.get_ord HC.out.1 (by have := HTAB.out.2.2.2.1; omega)), fun w' hw => ⟨?_, hw⟩⟩
        rw [k1]
        simp only [k2]
        rfl)
      have HNO : Hid ((C2 < fstF (m + 1) ∨ cntF (m + 1) ≤ C2 - fstF (m + 1)) → NoSym D (m + 1)) := Lib.hid (fun h s hs hl => by
        by_cases e : ln s = m + 1
        · exact S2.out h s hs e
        · exact HNS.out s hs (by omega))
      have hf32 := HTAB.out.2.2.1
      have hc257 := HTAB.out.2.1
      have hp257 := HTAB.out.2.2.2.1
      have hC32 : C2 < 4294967296 := Nat.lt_of_lt_of_le hC3 (Nat.le_trans (Nat.pow_le_pow_right (by omega) (show m + 1 ≤ 30 by omega)) (by decide))
      have j1 : (m : Int) + 1 < 31 := by omega
      have j2 : (0 : Int) ≤ (m : Int) + 1 := by omega
      have j3 : ((m : Int) + 1).toNat = m + 1 := by omega
      obtain ⟨f, hf⟩ : ∃ f, fstF (m + 1) = f := ⟨_, rfl⟩
      obtain ⟨g, hg⟩ : ∃ g, cntF (m + 1) = g := ⟨_, rfl⟩
      obtain ⟨P, hP⟩ : ∃ P, plcF (m + 1) = P := ⟨_, rfl⟩
      rw [hf] at y1 HMATCH HNO hf32
      rw [hg] at y2 HMATCH HNO hc257 hp257
      rw [hP] at y3 HMATCH hp257
      have e5 : IntKind.i64.wrap ((C2 : Int) - (f : Int)) = (C2 : Int) - (f : Int) := IntWalk.i64_in _ (by omega)
      clear s1 s2 hf hg hP
      by_cases hm1 : f ≤ C2 ∧ C2 - f < g
      · obtain ⟨I, hI⟩ : ∃ I, f + I = C2 := ⟨C2 - f, by omega⟩
        obtain ⟨HM1, HM2⟩ := HMATCH.out hm1
        have e6 : C2 - f = I := by omega
        rw [e6] at HM1 HM2
        have e7 : (C2 : Int) - (f : Int) = (I : Int) := by omega
        have k1 : (0 : Int) ≤ (I : Int) := by omega
        have k2 : (I : Int) < (g : Int) := by omega
        have k3 : (P : Int) + (I : Int) < 257 := by omega
        have k4 : (0 : Int) ≤ (P : Int) + (I : Int) := by omega
        have k5 : ((P : Int) + (I : Int)).toNat = P + I := by omega
        have k6 : IntKind.i64.wrap ((P : Int) + (I : Int)) = (P : Int) + (I : Int) := IntWalk.i64_in _ (by omega)
        have HM2 := Lib.hid HM2
        generalize ordF (P + I) = sy at *
        clear hm1 hI e6 e5
        go_upto_region 9 with fail
        go_quiet (fail)
        clear y1 y2 y3 HM1 k6 e7
        go_wp2
        go_ret3
        exact HM2.out _ (Fresh.drewN _ _)
      · have HREL := Lib.hid (HNO.out (by omega))
        by_cases hlt : C2 < f
        · have k1 : ¬ (f : Int) ≤ (C2 : Int) := by omega
          have k2 : ¬ (0 : Int) ≤ (C2 : Int) - (f : Int) := by omega
          clear hm1
          go_wp2
          go_round
          case rel => exact ⟨m + 1, C2, by omega, by have := HPOS.out; omega, by have := HPOS.out; rw [show ((at0 + (m + 1) : Nat) : Int) = (pos : Int) + 1 by omega], rfl, by go_num, hC3, HTK.out, HREL.out⟩
          case measure => simp [intOf]; omega
        · obtain ⟨I, hI⟩ : ∃ I, f + I = C2 := ⟨C2 - f, by omega⟩
          have e7 : (C2 : Int) - (f : Int) = (I : Int) := by omega
          have k1 : (0 : Int) ≤ (I : Int) := by omega
          have k2 : ¬ (I : Int) < (g : Int) := by omega
          have k3 : decide (I < g) = false := by simp; omega
          clear hm1 hI hlt e5
          go_wp2
          go_round
          case rel => exact ⟨m + 1, C2, by omega, by have := HPOS.out; omega, by have := HPOS.out; rw [show ((at0 + (m + 1) : Nat) : Int) = (pos : Int) + 1 by omega], rfl, by go_num, hC3, HTK.out, HREL.out⟩
          case measure => simp [intOf]; omega
end Go.Proofs.YtapikjhfgcbifaaGreatDoor

/-
  Package huff: padding; Decode.
-/
namespace Go.Proofs.YtapikjhfgcbifaaGreatDoor
set_option linter.unusedVariables false
set_option linter.unusedSimpArgs false
open Go.RowKit
theorem pad_byte (x r : Nat) (hr : r ≤ 7) : padOk (bitsOf x r) = ((x % 2 ^ r : Nat) == 2 ^ r - 1) := by
  have hp : 0 < 2 ^ r := Nat.pow_pos (by omega)
  have hm : x % 2 ^ r < 2 ^ r := Nat.mod_lt _ hp
  have key : padOk (bitsOf x r) = true ↔ x % 2 ^ r = 2 ^ r - 1 := by
    constructor
    · intro h
      have h1 := (padOk_ones h).1
      rw [bitsOf_length, ← ones_bits, ← bitsOf_mod x r r (Nat.le_refl _)] at h1
      exact bitsOf_inj hm (by omega) h1
    · intro h
      rw [← bitsOf_mod x r r (Nat.le_refl _), h, ones_bits]
      exact ones_pad hr
  cases hb : padOk (bitsOf x r) with
  | true => simp [key.1 hb]
  | false =>
    have : ¬ x % 2 ^ r = 2 ^ r - 1 := fun h => by rw [key.2 h] at hb; cases hb
    simp [this]
theorem padOk_long {D : List Bool} (h : 7 < D.length) : padOk D = false := by
  unfold padOk
  rw [decide_eq_false (by omega)]
  rfl
theorem last_bits (l : List UInt8) (x : UInt8) (r : Nat) (hr : r ≤ 8) : (bitsL (l ++ [x])).drop (8 * (l ++ [x]).length - r) = bitsOf x.toNat r := by
  have e : bb x = bitsOf (x.toNat / 2 ^ r) (8 - r) ++ bitsOf x.toNat r := by
    unfold bb
    rw [← bitsOf_append, show 8 - r + r = 8 by omega]
  rw [bitsL_append, show bitsL [x] = bb x from by simp [bitsL], e, ← List.append_assoc, List.drop_left']
  rw [List.length_append, bitsL_length, bitsOf_length, List.length_append]
  simp
  omega
set_option maxRecDepth 100000 in
set_option maxHeartbeats 1600000 in
theorem hf_padding (A : Option Addr) (c r : Nat) (l : List UInt8) (w : World) (hB : BS w A l) (hl : l.length ≤ 100000000) (hr : r ≤ 8 * l.length) :
    Calls Tryz.prog 121 #[.slice A l.length c, .int .i64 (r : Int)] w fun e w' => e = .returned (.bool (padOk ((bitsL l).drop (8 * l.length - r)))) ∧ w = w' := by
  have hlen : ((bitsL l).drop (8 * l.length - r)).length = r := by rw [List.length_drop, bitsL_length]; omega
  by_cases h0 : r = 0
  · subst h0
    have hp : padOk ((bitsL l).drop (8 * l.length - 0)) = true := by
      rw [show (bitsL l).drop (8 * l.length - 0) = [] from List.length_eq_zero_iff.1 hlen]; rfl
    rw [hp]
    clear hlen hB hp
    generalize l.length = n at *
    rw [show ((0 : Nat) : Int) = 0 from rfl]
    go_enter Tryz.func121, Tryz.ntmps121
    go_wp2
    go_ret
    exact ⟨rfl, rfl⟩
  by_cases h7 : 7 < r
  · have hp : padOk ((bitsL l).drop (8 * l.length - r)) = false := padOk_long (by omega)
    rw [hp]
    have e0 : ((r : Int) == 0) = false := by simp; omega
    have e1 : decide ((r : Int) ≤ 7) = false := by simp; omega
    have e2 : ¬ (r : Int) ≤ 7 := by omega
    have e3 : decide (r ≤ 7) = false := by simp; omega
    clear hlen hB hp
    generalize l.length = n at *
    go_enter Tryz.func121, Tryz.ntmps121
    go_wp2
    go_ret
    exact ⟨rfl, rfl⟩
  · have hlp : 0 < l.length := by omega
    obtain ⟨l', x, rfl⟩ : ∃ l' x, l = l' ++ [x] := ⟨l.dropLast, l.getLast (by intro h; subst h; simp at hlp), (List.dropLast_concat_getLast _).symm⟩
    rw [last_bits l' x r (by omega), pad_byte _ _ (by omega)]
    obtain ⟨b, o, rfl, hbl, hc⟩ := hB hlp
    have hck := hc l'.length (by simp)
    simp at hck
    unfold byteV at hck
    have hx := UInt8.toNat_lt x
    obtain ⟨m, hm⟩ : ∃ m, l'.length = m := ⟨_, rfl⟩
    rw [show (l' ++ [x]).length = m + 1 by simp [hm]] at *
    rw [hm] at hck
    have e0 : ((r : Int) == 0) = false := by simp; omega
    have e1 : (r : Int) ≤ 7 := by omega
    have e2 : (0 : Int) ≤ (r : Int) := by omega
    clear hc hB hlen
    go_enter Tryz.func121, Tryz.ntmps121
    have HE : Hid ((bits BinOp.and IntKind.u8 (x.toNat : Int) ((2 ^ r - 1) % 256) == (2 ^ r - 1) % 256) = ((x.toNat % 2 ^ r : Nat) == 2 ^ r - 1)) := Lib.hid (by
      have hp : 2 ^ r ≤ 2 ^ 7 := Nat.pow_le_pow_right (by omega) (by omega)
      have hp0 : 0 < 2 ^ r := Nat.pow_pos (by omega)
      have h1 : ((2 : Int) ^ r - 1) % 256 = ((2 ^ r - 1 : Nat) : Int) := by
        have : ((2 : Int) ^ r) = ((2 ^ r : Nat) : Int) := by simp
        rw [this]
        omega
      rw [h1, u8_and_nat _ _ hx (by omega), Nat.and_two_pow_sub_one_eq_mod]
      rw [Bool.eq_iff_iff]
      simp only [beq_iff_eq]
      omega)
    go_wp2
    go_ret
    exact ⟨ret_bool HE.out, rfl⟩
/-- What is told of a text: its bytes, or an error. -/
def DecP (D : List Bool) (p : Nat) (w : World) (e : Ending) (w' : World) : Prop :=
  ∃ (A : Option Addr) (c base : Nat), e = .returned (.tuple #[.slice A (decE D).2.length c, .int .i64 ((decE D).1 : Int)]) ∧ w.heap.size ≤ base ∧ Own w' base 5 1 (.slice A (decE D).2.length c) (decE D).2.length ((decE D).2.map byteV) ∧ CodAt w' p (hdC 1 0 1) Cod.made ∧ Only (· = p) w w'
/-- So far bytes O are told, of the first at bits. -/
def DecR (D : List Bool) (at_ : Nat) (O : List UInt8) : Prop := decS D.length D = (decS D.length (D.drop at_)).map fun x => (O ++ x.1, x.2)
theorem DecR.start (D : List Bool) : DecR D 0 [] := by
  unfold DecR
  cases h : decS D.length D with
  | none => simp [h]
  | some x => simp [h]
theorem DecR.step {D : List Bool} {at_ s : Nat} {O : List UInt8} (h : DecR D at_ O) (hs : nextS (D.drop at_) = some s) (h6 : s ≠ 256) : DecR D (at_ + ln s) (O ++ [UInt8.ofNat s]) := by
  unfold DecR at h ⊢
  have hp := (nextS_some.1 hs).2.length_le
  have hl := (ln_ok (nextS_some.1 hs).1).1
  rw [codeB_length, List.length_drop] at hp
  obtain ⟨f, hf⟩ : ∃ f, D.length = f + 1 := ⟨D.length - 1, by omega⟩
  rw [h]
  have e : decS D.length (D.drop at_) = (decS D.length (D.drop (at_ + ln s))).map fun x => (UInt8.ofNat s :: x.1, x.2) := by
    rw [hf]
    conv => lhs; rw [decS]
    rw [hs]
    simp only [if_neg h6, List.drop_drop]
    rw [decS_fuel f (f + 1) (D.drop (at_ + ln s)) (by simp; omega) (by simp; omega)]
  rw [e]
  cases decS D.length (D.drop (at_ + ln s)) with
  | none => rfl
  | some x => simp
theorem DecR.eos {D : List Bool} {at_ : Nat} {O : List UInt8} (h : DecR D at_ O) (hs : nextS (D.drop at_) = some 256) : decE D = (21, []) := by
  unfold DecR at h
  have hp := (nextS_some.1 hs).2.length_le
  have hl := (ln_ok (nextS_some.1 hs).1).1
  rw [codeB_length, List.length_drop] at hp
  obtain ⟨f, hf⟩ : ∃ f, D.length = f + 1 := ⟨D.length - 1, by omega⟩
  unfold decE
  rw [h, hf]
  rw [decS, hs]
  rfl
theorem DecR.fin {D : List Bool} {at_ : Nat} {O : List UInt8} (h : DecR D at_ O) (hs : nextS (D.drop at_) = none) : decE D = if padOk (D.drop at_) then (0, O) else (20, []) := by
  unfold DecR at h
  have e : decS D.length (D.drop at_) = some ([], D.drop at_) := by
    cases D.length with
    | zero => rfl
    | succ f => rw [decS, hs]
  unfold decE
  rw [h, e]
  simp
set_option maxRecDepth 100000 in
set_option maxHeartbeats 3200000 in
theorem hf_decode (p : Nat) (r : Bool) (A : Option Addr) (c : Nat) (l : List UInt8) (w : World) (h : CoderAt w p r) (hA : ∀ b o, A = some ⟨b, o, none⟩ → 0 < l.length → b ≠ p) (hB : BS w A l) (hl : l.length ≤ 100000000) :
    Calls Tryz.prog 116 #[.pointer (some ⟨p, 0, none⟩), .slice A l.length c] w (DecP (bitsL l) p w) := by
  have HR := Lib.hid (hf_ready p r w h)
  have H := Lib.hid hB
  obtain ⟨n, hn⟩ : ∃ n, l.length = n := ⟨_, rfl⟩
  have HN := Lib.hid hn
  have HNX := Lib.hid (fun W at0 (h : CodAt W p (hdC 1 0 1) Cod.made) (hb : BS W A l) (ha : at0 ≤ 8 * n) => hf_next p (hdC 1 0 1) A c at0 l W h hb hl (by rw [hn]; exact ha))
  have HPD := Lib.hid (fun W r (hb : BS W A l) (hr : r ≤ 8 * n) => hf_padding A c r l W hb hl (by rw [hn]; exact hr))
  obtain ⟨D, hD⟩ : ∃ D, bitsL l = D := ⟨_, rfl⟩
  have HDL : Hid (D.length = 8 * n) := Lib.hid (by rw [← hD, bitsL_length, hn])
  have HA := Lib.hid hA
  rw [hn] at HNX HPD hl ⊢
  rw [hD] at HNX HPD ⊢
  clear h hn hA hB hD
  go_enter Tryz.func116, Tryz.ntmps116
  go_wp2_with fail
  with_reducible refine HR.out.mono ?_
  rintro e w2 ⟨rfl, hc2, ho2⟩
  have HX := Lib.hid (And.intro hc2 ho2)
  have HB2 : Hid (BS w2 A l) := Lib.hid (fun hn => (H.out.only ho2 (fun b o e hb => HA.out b o e hn hb)) hn)
  clear hc2 ho2
  go_wp2_with fail
  go_loopw [7, 8] (fun out a wr => ∃ (O : List UInt8) (at_ : Nat), at_ ≤ 8 * n ∧ a = .int .i64 (at_ : Int) ∧ O.length * 5 ≤ at_ ∧ Own wr w2.heap.size 5 1 out O.length (O.map byteV) ∧ DecR D at_ O ∧ Fresh w2 wr) (fun _ a _ => 8 * n - (intOf a).toNat)
  case atStart => exact ⟨[], 0, by omega, rfl, by simp, Own.nil _ _ _ _, DecR.start D, Fresh.refl _⟩
  case round =>
    obtain ⟨O, at_, hat, rfl, hOl, hown, hdr, hf⟩ := hrel
    have HOWN := Lib.hid hown
    have HDR := Lib.hid hdr
    have HF := Lib.hid hf
    obtain ⟨A', cc, rfl, _, _, _⟩ := hown.slice
    clear hown hdr hf
    go_wp2_with fail
    with_reducible refine (HNX.out _ at_ (HX.out.1.fresh HF.out) (HB2.out.fresh HF.out) hat).mono ?_
    rintro e w3 ⟨he, hf3⟩
    have HF3 := Lib.hid (HF.out.trans hf3)
    have HO3 := Lib.hid (HOWN.out.fresh hf3)
    clear hf3
    cases hns : nextS (D.drop at_) with
    | none =>
      rw [hns] at he
      obtain rfl : e = .returned (.tuple #[.int .i64 0, .int .i64 0, .bool false]) := he
      have HFIN := Lib.hid (HDR.out.fin hns)
      have HP := Lib.hid (HPD.out w3 (8 * n - at_) (HB2.out.fresh HF3.out) (by omega))
      rw [show 8 * n - (8 * n - at_) = at_ by omega] at HP
      have e1 : ((8 * n - at_ : Nat) : Int) = 8 * (n : Int) - (at_ : Int) := by omega
      rw [e1] at HP
      have HEND : Hid (∀ (v : Value) (er : Nat) (O' : List UInt8), decE D = (er, O') → Own w3 w2.heap.size 5 1 v O'.length (O'.map byteV) → DecP D p w (.returned (.tuple #[v, .int .i64 (er : Int)])) w3) := Lib.hid (fun v er O' he ho => by
        obtain ⟨A2, c2, rfl, _⟩ := ho.slice
        exact ⟨A2, c2, w2.heap.size, by rw [he], HX.out.2.size, by rw [he]; exact ho, HX.out.1.fresh HF3.out, HX.out.2.trans (Only.of_fresh HF3.out)⟩)
      have i1 : IntKind.i64.wrap (8 * (n : Int)) = 8 * (n : Int) := IntWalk.i64_in _ (by omega)
      have i2 : IntKind.i64.wrap (8 * (n : Int) - (at_ : Int)) = 8 * (n : Int) - (at_ : Int) := IntWalk.i64_in _ (by omega)
      clear hns e1
      go_wp2_with fail
      with_reducible refine HP.out.mono ?_
      rintro e w4 ⟨rfl, rfl⟩
      cases hpo : padOk (D.drop at_) with
      | true =>
        have HFF : Hid (decE D = (0, O)) := Lib.hid (by rw [HFIN.out, hpo]; rfl)
        clear hpo i1 i2
        go_wp2
        go_ret2
        exact HEND.out _ 0 _ HFF.out HO3.out
      | false =>
        have HFF : Hid (decE D = (20, [])) := Lib.hid (by rw [HFIN.out, hpo]; rfl)
        clear hpo i1 i2
        go_wp2
        go_ret2
        exact HEND.out _ 20 _ HFF.out (Own.nil _ _ _ _)
    | some s =>
      rw [hns] at he
      obtain rfl : e = .returned (.tuple #[.int .i64 (s : Int), .int .i64 (ln s : Int), .bool true]) := he
      have HNS := Lib.hid hns
      have hs := (nextS_some.1 hns).1
      have hlb := (ln_ok hs)
      have hpl := (nextS_some.1 hns).2.length_le
      rw [codeB_length, List.length_drop, HDL.out] at hpl
      clear hns
      by_cases h6 : s = 256
      · subst h6
        have HFF : Hid (decE D = (21, [])) := Lib.hid (HDR.out.eos HNS.out)
        have HEND : Hid (DecP D p w (.returned (.tuple #[.slice none 0 0, .int .i64 21])) w3) := Lib.hid ⟨none, 0, w2.heap.size, by rw [HFF.out]; rfl, HX.out.2.size, by rw [HFF.out]; exact Own.nil _ _ _ _, HX.out.1.fresh HF3.out, HX.out.2.trans (Only.of_fresh HF3.out)⟩
        rw [show ((256 : Nat) : Int) = 256 from rfl]
        generalize ln 256 = y at *
        go_wp2
        go_ret2
        exact HEND.out
      · have e0 : ((s : Int) == 256) = false := by simp; omega
        have e1 : IntKind.u8.wrap (s : Int) = ((UInt8.ofNat s).toNat : Int) := by rw [IntKind.wrap_u8]; simp
        have e2 : (s : Int) % 256 = ((UInt8.ofNat s).toNat : Int) := by simp
        have hdr2 := HDR.out.step HNS.out h6
        obtain ⟨y, hy⟩ : ∃ y, ln s = y := ⟨_, rfl⟩
        rw [hy] at hdr2 hpl hlb ⊢
        have e3 : IntKind.i64.wrap ((at_ : Int) + (y : Int)) = (at_ : Int) + (y : Int) := IntWalk.i64_in _ (by omega)
        obtain ⟨v', w', hap, ho', hb', hne, _⟩ := HO3.out.push (P := Tryz.prog) Tryz.underlying23 u8_infoH rfl (by omega) 23 HF3.out (Nat.le_refl _) #[byteV (UInt8.ofNat s)] rfl (by intro u hu; simp at hu; subst hu; rfl) (by unfold maxLen; omega) (by omega)
        have HREL : Hid (at_ + y ≤ 8 * n ∧ (O ++ [UInt8.ofNat s]).length * 5 ≤ at_ + y ∧ Own w' w2.heap.size 5 1 v' (O ++ [UInt8.ofNat s]).length ((O ++ [UInt8.ofNat s]).map byteV) ∧ DecR D (at_ + y) (O ++ [UInt8.ofNat s]) ∧ Fresh w2 w') := Lib.hid ⟨by omega, by simp; omega, by simpa using ho', hdr2, hb'⟩
        have HO := Lib.hid hlb.1
        unfold byteV at hap
        generalize (UInt8.ofNat s).toNat = c2 at *
        clear hdr2 ho' hb' hne hy
        go_wp2_with (at_builtin; refine wp_app rfl _ _ _ rfl hap rfl rfl rfl ?_)
        go_roundw
        case rel => exact ⟨_, at_ + y, HREL.out.1, by go_num, HREL.out.2.1, HREL.out.2.2.1, HREL.out.2.2.2.1, HREL.out.2.2.2.2⟩
        case measure => have := HO.out; simp [intOf]; omega
end Go.Proofs.YtapikjhfgcbifaaGreatDoor

/-
  Package huff: without a coder.
-/
namespace Go.Proofs.YtapikjhfgcbifaaGreatDoor
set_option linter.unusedVariables false
set_option linter.unusedSimpArgs false
open Go.RowKit
theorem Fresh.onlyB {p : Nat} {w w1 w2 : World} (hf : Fresh w w1) (ho : Only (· = p) w1 w2) (hp : w.heap.size ≤ p) : Fresh w w2 :=
  Only.fresh (S := fun _ => False) ((Only.of_fresh hf).trans' ho (fun i hi e => by omega)) (fun _ _ h => h)
theorem coder_new {w : World} {p : Nat} (h : Blk w p 173 codZ.toArray) : CoderAt w p false := ⟨rfl, by rw [codZ_eq] at h; exact h⟩
def EncF (l : List UInt8) (w : World) (e : Ending) (w' : World) : Prop :=
  ∃ (O : List UInt8) (A : Option Addr) (c : Nat), e = .returned (.slice A O.length c) ∧ IsEnc l O ∧ Own w' w.heap.size 5 1 (.slice A O.length c) O.length (O.map byteV) ∧ Fresh w w'
set_option maxRecDepth 100000 in
set_option maxHeartbeats 1600000 in
theorem huff_encode (A : Option Addr) (c : Nat) (l : List UInt8) (w : World) (hB : BS w A l) (hl : l.length ≤ 100000000) : Calls Tryz.prog 112 #[.slice A l.length c] w (EncF l w) := by
  have HE := Lib.hid (fun W p (h : CoderAt W p false) (hb : BS W A l) (hA : ∀ b o, A = some ⟨b, o, none⟩ → 0 < l.length → b ≠ p) => hf_encode p false A c l W h hA hb hl)
  have HNW := Lib.hid (hf_new w)
  have H := Lib.hid hB
  have HLT : Hid (∀ b o, A = some ⟨b, o, none⟩ → 0 < l.length → b < w.heap.size) := Lib.hid (fun b o e hn => by
    obtain ⟨b', o', e', hlt, _⟩ := hB hn
    rw [e] at e'
    simp at e'
    omega)
  generalize l.length = n at *
  clear hB
  go_enter Tryz.func112, Tryz.ntmps112
  go_wp2_with fail
  with_reducible refine HNW.out.mono ?_
  rintro e w2 ⟨p, rfl, hb2, hp2, hf2⟩
  have HX := Lib.hid (And.intro hb2 (And.intro hp2 hf2))
  clear hb2 hp2 hf2
  go_wp2_with fail
  have hne : ∀ b o, A = some ⟨b, o, none⟩ → 0 < n → b ≠ p := fun b o e hn => by
    have := HLT.out b o e hn
    have := HX.out.2.1
    omega
  have HE2 := Lib.hid (HE.out w2 p (coder_new HX.out.1) (H.out.fresh HX.out.2.2) hne)
  clear hne
  with_reducible refine HE2.out.mono ?_
  rintro e w3 ⟨O, A9, c9, rfl, henc, base, hbase, hown, _, ho3⟩
  have HFIN : Hid (EncF l w (.returned (.slice A9 O.length c9)) w3) := Lib.hid ⟨O, A9, c9, rfl, henc, hown.base_le (Nat.le_trans HX.out.2.2.size hbase), Fresh.onlyB HX.out.2.2 ho3 HX.out.2.1⟩
  clear henc hbase hown ho3
  go_wp2
  go_ret
  exact HFIN.out
def DecF (D : List Bool) (w : World) (e : Ending) (w' : World) : Prop :=
  ∃ (A : Option Addr) (c : Nat), e = .returned (.tuple #[.slice A (decE D).2.length c, .int .i64 ((decE D).1 : Int)]) ∧ Own w' w.heap.size 5 1 (.slice A (decE D).2.length c) (decE D).2.length ((decE D).2.map byteV) ∧ Fresh w w'
set_option maxRecDepth 100000 in
set_option maxHeartbeats 1600000 in
theorem huff_decode (A : Option Addr) (c : Nat) (l : List UInt8) (w : World) (hB : BS w A l) (hl : l.length ≤ 100000000) : Calls Tryz.prog 100 #[.slice A l.length c] w (DecF (bitsL l) w) := by
  have HE := Lib.hid (fun W p (h : CoderAt W p false) (hb : BS W A l) (hA : ∀ b o, A = some ⟨b, o, none⟩ → 0 < l.length → b ≠ p) => hf_decode p false A c l W h hA hb hl)
  have HNW := Lib.hid (hf_new w)
  have H := Lib.hid hB
  have HLT : Hid (∀ b o, A = some ⟨b, o, none⟩ → 0 < l.length → b < w.heap.size) := Lib.hid (fun b o e hn => by
    obtain ⟨b', o', e', hlt, _⟩ := hB hn
    rw [e] at e'
    simp at e'
    omega)
  generalize l.length = n at *
  clear hB
  go_enter Tryz.func100, Tryz.ntmps100
  go_wp2_with fail
  with_reducible refine HNW.out.mono ?_
  rintro e w2 ⟨p, rfl, hb2, hp2, hf2⟩
  have HX := Lib.hid (And.intro hb2 (And.intro hp2 hf2))
  clear hb2 hp2 hf2
  go_wp2_with fail
  have hne : ∀ b o, A = some ⟨b, o, none⟩ → 0 < n → b ≠ p := fun b o e hn => by
    have := HLT.out b o e hn
    have := HX.out.2.1
    omega
  have HE2 := Lib.hid (HE.out w2 p (coder_new HX.out.1) (H.out.fresh HX.out.2.2) hne)
  clear hne
  with_reducible refine HE2.out.mono ?_
  rintro e w3 ⟨A9, c9, base, rfl, hbase, hown, _, ho3⟩
  have HFIN : Hid (DecF (bitsL l) w (.returned (.tuple #[.slice A9 (decE (bitsL l)).2.length c9, .int .i64 ((decE (bitsL l)).1 : Int)])) w3) := Lib.hid ⟨A9, c9, rfl, hown.base_le (Nat.le_trans HX.out.2.2.size hbase), Fresh.onlyB HX.out.2.2 ho3 HX.out.2.1⟩
  clear hbase hown ho3
  generalize decE (bitsL l) = R at *
  go_wp2
  go_ret2
  exact HFIN.out
end Go.Proofs.YtapikjhfgcbifaaGreatDoor

