/-
  Package huff: sync.Once's Do; ready.
-/
import Derived.Test.YtkdbndgkgpcmfaaHuf4
namespace Go.Proofs.Ytkdbndgkgpcmfaa
set_option linter.unusedVariables false
set_option linter.unusedSimpArgs false
open Go.RowKit
set_option maxRecDepth 100000 in
set_option maxHeartbeats 1600000 in
theorem slow_any (p pl : Nat) (w : World) (hpl : w.cell? ⟨pl, 0, none⟩ = some (.pointer (some ⟨p, 0, none⟩))) (hne : pl ≠ p) (h : CodAt w p (hdC 0 0 0) Cod.zero) :
    Calls Try.prog 48 #[.pointer (some ⟨p, 0, none⟩), .func (.func 42) #[] #[.pointer (some ⟨pl, 0, none⟩)]] w (MadeP p 1 0 w) := by
  have h1 := h.set1 (l' := 1)
  have HO1 : Hid (Only (· = p) w (w.setCell ⟨p, 1, none⟩ (.int .i32 1))) := Lib.hid (Only.setCell w ⟨p, 1, none⟩ _)
  have HPL1 : (w.setCell ⟨p, 1, none⟩ (.int .i32 1)).cell? ⟨pl, 0, none⟩ = some (.pointer (some ⟨p, 0, none⟩)) := (HO1.out.cell (cell_lt hpl) hne).trans hpl
  have HC := Lib.hid (ready_one p pl 0 1 _ HPL1 hne h1)
  have hl := run_call_load (P := Try.prog) Try.func50 (by kernel_rfl) (by kernel_rfl) (by kernel_rfl) .u32 (by kernel_rfl) (a := ⟨p, 0, none⟩) (x := 0) h1.h0.1
  have hnot : ∀ (x : Bool) (w : World), (Op.unary .not (.bool x)).run Try.prog w = .ok (.bool (!x)) w := fun _ _ => rfl
  have HLK := Lib.hid (lock_free ⟨p, 1, none⟩ w h.h0.2.1 (h.frozen 1))
  clear h HPL1 h1 hpl
  go_enter_defers Try.func48, Try.ntmps48
  go_wp2_with fail
  with_reducible refine HLK.out.mono ?_
  rintro e w' ⟨rfl, rfl⟩
  go_wp2_with (first | (go_at_call 47; go_in))
  with_reducible refine HC.out.mono ?_
  rintro e w2 ⟨rfl, hc2, ho2⟩
  have HX := Lib.hid (And.intro hc2 ho2)
  clear hc2 ho2
  go_wp2_with fail
  refine leaves_cons (f := 53) (args := #[.pointer (some ⟨p, 0, none⟩), .bool true]) (by simp) (by simp [go_sem]) ?_
  refine (store_deferred ⟨p, 0, none⟩ (.int .u32 0) .returning _ HX.out.1.h0.1 (HX.out.1.frozen 0)).mono ?_
  rintro e u' w'' ⟨rfl, rfl, rfl⟩
  have HY : Hid (CodAt (w2.drew.setCell ⟨p, 0, none⟩ (.int .u32 1)) p (hdC 1 1 1) Cod.made ∧ Only (· = p) w (w2.drew.setCell ⟨p, 0, none⟩ (.int .u32 1))) := Lib.hid ⟨(HX.out.1.fresh (Fresh.drew _)).set0, ((HO1.out.trans HX.out.2).drewS).step _ _ (.inl rfl)⟩
  refine leaves_cons (f := 52) (args := #[.pointer (some ⟨p, 1, none⟩)]) (by simp [settle]) (by simp [go_sem]) ?_
  refine (unlock_deferred ⟨p, 1, none⟩ _ _ HY.out.1.h0.2.1 (HY.out.1.frozen 1)).mono ?_
  rintro e u' w'' ⟨rfl, rfl, rfl⟩
  have HFIN : MadeP p 1 0 w (.returned (.tuple #[])) ((w2.drew.setCell ⟨p, 0, none⟩ (.int .u32 1)).setCell ⟨p, 1, none⟩ (.int .i32 0)) := ⟨rfl, HY.out.1.set1, HY.out.2.step _ _ (.inl rfl)⟩
  simp [Leaves, settle, results, Try.results48]
  exact HFIN
set_option maxRecDepth 100000 in
set_option maxHeartbeats 1600000 in
theorem do_first (p pl : Nat) (w : World) (hpl : w.cell? ⟨pl, 0, none⟩ = some (.pointer (some ⟨p, 0, none⟩))) (hne : pl ≠ p) (h : CodAt w p (hdC 0 0 0) Cod.zero) :
    Calls Try.prog 41 #[.pointer (some ⟨p, 0, none⟩), .func (.func 42) #[] #[.pointer (some ⟨pl, 0, none⟩)]] w (MadeP p 1 0 w) := by
  have HS := Lib.hid (slow_any p pl w hpl hne h)
  have hl := run_call_load (P := Try.prog) Try.func50 (by kernel_rfl) (by kernel_rfl) (by kernel_rfl) .u32 (by kernel_rfl) (a := ⟨p, 0, none⟩) (x := 0) h.h0.1
  have hnot : ∀ (x : Bool) (w : World), (Op.unary .not (.bool x)).run Try.prog w = .ok (.bool (!x)) w := fun _ _ => rfl
  clear h hpl
  go_enter Try.func41, Try.ntmps41
  go_wp2_with (first | (go_at_call 47; go_in))
  with_reducible refine HS.out.mono ?_
  rintro e w2 ⟨rfl, hc2, ho2⟩
  have HX := Lib.hid (And.intro hc2 ho2)
  clear hc2 ho2
  go_wp2
  go_end0
  exact ⟨rfl, HX.out.1, HX.out.2⟩
set_option maxRecDepth 100000 in
set_option maxHeartbeats 1600000 in
theorem do_done (p : Nat) (fv : Value) (w : World) (h : CodAt w p (hdC 1 0 1) Cod.made) :
    Calls Try.prog 41 #[.pointer (some ⟨p, 0, none⟩), fv] w (MadeP p 1 0 w) := by
  have H := Lib.hid h
  have hl := run_call_load (P := Try.prog) Try.func50 (by kernel_rfl) (by kernel_rfl) (by kernel_rfl) .u32 (by kernel_rfl) (a := ⟨p, 0, none⟩) (x := 1) h.h0.1
  have hnot : ∀ (x : Bool) (w : World), (Op.unary .not (.bool x)).run Try.prog w = .ok (.bool (!x)) w := fun _ _ => rfl
  clear h
  go_enter Try.func41, Try.ntmps41
  go_wp2
  go_end0
  exact ⟨rfl, H.out, Only.refl _ _⟩
/-- A coder: its codes aren't made yet, or are. -/
def CoderAt (w : World) (p : Nat) (r : Bool) : Prop := if r then CodAt w p (hdC 1 0 1) Cod.made else CodAt w p (hdC 0 0 0) Cod.zero
theorem CoderAt.fresh {w w' : World} {p : Nat} {r : Bool} (h : CoderAt w p r) (hf : Fresh w w') : CoderAt w' p r := by
  cases r with
  | true => exact CodAt.fresh h hf
  | false => exact CodAt.fresh h hf
theorem CoderAt.lt {w : World} {p : Nat} {r : Bool} (h : CoderAt w p r) : p < w.heap.size := by
  cases r with
  | true => exact (show CodAt w p (hdC 1 0 1) Cod.made from h).2.lt
  | false => exact (show CodAt w p (hdC 0 0 0) Cod.zero from h).2.lt
def RdyP (p : Nat) (w : World) (e : Ending) (w' : World) : Prop := e = .returned (.pointer (some ⟨p, 4, none⟩)) ∧ CodAt w' p (hdC 1 0 1) Cod.made ∧ Only (· = p) w w'
set_option maxRecDepth 100000 in
set_option maxHeartbeats 1600000 in
theorem hf_ready (p : Nat) (r : Bool) (w : World) (h : CoderAt w p r) : Calls Try.prog 37 #[.pointer (some ⟨p, 0, none⟩)] w (RdyP p w) := by
  have HD : Hid (∀ W (pl : Nat), Fresh w W → W.cell? ⟨pl, 0, none⟩ = some (.pointer (some ⟨p, 0, none⟩)) → pl ≠ p → Calls Try.prog 41 #[.pointer (some ⟨p, 0, none⟩), .func (.func 42) #[] #[.pointer (some ⟨pl, 0, none⟩)]] W (MadeP p 1 0 W)) := Lib.hid (fun W pl hw hpl hne => by
    cases r with
    | true => exact do_done p _ W (CodAt.fresh h hw)
    | false => exact do_first p pl W hpl hne (CodAt.fresh h hw))
  have hlt := h.lt
  have hmf : ∀ (fn : Fn) (first cap : Array Value) (w : World), (Instr.makeFunc fn first cap).run Try.prog w = .ok (.func fn first cap) w := fun _ _ _ _ => rfl
  clear h
  go_enter Try.func37, Try.ntmps37
  go_upto_region 1 with fail
  obtain ⟨b, hb⟩ : ∃ b, w.heap.size = b := ⟨_, rfl⟩
  rw [hb]
  refine wp_gen (fun W => Fresh w W ∧ W.cell? ⟨b, 0, none⟩ = some (.pointer (some ⟨p, 0, none⟩)) ∧ b < W.heap.size) ⟨Fresh.alloc _ _, by rw [← hb]; exact (Blk.new w _ _).cell 0, by simp [hb]⟩ ?_
  rintro W ⟨hf, hc, hbl⟩
  have HN : Hid (b ≠ p) := Lib.hid (by omega)
  have HF := Lib.hid hf
  have HC := Lib.hid hc
  clear hf hb
  go_wp2_with fail
  with_reducible refine (HD.out W b HF.out HC.out HN.out).mono ?_
  rintro e w2 ⟨rfl, hc2, ho2⟩
  have HX := Lib.hid (And.intro hc2 ho2)
  have hc' : w2.cell? ⟨b, 0, none⟩ = some (.pointer (some ⟨p, 0, none⟩)) := (ho2.cell (p := ⟨b, 0, none⟩) hbl HN.out).trans HC.out
  clear hc2 ho2 hc
  go_wp2
  go_ret
  exact ⟨rfl, HX.out.1, (Only.of_fresh HF.out).trans HX.out.2⟩
end Go.Proofs.Ytkdbndgkgpcmfaa
