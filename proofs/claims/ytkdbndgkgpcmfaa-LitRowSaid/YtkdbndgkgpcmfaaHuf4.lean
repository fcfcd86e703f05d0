/-
  Package huff: sync.Once; the codes are made once.
-/
import Derived.Test.YtkdbndgkgpcmfaaHuf3
import Derived.Defers
import Derived.Laws.LoneSync
import Derived.RegionCalls
import Derived.Laws.NewBlocks
namespace Go.Proofs.Ytkdbndgkgpcmfaa
set_option linter.unusedVariables false
set_option linter.unusedSimpArgs false
open Go.RowKit
theorem disable (w : World) : (callFunc 58 #[]).run Try.prog w = .ok (.value (.tuple #[])) w := run_call_mark0 Try.func58 (by kernel_rfl) (by kernel_rfl) (by kernel_rfl) .disable (by kernel_rfl) w
theorem enable (w : World) : (callFunc 60 #[]).run Try.prog w = .ok (.value (.tuple #[])) w := run_call_mark0 Try.func60 (by kernel_rfl) (by kernel_rfl) (by kernel_rfl) .enable (by kernel_rfl) w
theorem acquire (a : Addr) (w : World) : (callFunc 61 #[.pointer (some a)]).run Try.prog w = .ok (.value (.tuple #[])) w := run_call_marked Try.func61 (by kernel_rfl) (by kernel_rfl) (by kernel_rfl) .acquire (by kernel_rfl) a w
theorem releaseMerge (a : Addr) (w : World) : (callFunc 63 #[.pointer (some a)]).run Try.prog w = .ok (.value (.tuple #[])) w := run_call_marked Try.func63 (by kernel_rfl) (by kernel_rfl) (by kernel_rfl) .releaseMerge (by kernel_rfl) a w
theorem store_deferred (a : Addr) (x : Value) (u : FrameMode) (w : World) (hc : w.cell? a = some x) (hz : w.frozen? a = false) :
    CallsD Try.prog 53 #[.pointer (some a), .bool true] u w fun e u' w' => u' = u ∧ (e = .returned (.tuple #[]) ∧ w' = w.drew.setCell a (.int .u32 1)) := by
  have hc' : w.drew.cell? a = some x := by go_simp
  have hz' : w.drew.frozen? a = false := by go_simp
  have hst := run_call_store (P := Try.prog) Try.func56 (by kernel_rfl) (by kernel_rfl) (by kernel_rfl) (by kernel_rfl) (k := .u32) (y := 1) hc' hz'
  go_enter_d Try.func53, Try.ntmps53
  go_wp2
  go_region_calls
  all_goals (go_end0; exact ⟨rfl, rfl⟩)
set_option maxRecDepth 100000 in
set_option maxHeartbeats 1600000 in
theorem unlock_deferred (a : Addr) (u : FrameMode) (w : World) (hc : w.cell? a = some (.int .i32 1)) (hz : w.frozen? a = false) :
    CallsD Try.prog 52 #[.pointer (some a)] u w fun e u' w' => u' = u ∧ (e = .returned (.tuple #[]) ∧ w' = w.setCell a (.int .i32 0)) := by
  have hd := disable
  have he := enable
  have hr := releaseMerge
  have hadd := run_call_add (P := Try.prog) Try.func64 (by kernel_rfl) (by kernel_rfl) (by kernel_rfl) .i32 (by kernel_rfl) (y := -1) (s := 0) hc hz (by simp [go_sem]; rfl)
  have hcv := run_convert_to_unsafe (P := Try.prog) (src := 106) (dst := 110) Try.underlying106 Try.underlying110 (by kernel_rfl) hc
  go_enter_d Try.func52, Try.ntmps52
  go_wp2
  go_end0
  all_goals (first | exact ⟨rfl, rfl⟩ | (go_wp2; go_end0; exact ⟨rfl, rfl⟩))
set_option maxRecDepth 100000 in
set_option maxHeartbeats 1600000 in
theorem lock_free (a : Addr) (w : World) (hc : w.cell? a = some (.int .i32 0)) (hz : w.frozen? a = false) :
    Calls Try.prog 51 #[.pointer (some a)] w fun e w' => e = .returned (.tuple #[]) ∧ w' = w.setCell a (.int .i32 1) := by
  have hd := disable
  have he := enable
  have ha := acquire
  have hcas := run_call_cas_hit (P := Try.prog) Try.func59 (by kernel_rfl) (by kernel_rfl) (by kernel_rfl) .i32 (by kernel_rfl) (y := 1) hc hz
  have hc' : (w.setCell a (.int .i32 1)).cell? a = some (.int .i32 1) := World.cell?_setCell_same w a _ hc
  have hcv := run_convert_to_unsafe (P := Try.prog) (src := 106) (dst := 110) Try.underlying106 Try.underlying110 (by kernel_rfl) hc'
  go_enter Try.func51, Try.ntmps51
  go_wp2
  first | go_end0 | (simp only [Exit.inBlock, Exit.then]; refine bodyPost_ret (results_none rfl _ _ _) rfl ?_) | refine bodyPost_ret (results_none rfl _ _ _) rfl ?_
  all_goals (first | exact ⟨rfl, rfl⟩ | (go_wp2; go_end0; exact ⟨rfl, rfl⟩))
def hdC (d l m : Int) : List Value := [.int .u32 d, .int .i32 l, .int .u32 0, .int .i64 m]
theorem CodAt.h0 {w : World} {p : Nat} {d l m : Int} {c : Cod} (h : CodAt w p (hdC d l m) c) : w.cell? ⟨p, 0, none⟩ = some (.int .u32 d) ∧ w.cell? ⟨p, 1, none⟩ = some (.int .i32 l) ∧ w.cell? ⟨p, 3, none⟩ = some (.int .i64 m) :=
  ⟨(h.cellL 0).trans ((Cod.get_hd h.1 (by omega)).trans rfl), (h.cellL 1).trans ((Cod.get_hd h.1 (by omega)).trans rfl), (h.cellL 3).trans ((Cod.get_hd h.1 (by omega)).trans rfl)⟩
theorem CodAt.set0 {w : World} {p : Nat} {d l m d' : Int} {c : Cod} (h : CodAt w p (hdC d l m) c) : CodAt (w.setCell ⟨p, 0, none⟩ (.int .u32 d')) p (hdC d' l m) c := h.setL _ _ rfl (Cod.set_hd h.1 (by omega) _)
theorem CodAt.set1 {w : World} {p : Nat} {d l m l' : Int} {c : Cod} (h : CodAt w p (hdC d l m) c) : CodAt (w.setCell ⟨p, 1, none⟩ (.int .i32 l')) p (hdC d l' m) c := h.setL _ _ rfl (Cod.set_hd h.1 (by omega) _)
theorem CodAt.set3 {w : World} {p : Nat} {d l m m' : Int} {c : Cod} (h : CodAt w p (hdC d l m) c) : CodAt (w.setCell ⟨p, 3, none⟩ (.int .i64 m')) p (hdC d l m') c := h.setL _ _ rfl (Cod.set_hd h.1 (by omega) _)
def MadeP (p : Nat) (d l : Int) (w : World) (e : Ending) (w' : World) : Prop := e = .returned (.tuple #[]) ∧ CodAt w' p (hdC d l 1) Cod.made ∧ Only (· = p) w w'
set_option maxRecDepth 100000 in
set_option maxHeartbeats 1600000 in
theorem ready_one (p : Nat) (pl : Nat) (d l : Int) (w : World) (hpl : w.cell? ⟨pl, 0, none⟩ = some (.pointer (some ⟨p, 0, none⟩))) (hne : pl ≠ p) (h : CodAt w p (hdC d l 0) Cod.zero) :
    Calls Try.prog 42 #[.pointer (some ⟨pl, 0, none⟩)] w (MadeP p d l w) := by
  have HL := Lib.hid (hf_lay p (hdC d l 0) w h)
  have hplt := cell_lt hpl
  have HPL := Lib.hid hpl
  clear h
  go_enter Try.func42, Try.ntmps42
  go_wp2_with fail
  with_reducible refine HL.out.mono ?_
  rintro e w2 ⟨rfl, hc2, ho2⟩
  have HX := Lib.hid (And.intro hc2 ho2)
  have hp2 : w2.cell? ⟨pl, 0, none⟩ = some (.pointer (some ⟨p, 0, none⟩)) := (ho2.cell hplt hne).trans HPL.out
  have h3 := hc2.h0.2.2
  have z3 := hc2.frozen 3
  have hadd := run_call_add (P := Try.prog) Try.func49 (by kernel_rfl) (by kernel_rfl) (by kernel_rfl) .i64 (by kernel_rfl) (y := 1) (s := 1) h3 z3 (by simp [go_sem]; rfl)
  clear hc2 ho2 hpl
  go_wp2
  go_end0
  exact ⟨rfl, HX.out.1.set3, HX.out.2.step _ _ (.inl rfl)⟩
end Go.Proofs.Ytkdbndgkgpcmfaa
