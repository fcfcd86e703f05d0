/-
  Package huff: Code.
-/
import Derived.Test.YtafibclffklieaaHuf5
namespace Go.Proofs.Ytafibclffklieaa
set_option linter.unusedVariables false
set_option linter.unusedSimpArgs false
open Go.RowKit
attribute [local go_sem high] fold_lnA run_index_lnA
theorem u8_infoH : (Try.prog.info? 5).map (fun i => (i.zero, i.size, i.bytes)) = some (some (.int .u8 0), 1, 1) := by kernel_rfl
def CodeP (p s : Nat) (w : World) (e : Ending) (w' : World) : Prop := e = .returned (.tuple #[.int .u32 (numF s : Int), .int .i64 (ln s : Int), .int .i64 0]) ∧ CodAt w' p (hdC 1 0 1) Cod.made ∧ Only (· = p) w w'
set_option maxRecDepth 100000 in
set_option maxHeartbeats 1600000 in
theorem hf_code (p s : Nat) (r : Bool) (w : World) (h : CoderAt w p r) (hs : s < 257) : Calls Try.prog 19 #[.pointer (some ⟨p, 0, none⟩), .int .i64 (s : Int)] w (CodeP p s w) := by
  have HR := Lib.hid (fun W (hw : Fresh w W) => hf_ready p r W (h.fresh hw))
  have h0 : (0 : Int) ≤ (s : Int) := by omega
  have h1 : (s : Int) ≤ 256 := by omega
  have h2 : (s : Int) < 257 := by omega
  have h3 : ¬ (s : Int) < 0 := by omega
  have h4 : ¬ 257 ≤ (s : Int) := by omega
  have h5 : decide ((s : Int) < 0) = false := by simp
  have h6 : decide (257 ≤ (s : Int)) = false := by simp; omega
  have hL := lnI_eq hs
  have hln := (ln_ok hs).2.1
  have e1 : IntKind.i64.wrap (ln s : Int) = (ln s : Int) := IntWalk.i64_in _ (by omega)
  clear h
  go_enter Try.func19, Try.ntmps19
  go_upto_region 3 with fail
  go_region_law (go_simp; go_at_call 25; (with_reducible refine (HR.out _ (Fresh.drew w)).mono ?_); rintro e w2 ⟨rfl, hc2, ho2⟩; have HX := Lib.hid (And.intro hc2 ho2); have y1 : w2.cell? ⟨p, 4 + s, none⟩ = some (.int .u32 (numF s : Int)) := (hc2.cellL _).trans (Cod.get_num hc2.1 hs); clear hc2 ho2)
  all_goals
    clear y1
    go_wp2
    go_ret3
    exact ⟨rfl, HX.out.1, (Only.of_fresh (Fresh.drew w)).trans HX.out.2⟩
set_option maxHeartbeats 1600000 in
theorem hf_code_no (v : Option Addr) (s : Int) (w : World) (hs : s < 0 ∨ 257 ≤ s) : Calls Try.prog 19 #[.pointer v, .int .i64 s] w fun e w' => e = .returned (.tuple #[.int .u32 0, .int .i64 0, .int .i64 11]) ∧ w = w' := by
  by_cases h0 : s < 0
  · clear hs
    go_enter Try.func19, Try.ntmps19
    go_wp2
    go_ret3
    exact ⟨rfl, rfl⟩
  · have h1 : 257 ≤ s := by omega
    clear hs
    go_enter Try.func19, Try.ntmps19
    go_wp2
    go_ret3
    exact ⟨rfl, rfl⟩
end Go.Proofs.Ytafibclffklieaa
