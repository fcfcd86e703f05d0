/-
  Texts laid together: Huf4 Huf5 Huf6.
-/
import Derived.Test.YtdoddpigiencjaaHuf3
import Derived.Defers
import Derived.Laws.LoneSync
import Derived.RegionCalls
import Derived.Laws.NewBlocks
/-
  Package huff: sync.Once; the codes are made once.
-/
namespace Go.Proofs.Ytdoddpigiencjaa
set_option linter.unusedVariables false
set_option linter.unusedSimpArgs false
open Go.RowKit
theorem disable (w : World) : (callFunc 108 #[]).run Try.prog w = .ok (.value (.tuple #[])) w := run_call_mark0 Try.func108 (by kernel_rfl) (by kernel_rfl) (by kernel_rfl) .disable (by kernel_rfl) w
theorem enable (w : World) : (callFunc 110 #[]).run Try.prog w = .ok (.value (.tuple #[])) w := run_call_mark0 Try.func110 (by kernel_rfl) (by kernel_rfl) (by kernel_rfl) .enable (by kernel_rfl) w
theorem acquire (a : Addr) (w : World) : (callFunc 111 #[.pointer (some a)]).run Try.prog w = .ok (.value (.tuple #[])) w := run_call_marked Try.func111 (by kernel_rfl) (by kernel_rfl) (by kernel_rfl) .acquire (by kernel_rfl) a w
theorem releaseMerge (a : Addr) (w : World) : (callFunc 113 #[.pointer (some a)]).run Try.prog w = .ok (.value (.tuple #[])) w := run_call_marked Try.func113 (by kernel_rfl) (by kernel_rfl) (by kernel_rfl) .releaseMerge (by kernel_rfl) a w
theorem store_deferred (a : Addr) (x : Value) (u : FrameMode) (w : World) (hc : w.cell? a = some x) (hz : w.frozen? a = false) :
    CallsD Try.prog 103 #[.pointer (some a), .bool true] u w fun e u' w' => u' = u ∧ (e = .returned (.tuple #[]) ∧ w' = w.drew.setCell a (.int .u32 1)) := by
  have hc' : w.drew.cell? a = some x := by go_simp
  have hz' : w.drew.frozen? a = false := by go_simp
  have hst := run_call_store (P := Try.prog) Try.func106 (by kernel_rfl) (by kernel_rfl) (by kernel_rfl) (by kernel_rfl) (k := .u32) (y := 1) hc' hz'
  go_enter_d Try.func103, Try.ntmps103
  go_wp2
  go_region_calls
  all_goals (go_end0; exact ⟨rfl, rfl⟩)
set_option maxRecDepth 100000 in
set_option maxHeartbeats 1600000 in
theorem unlock_deferred (a : Addr) (u : FrameMode) (w : World) (hc : w.cell? a = some (.int .i32 1)) (hz : w.frozen? a = false) :
    CallsD Try.prog 102 #[.pointer (some a)] u w fun e u' w' => u' = u ∧ (e = .returned (.tuple #[]) ∧ w' = w.setCell a (.int .i32 0)) := by
  have hd := disable
  have he := enable
  have hr := releaseMerge
  have hadd := run_call_add (P := Try.prog) Try.func114 (by kernel_rfl) (by kernel_rfl) (by kernel_rfl) .i32 (by kernel_rfl) (y := -1) (s := 0) hc hz (by simp [go_sem]; rfl)
  have hcv := run_convert_to_unsafe (P := Try.prog) (src := 176) (dst := 180) Try.underlying176 Try.underlying180 (by kernel_rfl) hc
  go_enter_d Try.func102, Try.ntmps102
  go_wp2
  go_end0
  all_goals (first | exact ⟨rfl, rfl⟩ | (go_wp2; go_end0; exact ⟨rfl, rfl⟩))
set_option maxRecDepth 100000 in
set_option maxHeartbeats 1600000 in
theorem lock_free (a : Addr) (w : World) (hc : w.cell? a = some (.int .i32 0)) (hz : w.frozen? a = false) :
    Calls Try.prog 101 #[.pointer (some a)] w fun e w' => e = .returned (.tuple #[]) ∧ w' = w.setCell a (.int .i32 1) := by
  have hd := disable
  have he := enable
  have ha := acquire
  have hcas := run_call_cas_hit (P := Try.prog) Try.func109 (by kernel_rfl) (by kernel_rfl) (by kernel_rfl) .i32 (by kernel_rfl) (y := 1) hc hz
  have hc' : (w.setCell a (.int .i32 1)).cell? a = some (.int .i32 1) := World.cell?_setCell_same w a _ hc
  have hcv := run_convert_to_unsafe (P := Try.prog) (src := 176) (dst := 180) Try.underlying176 Try.underlying180 (by kernel_rfl) hc'
  go_enter Try.func101, Try.ntmps101
  go_wp2
  first | go_end0 | (simp only [Exit.inBlock, Exit.then]; refine bodyPost_ret (results_none rfl _ _ _) rfl ?_) | refine bodyPost_ret (results_none rfl _ _ _) rfl ?_
  all_goals (first | exact ⟨rfl, rfl⟩ | (go_wp2; go_end0; exact ⟨rfl, rfl⟩))
def hdC (d l m : Int) : List Value := [.int .u32 d, .int .i32 l, .int .u32 0, .int .i64 m]
theorem CodAt.h0 {w : World} {p : Nat} {d l m : Int} {c : Cod} (h : CodAt w p (hdC d l m) c) : w.cell? ⟨p, 0, none⟩ = some (.int .u32 d) ∧ w.cell? ⟨p, 1, none⟩ = some (.int .i32 l) ∧ w.cell? ⟨p, 3, none⟩ = some (.int .i64 m) :=
  ⟨(h.cellL 0).trans ((Cod.get_hd h.1 (by omega)).trans rfl), (h.cellL 1).trans ((Cod.get_hd h.1 (by omega)).trans rfl), (h.cellL 3).trans ((Cod.get_hd h.1 (by omega)).trans rfl)⟩
theorem CodAt.set0 {w : World} {p : Nat} {d l m d' : Int} {c : Cod} (h : CodAt w p (hdC d l m) c) : CodAt (w.setCell ⟨p, 0, none⟩ (.int .u32 d')) p (hdC d' l m) c := h.setL _ _ rfl (Cod.set_hd h.1 (by omega) _)
theorem CodAt.set1 {w : World} {p : Nat} {d l m l' : Int} {c : Cod} (h : CodAt w p (hdC d l m) c) : CodAt (w.setCell ⟨p, 1, none⟩ (.int .i32 l')) p (hdC d l' m) c := h.setL _ _ rfl (Cod.set_hd h.1 (by omega) _)
theorem CodAt.set3 {w : World} {p : Nat} {d l m m' : Int} {c : Cod} (h : CodAt w p (hdC d l m) c) : CodAt (w.setCell ⟨p, 3, none⟩ (.int .i64 m')) p (hdC d l m') c := h.setL _ _ rfl (Cod.set_hd h.1 (by omega) _)
def MadeP (p : Nat) (d l : Int) (w : World) (e : Ending) (w' : World) : Prop := e = .returned (.tuple #[]) ∧ CodAt w' p (hdC d l 1) Cod.made ∧ Only (· = p) w w'
set_option maxRecDepth 100000 in
set_option maxHeartbeats 1600000 in
theorem ready_one (p : Nat) (pl : Nat) (d l : Int) (w : World) (hpl : w.cell? ⟨pl, 0, none⟩ = some (.pointer (some ⟨p, 0, none⟩))) (hne : pl ≠ p) (h : CodAt w p (hdC d l 0) Cod.zero) :
    Calls Try.prog 94 #[.pointer (some ⟨pl, 0, none⟩)] w (MadeP p d l w) := by
  have HL := Lib.hid (hf_lay p (hdC d l 0) w h)
  have hplt := cell_lt hpl
  have HPL := Lib.hid hpl
  clear h
  go_enter Try.func94, Try.ntmps94
  go_wp2_with fail
  with_reducible refine HL.out.mono ?_
  rintro e w2 ⟨rfl, hc2, ho2⟩
  have HX := Lib.hid (And.intro hc2 ho2)
  have hp2 : w2.cell? ⟨pl, 0, none⟩ = some (.pointer (some ⟨p, 0, none⟩)) := (ho2.cell hplt hne).trans HPL.out
  have h3 := hc2.h0.2.2
  have z3 := hc2.frozen 3
  have hadd := run_call_add (P := Try.prog) Try.func99 (by kernel_rfl) (by kernel_rfl) (by kernel_rfl) .i64 (by kernel_rfl) (y := 1) (s := 1) h3 z3 (by simp [go_sem]; rfl)
  clear hc2 ho2 hpl
  go_wp2
  go_end0
  exact ⟨rfl, HX.out.1.set3, HX.out.2.step _ _ (.inl rfl)⟩
end Go.Proofs.Ytdoddpigiencjaa

/-
  Package huff: sync.Once's Do; ready.
-/
namespace Go.Proofs.Ytdoddpigiencjaa
set_option linter.unusedVariables false
set_option linter.unusedSimpArgs false
open Go.RowKit
set_option maxRecDepth 100000 in
set_option maxHeartbeats 1600000 in
theorem slow_any (p pl : Nat) (w : World) (hpl : w.cell? ⟨pl, 0, none⟩ = some (.pointer (some ⟨p, 0, none⟩))) (hne : pl ≠ p) (h : CodAt w p (hdC 0 0 0) Cod.zero) :
    Calls Try.prog 98 #[.pointer (some ⟨p, 0, none⟩), .func (.func 94) #[] #[.pointer (some ⟨pl, 0, none⟩)]] w (MadeP p 1 0 w) := by
  have h1 := h.set1 (l' := 1)
  have HO1 : Hid (Only (· = p) w (w.setCell ⟨p, 1, none⟩ (.int .i32 1))) := Lib.hid (Only.setCell w ⟨p, 1, none⟩ _)
  have HPL1 : (w.setCell ⟨p, 1, none⟩ (.int .i32 1)).cell? ⟨pl, 0, none⟩ = some (.pointer (some ⟨p, 0, none⟩)) := (HO1.out.cell (cell_lt hpl) hne).trans hpl
  have HC := Lib.hid (ready_one p pl 0 1 _ HPL1 hne h1)
  have hl := run_call_load (P := Try.prog) Try.func100 (by kernel_rfl) (by kernel_rfl) (by kernel_rfl) .u32 (by kernel_rfl) (a := ⟨p, 0, none⟩) (x := 0) h1.h0.1
  have hnot : ∀ (x : Bool) (w : World), (Op.unary .not (.bool x)).run Try.prog w = .ok (.bool (!x)) w := fun _ _ => rfl
  have HLK := Lib.hid (lock_free ⟨p, 1, none⟩ w h.h0.2.1 (h.frozen 1))
  clear h HPL1 h1 hpl
  go_enter_defers Try.func98, Try.ntmps98
  go_wp2_with fail
  with_reducible refine HLK.out.mono ?_
  rintro e w' ⟨rfl, rfl⟩
  go_wp2_with (first | (go_at_call 97; go_in))
  with_reducible refine HC.out.mono ?_
  rintro e w2 ⟨rfl, hc2, ho2⟩
  have HX := Lib.hid (And.intro hc2 ho2)
  clear hc2 ho2
  go_wp2_with fail
  refine leaves_cons (f := 103) (args := #[.pointer (some ⟨p, 0, none⟩), .bool true]) (by simp) (by simp [go_sem]) ?_
  refine (store_deferred ⟨p, 0, none⟩ (.int .u32 0) .returning _ HX.out.1.h0.1 (HX.out.1.frozen 0)).mono ?_
  rintro e u' w'' ⟨rfl, rfl, rfl⟩
  have HY : Hid (CodAt (w2.drew.setCell ⟨p, 0, none⟩ (.int .u32 1)) p (hdC 1 1 1) Cod.made ∧ Only (· = p) w (w2.drew.setCell ⟨p, 0, none⟩ (.int .u32 1))) := Lib.hid ⟨(HX.out.1.fresh (Fresh.drew _)).set0, ((HO1.out.trans HX.out.2).drewS).step _ _ (.inl rfl)⟩
  refine leaves_cons (f := 102) (args := #[.pointer (some ⟨p, 1, none⟩)]) (by simp [settle]) (by simp [go_sem]) ?_
  refine (unlock_deferred ⟨p, 1, none⟩ _ _ HY.out.1.h0.2.1 (HY.out.1.frozen 1)).mono ?_
  rintro e u' w'' ⟨rfl, rfl, rfl⟩
  have HFIN : MadeP p 1 0 w (.returned (.tuple #[])) ((w2.drew.setCell ⟨p, 0, none⟩ (.int .u32 1)).setCell ⟨p, 1, none⟩ (.int .i32 0)) := ⟨rfl, HY.out.1.set1, HY.out.2.step _ _ (.inl rfl)⟩
  simp [Leaves, settle, results, Try.results98]
  exact HFIN
set_option maxRecDepth 100000 in
set_option maxHeartbeats 1600000 in
theorem do_first (p pl : Nat) (w : World) (hpl : w.cell? ⟨pl, 0, none⟩ = some (.pointer (some ⟨p, 0, none⟩))) (hne : pl ≠ p) (h : CodAt w p (hdC 0 0 0) Cod.zero) :
    Calls Try.prog 93 #[.pointer (some ⟨p, 0, none⟩), .func (.func 94) #[] #[.pointer (some ⟨pl, 0, none⟩)]] w (MadeP p 1 0 w) := by
  have HS := Lib.hid (slow_any p pl w hpl hne h)
  have hl := run_call_load (P := Try.prog) Try.func100 (by kernel_rfl) (by kernel_rfl) (by kernel_rfl) .u32 (by kernel_rfl) (a := ⟨p, 0, none⟩) (x := 0) h.h0.1
  have hnot : ∀ (x : Bool) (w : World), (Op.unary .not (.bool x)).run Try.prog w = .ok (.bool (!x)) w := fun _ _ => rfl
  clear h hpl
  go_enter Try.func93, Try.ntmps93
  go_wp2_with (first | (go_at_call 97; go_in))
  with_reducible refine HS.out.mono ?_
  rintro e w2 ⟨rfl, hc2, ho2⟩
  have HX := Lib.hid (And.intro hc2 ho2)
  clear hc2 ho2
  go_wp2
  go_end0
  exact ⟨rfl, HX.out.1, HX.out.2⟩
set_option maxRecDepth 100000 in
set_option maxHeartbeats 1600000 in
theorem do_done (p : Nat) (fv : Value) (w : World) (h : CodAt w p (hdC 1 0 1) Cod.made) :
    Calls Try.prog 93 #[.pointer (some ⟨p, 0, none⟩), fv] w (MadeP p 1 0 w) := by
  have H := Lib.hid h
  have hl := run_call_load (P := Try.prog) Try.func100 (by kernel_rfl) (by kernel_rfl) (by kernel_rfl) .u32 (by kernel_rfl) (a := ⟨p, 0, none⟩) (x := 1) h.h0.1
  have hnot : ∀ (x : Bool) (w : World), (Op.unary .not (.bool x)).run Try.prog w = .ok (.bool (!x)) w := fun _ _ => rfl
  clear h
  go_enter Try.func93, Try.ntmps93
  go_wp2
  go_end0
  exact ⟨rfl, H.out, Only.refl _ _⟩
/-- A coder: its codes aren't made yet, or are. -/
def CoderAt (w : World) (p : Nat) (r : Bool) : Prop := if r then CodAt w p (hdC 1 0 1) Cod.made else CodAt w p (hdC 0 0 0) Cod.zero
theorem CoderAt.fresh {w w' : World} {p : Nat} {r : Bool} (h : CoderAt w p r) (hf : Fresh w w') : CoderAt w' p r := by
  cases r with
  | true => exact CodAt.fresh h hf
  | false => exact CodAt.fresh h hf
theorem CoderAt.lt {w : World} {p : Nat} {r : Bool} (h : CoderAt w p r) : p < w.heap.size := by
  cases r with
  | true => exact (show CodAt w p (hdC 1 0 1) Cod.made from h).2.lt
  | false => exact (show CodAt w p (hdC 0 0 0) Cod.zero from h).2.lt
def RdyP (p : Nat) (w : World) (e : Ending) (w' : World) : Prop := e = .returned (.pointer (some ⟨p, 4, none⟩)) ∧ CodAt w' p (hdC 1 0 1) Cod.made ∧ Only (· = p) w w'
set_option maxRecDepth 100000 in
set_option maxHeartbeats 1600000 in
theorem hf_ready (p : Nat) (r : Bool) (w : World) (h : CoderAt w p r) : Calls Try.prog 90 #[.pointer (some ⟨p, 0, none⟩)] w (RdyP p w) := by
  have HD : Hid (∀ W (pl : Nat), Fresh w W → W.cell? ⟨pl, 0, none⟩ = some (.pointer (some ⟨p, 0, none⟩)) → pl ≠ p → Calls Try.prog 93 #[.pointer (some ⟨p, 0, none⟩), .func (.func 94) #[] #[.pointer (some ⟨pl, 0, none⟩)]] W (MadeP p 1 0 W)) := Lib.hid (fun W pl hw hpl hne => by
    cases r with
    | true => exact do_done p _ W (CodAt.fresh h hw)
    | false => exact do_first p pl W hpl hne (CodAt.fresh h hw))
  have hlt := h.lt
  have hmf : ∀ (fn : Fn) (first cap : Array Value) (w : World), (Instr.makeFunc fn first cap).run Try.prog w = .ok (.func fn first cap) w := fun _ _ _ _ => rfl
  clear h
  go_enter Try.func90, Try.ntmps90
  go_upto_region 1 with fail
  obtain ⟨b, hb⟩ : ∃ b, w.heap.size = b := ⟨_, rfl⟩
  rw [hb]
  refine wp_gen (fun W => Fresh w W ∧ W.cell? ⟨b, 0, none⟩ = some (.pointer (some ⟨p, 0, none⟩)) ∧ b < W.heap.size) ⟨Fresh.alloc _ _, by rw [← hb]; exact (Blk.new w _ _).cell 0, by simp [hb]⟩ ?_
  rintro W ⟨hf, hc, hbl⟩
  have HN : Hid (b ≠ p) := Lib.hid (by omega)
  have HF := Lib.hid hf
  have HC := Lib.hid hc
  clear hf hb
  go_wp2_with fail
  with_reducible refine (HD.out W b HF.out HC.out HN.out).mono ?_
  rintro e w2 ⟨rfl, hc2, ho2⟩
  have HX := Lib.hid (And.intro hc2 ho2)
  have hc' : w2.cell? ⟨b, 0, none⟩ = some (.pointer (some ⟨p, 0, none⟩)) := (ho2.cell (p := ⟨b, 0, none⟩) hbl HN.out).trans HC.out
  clear hc2 ho2 hc
  go_wp2
  go_ret
  exact ⟨rfl, HX.out.1, (Only.of_fresh HF.out).trans HX.out.2⟩
end Go.Proofs.Ytdoddpigiencjaa

/-
  Package huff: Code.
-/
namespace Go.Proofs.Ytdoddpigiencjaa
set_option linter.unusedVariables false
set_option linter.unusedSimpArgs false
open Go.RowKit
attribute [local go_sem high] fold_lnA run_index_lnA
theorem u8_infoH : (Try.prog.info? 5).map (fun i => (i.zero, i.size, i.bytes)) = some (some (.int .u8 0), 1, 1) := by kernel_rfl
end Go.Proofs.Ytdoddpigiencjaa

