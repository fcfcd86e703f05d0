/-
  NARROWER THAN 'FOR EVERY INPUT', by the rows' own cells (each row's printed sentence says how): SettingsApply: laid · SettingsFrames: laid · SettingsBack: laid · SettingsShares: laid · SettingsLast: laid.
  DERIVED. THE GIVEN ROWS OF THIS SEAT. 5 by the template 'for every input the law returns true; each argument reads behind the call as it read before'; 0 by the template 'total and deterministic' (their statements: YtfnggbnacdbcpaaDoorTotals.lean).
  GIVEN WITH THE SEED: the statements are not yours to turn. If you find one false, say at which input.
  Laid BY PROGRAM, IN A SANDBOX (cutbox-rows.mjs): the forced cells as the released guide's own fill.sh prints them over the translation 9e0da6f295f3d24d… (all of the seat's roots in one cut). By AI agents, Wed Nov 11 2026. No macro, syntax, notation, axiom, sorry.
-/
import Derived.Test.YtfnggbnacdbcpaaDoorChecked
import GoSem.Claim
import GoSem.ClaimJoined
import GoSem.ClaimMapViews
import Derived.JoinedTies
import Derived.KernelRfl
namespace Go.Proofs.YtfnggbnacdbcpaaDoor
/- THE CELL 'sum', in the pinned program and in every row, IS THE sha256 OF THE DUMP (.gsa) THAT YtfnggbnacdbcpaaDoorProg.lean LOADS. Nothing in Lean hashes anything: it is a label: what it is worth is what the hold of that sum in a sandbox is worth. -/
noncomputable def Tryd.pinned : Pinned := { name := "ytfnggbnacdbcpaadoor", sum := "9e0da6f295f3d24dfe6f9f8e901cc2e17ab3fe76679fdf6583ddddc963486f95", checked := Tryd.checked }
namespace Rows
def none {H : Type} : Left H := { results := [], args := [] }

/- WHAT THE LISTED PACKAGE-LEVEL VARIABLES READ AS WHEN THE CALL BEGINS. Each datum BY PROGRAM (the guide's laid-datum.mjs) off the statement by which the dump's own 'gosem.cut.vars' lays the variable. In a bare row this is a premise. The card (YtfnggbnacdbcpaaDoorCards.lean) ties it to the program's text. -/
def laid_squint_settings_rules {H : Type} : DataW H := .agg [.agg [.lit (.int .i64 2), .lit (.int .i64 0), .lit (.int .i64 1), .lit (.int .i64 101)], .agg [.lit (.int .i64 4), .lit (.int .i64 0), .lit (.int .i64 2147483647), .lit (.int .i64 103)], .agg [.lit (.int .i64 5), .lit (.int .i64 16384), .lit (.int .i64 16777215), .lit (.int .i64 101)]]

/-- 'squintlaw16.SettingsApply': WHATEVER THE INPUT: true; the input reads as it did. -/
def settingsApplySpec : ChangeSpec := { name := "settingsApply", fn := fun _ => fun
  | [d] => { results := [.lit (.bool true)], args := [d] }
  | _ => none }
def settingsApplyRow : OpenClaim := { program := "ytfnggbnacdbcpaadoor", sum := "9e0da6f295f3d24dfe6f9f8e901cc2e17ab3fe76679fdf6583ddddc963486f95", func := "squint/squintlaw16.SettingsApply", spec := "settingsApply", named := ["squint/settings.rules"], apart := false, laid := [("squint/settings.rules", laid_squint_settings_rules)] }
def SettingsApplySaid : Prop := settingsApplyRow.holds Tryd.pinned (OpenSpec.ofChange settingsApplySpec)

/-- ITS FALSE NEIGHBOUR: 'it returns false'. Refute it at one input. -/
def settingsApplyWrong : ChangeSpec := { name := "settingsApply", fn := fun _ => fun
  | [d] => { results := [.lit (.bool false)], args := [d] }
  | _ => none }
def SettingsApplyWrongFalsely : Prop := settingsApplyRow.holds Tryd.pinned (OpenSpec.ofChange settingsApplyWrong)

/-- 'squintlaw16.SettingsFrames': WHATEVER THE INPUT: true; the input reads as it did. -/
def settingsFramesSpec : ChangeSpec := { name := "settingsFrames", fn := fun _ => fun
  | [d] => { results := [.lit (.bool true)], args := [d] }
  | _ => none }
def settingsFramesRow : OpenClaim := { program := "ytfnggbnacdbcpaadoor", sum := "9e0da6f295f3d24dfe6f9f8e901cc2e17ab3fe76679fdf6583ddddc963486f95", func := "squint/squintlaw16.SettingsFrames", spec := "settingsFrames", unfollowed := true, recurses := true, named := ["squint/settings.rules"], apart := false, laid := [("squint/settings.rules", laid_squint_settings_rules)] }
def SettingsFramesSaid : Prop := settingsFramesRow.holds Tryd.pinned (OpenSpec.ofChange settingsFramesSpec)

/-- ITS FALSE NEIGHBOUR: 'it returns false'. Refute it at one input. -/
def settingsFramesWrong : ChangeSpec := { name := "settingsFrames", fn := fun _ => fun
  | [d] => { results := [.lit (.bool false)], args := [d] }
  | _ => none }
def SettingsFramesWrongFalsely : Prop := settingsFramesRow.holds Tryd.pinned (OpenSpec.ofChange settingsFramesWrong)

/-- 'squintlaw16.SettingsBack': WHATEVER THE INPUT: true; the input reads as it did. -/
def settingsBackSpec : ChangeSpec := { name := "settingsBack", fn := fun _ => fun
  | [d1, d2] => { results := [.lit (.bool true)], args := [d1, d2] }
  | _ => none }
def settingsBackRow : OpenClaim := { program := "ytfnggbnacdbcpaadoor", sum := "9e0da6f295f3d24dfe6f9f8e901cc2e17ab3fe76679fdf6583ddddc963486f95", func := "squint/squintlaw16.SettingsBack", spec := "settingsBack", named := ["squint/settings.rules"], apart := false, laid := [("squint/settings.rules", laid_squint_settings_rules)] }
def SettingsBackSaid : Prop := settingsBackRow.holds Tryd.pinned (OpenSpec.ofChange settingsBackSpec)

/-- ITS FALSE NEIGHBOUR: 'it returns false'. Refute it at one input. -/
def settingsBackWrong : ChangeSpec := { name := "settingsBack", fn := fun _ => fun
  | [d1, d2] => { results := [.lit (.bool false)], args := [d1, d2] }
  | _ => none }
def SettingsBackWrongFalsely : Prop := settingsBackRow.holds Tryd.pinned (OpenSpec.ofChange settingsBackWrong)

/-- 'squintlaw16.SettingsShares': WHATEVER THE INPUT: true; the input reads as it did. -/
def settingsSharesSpec : ChangeSpec := { name := "settingsShares", fn := fun _ => fun
  | [d1, d2] => { results := [.lit (.bool true)], args := [d1, d2] }
  | _ => none }
def settingsSharesRow : OpenClaim := { program := "ytfnggbnacdbcpaadoor", sum := "9e0da6f295f3d24dfe6f9f8e901cc2e17ab3fe76679fdf6583ddddc963486f95", func := "squint/squintlaw16.SettingsShares", spec := "settingsShares", named := ["squint/settings.rules"], apart := false, laid := [("squint/settings.rules", laid_squint_settings_rules)] }
def SettingsSharesSaid : Prop := settingsSharesRow.holds Tryd.pinned (OpenSpec.ofChange settingsSharesSpec)

/-- ITS FALSE NEIGHBOUR: 'it returns false'. Refute it at one input. -/
def settingsSharesWrong : ChangeSpec := { name := "settingsShares", fn := fun _ => fun
  | [d1, d2] => { results := [.lit (.bool false)], args := [d1, d2] }
  | _ => none }
def SettingsSharesWrongFalsely : Prop := settingsSharesRow.holds Tryd.pinned (OpenSpec.ofChange settingsSharesWrong)

/-- 'squintlaw16.SettingsLast': WHATEVER THE INPUT: true; the input reads as it did. -/
def settingsLastSpec : ChangeSpec := { name := "settingsLast", fn := fun _ => fun
  | [d1, d2, d3] => { results := [.lit (.bool true)], args := [d1, d2, d3] }
  | _ => none }
def settingsLastRow : OpenClaim := { program := "ytfnggbnacdbcpaadoor", sum := "9e0da6f295f3d24dfe6f9f8e901cc2e17ab3fe76679fdf6583ddddc963486f95", func := "squint/squintlaw16.SettingsLast", spec := "settingsLast", named := ["squint/settings.rules"], apart := false, laid := [("squint/settings.rules", laid_squint_settings_rules)] }
def SettingsLastSaid : Prop := settingsLastRow.holds Tryd.pinned (OpenSpec.ofChange settingsLastSpec)

/-- ITS FALSE NEIGHBOUR: 'it returns false'. Refute it at one input. -/
def settingsLastWrong : ChangeSpec := { name := "settingsLast", fn := fun _ => fun
  | [d1, d2, d3] => { results := [.lit (.bool false)], args := [d1, d2, d3] }
  | _ => none }
def SettingsLastWrongFalsely : Prop := settingsLastRow.holds Tryd.pinned (OpenSpec.ofChange settingsLastWrong)

/- THE SECOND FORM. 'bulk': how many values and letters a reading holds, each counted each time it is reached (what is shared counts as often as it is met; a slice's spare places count too). A statement '..UptoSaid' is the law's where the arguments, and the package variables that the reading takes, are together of bulk at most 1048576: NARROWER than '..Said'. Prove '..Said' where nothing that the law and all that it calls make is longer than what came in: it says more and counts as full. Else prove '..UptoSaid'. A law counts once. -/
mutual
def uptoBulk {H : Type} : DataW H → Nat
  | .lit (.string bytes) => bytes.length + 1
  | .lit _ => 1
  | .nil => 1
  | .ptr d => uptoBulk d + 1
  | .slice elems spare => uptoBulkAll elems + uptoBulkAll spare + 1
  | .agg parts => uptoBulkAll parts + 1
  | .iface _ d => uptoBulk d + 1
  | .map entries => uptoBulkEntries entries + 1
  | .held _ => 1
def uptoBulkAll {H : Type} : List (DataW H) → Nat
  | [] => 0
  | d :: r => uptoBulk d + uptoBulkAll r
def uptoBulkEntries {H : Type} : List (Lit × DataW H) → Nat
  | [] => 0
  | x :: r => uptoBulkEntry x + uptoBulkEntries r
def uptoBulkEntry {H : Type} : Lit × DataW H → Nat
  | (.string bytes, d) => bytes.length + uptoBulk d + 1
  | (_, d) => uptoBulk d + 1
 end
def uptoSmall : (H : Type) → List (DataW H) → Bool := fun _ ds => decide (uptoBulkAll ds ≤ 1048576)
def OpenSpec.upto (s : _root_.Go.ChangeSpec) : _root_.Go.OpenSpec := { _root_.Go.OpenSpec.ofChange s with cond := some uptoSmall }

/-- 'squintlaw16.SettingsApply', WHERE WHAT IT READS IS OF BULK AT MOST 1048576: true; the input reads as it did. -/
def settingsApplyUptoRow : OpenClaim := { program := "ytfnggbnacdbcpaadoor", sum := "9e0da6f295f3d24dfe6f9f8e901cc2e17ab3fe76679fdf6583ddddc963486f95", func := "squint/squintlaw16.SettingsApply", spec := "settingsApply", named := ["squint/settings.rules"], apart := false, laid := [("squint/settings.rules", laid_squint_settings_rules)], narrowed := true }
def SettingsApplyUptoSaid : Prop := settingsApplyUptoRow.holds Tryd.pinned (OpenSpec.upto settingsApplySpec)

/-- 'squintlaw16.SettingsFrames', WHERE WHAT IT READS IS OF BULK AT MOST 1048576: true; the input reads as it did. -/
def settingsFramesUptoRow : OpenClaim := { program := "ytfnggbnacdbcpaadoor", sum := "9e0da6f295f3d24dfe6f9f8e901cc2e17ab3fe76679fdf6583ddddc963486f95", func := "squint/squintlaw16.SettingsFrames", spec := "settingsFrames", unfollowed := true, recurses := true, named := ["squint/settings.rules"], apart := false, laid := [("squint/settings.rules", laid_squint_settings_rules)], narrowed := true }
def SettingsFramesUptoSaid : Prop := settingsFramesUptoRow.holds Tryd.pinned (OpenSpec.upto settingsFramesSpec)

/-- 'squintlaw16.SettingsBack', WHERE WHAT IT READS IS OF BULK AT MOST 1048576: true; the input reads as it did. -/
def settingsBackUptoRow : OpenClaim := { program := "ytfnggbnacdbcpaadoor", sum := "9e0da6f295f3d24dfe6f9f8e901cc2e17ab3fe76679fdf6583ddddc963486f95", func := "squint/squintlaw16.SettingsBack", spec := "settingsBack", named := ["squint/settings.rules"], apart := false, laid := [("squint/settings.rules", laid_squint_settings_rules)], narrowed := true }
def SettingsBackUptoSaid : Prop := settingsBackUptoRow.holds Tryd.pinned (OpenSpec.upto settingsBackSpec)

/-- 'squintlaw16.SettingsShares', WHERE WHAT IT READS IS OF BULK AT MOST 1048576: true; the input reads as it did. -/
def settingsSharesUptoRow : OpenClaim := { program := "ytfnggbnacdbcpaadoor", sum := "9e0da6f295f3d24dfe6f9f8e901cc2e17ab3fe76679fdf6583ddddc963486f95", func := "squint/squintlaw16.SettingsShares", spec := "settingsShares", named := ["squint/settings.rules"], apart := false, laid := [("squint/settings.rules", laid_squint_settings_rules)], narrowed := true }
def SettingsSharesUptoSaid : Prop := settingsSharesUptoRow.holds Tryd.pinned (OpenSpec.upto settingsSharesSpec)

/-- 'squintlaw16.SettingsLast', WHERE WHAT IT READS IS OF BULK AT MOST 1048576: true; the input reads as it did. -/
def settingsLastUptoRow : OpenClaim := { program := "ytfnggbnacdbcpaadoor", sum := "9e0da6f295f3d24dfe6f9f8e901cc2e17ab3fe76679fdf6583ddddc963486f95", func := "squint/squintlaw16.SettingsLast", spec := "settingsLast", named := ["squint/settings.rules"], apart := false, laid := [("squint/settings.rules", laid_squint_settings_rules)], narrowed := true }
def SettingsLastUptoSaid : Prop := settingsLastUptoRow.holds Tryd.pinned (OpenSpec.upto settingsLastSpec)

end Rows
end Go.Proofs.YtfnggbnacdbcpaaDoor
