/-
  DERIVED. GIVEN WITH THE SEED: THE CARDS: each row of YtfnggbnacdbcpaaDoorRows.lean that lists a variable, with what it lists TIED to the program's text (the seventh form; the later family's looks); each row that meets fmt, with fmt's text TOLD by the authors' own Lean function (tested against real Go, not proved from fmt's source: count such statements apart). THE CARD IS WHAT COUNTS. Prove the row's statement (the work); the ties are given (YtfnggbnacdbcpaaDoorTie.lean); close each card by the builder's one call (the guide's Derived/Test/ToyasCard.lean, 'card_holds'). Laid BY PROGRAM, IN A SANDBOX (cutbox-door.mjs). By AI agents, Wed Nov 11 2026. No macro, syntax, notation, axiom, sorry.
-/
import Derived.Test.YtfnggbnacdbcpaaDoorRows
import GoSem.ClaimSeven
namespace Go.Proofs.YtfnggbnacdbcpaaDoor
namespace Rows

/-- THE TIED CARD OF 'squintlaw16.SettingsApply'. -/
def settingsApplyCard : Claim7 := { stood := { row := settingsApplyRow, standIns := [], harness := (true, "43686f7ba8cbed53fd2c73380703f4c1b561d244a8cd7efdf62b498692a02b04"), looks := false }, kinds := [], alts := [], laidByText := true, laidKinds := [.data], laidTests := true, laidLooks := .later }
def SettingsApplyCardSaid : Prop := Claim7.holds Tryd.pinned (.plain (OpenSpec.ofChange settingsApplySpec)) settingsApplyCard

/-- THE TIED CARD OF 'squintlaw16.SettingsFrames'. -/
def settingsFramesCard : Claim7 := { stood := { row := settingsFramesRow, standIns := [], harness := (true, "43686f7ba8cbed53fd2c73380703f4c1b561d244a8cd7efdf62b498692a02b04"), looks := false }, kinds := [], alts := [], laidByText := true, laidKinds := [.data], laidTests := true, laidLooks := .later }
def SettingsFramesCardSaid : Prop := Claim7.holds Tryd.pinned (.plain (OpenSpec.ofChange settingsFramesSpec)) settingsFramesCard

/-- THE TIED CARD OF 'squintlaw16.SettingsBack'. -/
def settingsBackCard : Claim7 := { stood := { row := settingsBackRow, standIns := [], harness := (true, "43686f7ba8cbed53fd2c73380703f4c1b561d244a8cd7efdf62b498692a02b04"), looks := false }, kinds := [], alts := [], laidByText := true, laidKinds := [.data], laidTests := true, laidLooks := .later }
def SettingsBackCardSaid : Prop := Claim7.holds Tryd.pinned (.plain (OpenSpec.ofChange settingsBackSpec)) settingsBackCard

/-- THE TIED CARD OF 'squintlaw16.SettingsShares'. -/
def settingsSharesCard : Claim7 := { stood := { row := settingsSharesRow, standIns := [], harness := (true, "43686f7ba8cbed53fd2c73380703f4c1b561d244a8cd7efdf62b498692a02b04"), looks := false }, kinds := [], alts := [], laidByText := true, laidKinds := [.data], laidTests := true, laidLooks := .later }
def SettingsSharesCardSaid : Prop := Claim7.holds Tryd.pinned (.plain (OpenSpec.ofChange settingsSharesSpec)) settingsSharesCard

/-- THE TIED CARD OF 'squintlaw16.SettingsLast'. -/
def settingsLastCard : Claim7 := { stood := { row := settingsLastRow, standIns := [], harness := (true, "43686f7ba8cbed53fd2c73380703f4c1b561d244a8cd7efdf62b498692a02b04"), looks := false }, kinds := [], alts := [], laidByText := true, laidKinds := [.data], laidTests := true, laidLooks := .later }
def SettingsLastCardSaid : Prop := Claim7.holds Tryd.pinned (.plain (OpenSpec.ofChange settingsLastSpec)) settingsLastCard

/-- THE SECOND FORM's CARD OF 'squintlaw16.SettingsApply'. -/
def settingsApplyUptoCard : Claim7 := { stood := { row := settingsApplyUptoRow, standIns := [], harness := (true, "43686f7ba8cbed53fd2c73380703f4c1b561d244a8cd7efdf62b498692a02b04"), looks := false }, kinds := [], alts := [], laidByText := true, laidKinds := [.data], laidTests := true, laidLooks := .later }
def SettingsApplyUptoCardSaid : Prop := Claim7.holds Tryd.pinned (.plain (OpenSpec.upto settingsApplySpec)) settingsApplyUptoCard

/-- THE SECOND FORM's CARD OF 'squintlaw16.SettingsFrames'. -/
def settingsFramesUptoCard : Claim7 := { stood := { row := settingsFramesUptoRow, standIns := [], harness := (true, "43686f7ba8cbed53fd2c73380703f4c1b561d244a8cd7efdf62b498692a02b04"), looks := false }, kinds := [], alts := [], laidByText := true, laidKinds := [.data], laidTests := true, laidLooks := .later }
def SettingsFramesUptoCardSaid : Prop := Claim7.holds Tryd.pinned (.plain (OpenSpec.upto settingsFramesSpec)) settingsFramesUptoCard

/-- THE SECOND FORM's CARD OF 'squintlaw16.SettingsBack'. -/
def settingsBackUptoCard : Claim7 := { stood := { row := settingsBackUptoRow, standIns := [], harness := (true, "43686f7ba8cbed53fd2c73380703f4c1b561d244a8cd7efdf62b498692a02b04"), looks := false }, kinds := [], alts := [], laidByText := true, laidKinds := [.data], laidTests := true, laidLooks := .later }
def SettingsBackUptoCardSaid : Prop := Claim7.holds Tryd.pinned (.plain (OpenSpec.upto settingsBackSpec)) settingsBackUptoCard

/-- THE SECOND FORM's CARD OF 'squintlaw16.SettingsShares'. -/
def settingsSharesUptoCard : Claim7 := { stood := { row := settingsSharesUptoRow, standIns := [], harness := (true, "43686f7ba8cbed53fd2c73380703f4c1b561d244a8cd7efdf62b498692a02b04"), looks := false }, kinds := [], alts := [], laidByText := true, laidKinds := [.data], laidTests := true, laidLooks := .later }
def SettingsSharesUptoCardSaid : Prop := Claim7.holds Tryd.pinned (.plain (OpenSpec.upto settingsSharesSpec)) settingsSharesUptoCard

/-- THE SECOND FORM's CARD OF 'squintlaw16.SettingsLast'. -/
def settingsLastUptoCard : Claim7 := { stood := { row := settingsLastUptoRow, standIns := [], harness := (true, "43686f7ba8cbed53fd2c73380703f4c1b561d244a8cd7efdf62b498692a02b04"), looks := false }, kinds := [], alts := [], laidByText := true, laidKinds := [.data], laidTests := true, laidLooks := .later }
def SettingsLastUptoCardSaid : Prop := Claim7.holds Tryd.pinned (.plain (OpenSpec.upto settingsLastSpec)) settingsLastUptoCard
end Rows
end Go.Proofs.YtfnggbnacdbcpaaDoor
