/-
  DERIVED. GIVEN WITH THE SEED: THE CARDS: each row of YtmeeofplpffboaaDoorRows.lean that lists a variable, with what it lists TIED to the program's text (the seventh form; the later family's looks); each row that meets fmt, with fmt's text TOLD by the authors' own Lean function (tested against real Go, not proved from fmt's source: count such statements apart). THE CARD IS WHAT COUNTS. Prove the row's statement (the work); the ties are given (YtmeeofplpffboaaDoorTie.lean); close each card by the builder's one call (the guide's Derived/Test/ToyasCard.lean, 'card_holds'). Laid BY PROGRAM, IN A SANDBOX (cutbox-door.mjs). By AI agents, Wed Nov 11 2026. No macro, syntax, notation, axiom, sorry.
-/
import Derived.Test.YtmeeofplpffboaaDoorRows
import GoSem.ClaimSeven
namespace Go.Proofs.YtmeeofplpffboaaDoor
namespace Rows

/-- THE TIED CARD OF 'squintlaw21.CleanWords'. -/
def cleanWordsCard : Claim7 := { stood := { row := cleanWordsRow, standIns := [], harness := (true, "c86882206aaf9ffe360a50921f4db337c42e76c69fd5ed20895483a5895cdaf0"), looks := false }, kinds := [], alts := [], laidByText := true, laidKinds := [.data, .pinned], laidTests := true, laidLooks := .later }
def CleanWordsCardSaid : Prop := Claim7.holds Tryd.pinned (.plain (OpenSpec.ofChange cleanWordsSpec)) cleanWordsCard

/-- THE TIED CARD OF 'squintlaw21.CleanFields'. -/
def cleanFieldsCard : Claim7 := { stood := { row := cleanFieldsRow, standIns := [], harness := (true, "c86882206aaf9ffe360a50921f4db337c42e76c69fd5ed20895483a5895cdaf0"), looks := false }, kinds := [], alts := [], laidByText := true, laidKinds := [.data, .pinned], laidTests := true, laidLooks := .later }
def CleanFieldsCardSaid : Prop := Claim7.holds Tryd.pinned (.plain (OpenSpec.ofChange cleanFieldsSpec)) cleanFieldsCard

/-- THE TIED CARD OF 'squintlaw21.CleanChecks'. -/
def cleanChecksCard : Claim7 := { stood := { row := cleanChecksRow, standIns := [], harness := (true, "c86882206aaf9ffe360a50921f4db337c42e76c69fd5ed20895483a5895cdaf0"), looks := false }, kinds := [], alts := [], laidByText := true, laidKinds := [.data, .pinned], laidTests := true, laidLooks := .later }
def CleanChecksCardSaid : Prop := Claim7.holds Tryd.pinned (.plain (OpenSpec.ofChange cleanChecksSpec)) cleanChecksCard

/-- THE TIED CARD OF 'squintlaw21.CleanLower'. -/
def cleanLowerCard : Claim7 := { stood := { row := cleanLowerRow, standIns := [], harness := (true, "c86882206aaf9ffe360a50921f4db337c42e76c69fd5ed20895483a5895cdaf0"), looks := false }, kinds := [], alts := [], laidByText := true, laidKinds := [.data, .pinned], laidTests := true, laidLooks := .later }
def CleanLowerCardSaid : Prop := Claim7.holds Tryd.pinned (.plain (OpenSpec.ofChange cleanLowerSpec)) cleanLowerCard

/-- THE TIED CARD OF 'squintlaw21.CleanParts'. -/
def cleanPartsCard : Claim7 := { stood := { row := cleanPartsRow, standIns := [], harness := (true, "c86882206aaf9ffe360a50921f4db337c42e76c69fd5ed20895483a5895cdaf0"), looks := false }, kinds := [], alts := [], laidByText := true, laidKinds := [.data, .pinned], laidTests := true, laidLooks := .later }
def CleanPartsCardSaid : Prop := Claim7.holds Tryd.pinned (.plain (OpenSpec.ofChange cleanPartsSpec)) cleanPartsCard

/-- THE SECOND FORM's CARD OF 'squintlaw21.CleanWords'. -/
def cleanWordsUptoCard : Claim7 := { stood := { row := cleanWordsUptoRow, standIns := [], harness := (true, "c86882206aaf9ffe360a50921f4db337c42e76c69fd5ed20895483a5895cdaf0"), looks := false }, kinds := [], alts := [], laidByText := true, laidKinds := [.data, .pinned], laidTests := true, laidLooks := .later }
def CleanWordsUptoCardSaid : Prop := Claim7.holds Tryd.pinned (.plain (OpenSpec.upto cleanWordsSpec)) cleanWordsUptoCard

/-- THE SECOND FORM's CARD OF 'squintlaw21.CleanFields'. -/
def cleanFieldsUptoCard : Claim7 := { stood := { row := cleanFieldsUptoRow, standIns := [], harness := (true, "c86882206aaf9ffe360a50921f4db337c42e76c69fd5ed20895483a5895cdaf0"), looks := false }, kinds := [], alts := [], laidByText := true, laidKinds := [.data, .pinned], laidTests := true, laidLooks := .later }
def CleanFieldsUptoCardSaid : Prop := Claim7.holds Tryd.pinned (.plain (OpenSpec.upto cleanFieldsSpec)) cleanFieldsUptoCard

/-- THE SECOND FORM's CARD OF 'squintlaw21.CleanChecks'. -/
def cleanChecksUptoCard : Claim7 := { stood := { row := cleanChecksUptoRow, standIns := [], harness := (true, "c86882206aaf9ffe360a50921f4db337c42e76c69fd5ed20895483a5895cdaf0"), looks := false }, kinds := [], alts := [], laidByText := true, laidKinds := [.data, .pinned], laidTests := true, laidLooks := .later }
def CleanChecksUptoCardSaid : Prop := Claim7.holds Tryd.pinned (.plain (OpenSpec.upto cleanChecksSpec)) cleanChecksUptoCard

/-- THE SECOND FORM's CARD OF 'squintlaw21.CleanLower'. -/
def cleanLowerUptoCard : Claim7 := { stood := { row := cleanLowerUptoRow, standIns := [], harness := (true, "c86882206aaf9ffe360a50921f4db337c42e76c69fd5ed20895483a5895cdaf0"), looks := false }, kinds := [], alts := [], laidByText := true, laidKinds := [.data, .pinned], laidTests := true, laidLooks := .later }
def CleanLowerUptoCardSaid : Prop := Claim7.holds Tryd.pinned (.plain (OpenSpec.upto cleanLowerSpec)) cleanLowerUptoCard

/-- THE SECOND FORM's CARD OF 'squintlaw21.CleanParts'. -/
def cleanPartsUptoCard : Claim7 := { stood := { row := cleanPartsUptoRow, standIns := [], harness := (true, "c86882206aaf9ffe360a50921f4db337c42e76c69fd5ed20895483a5895cdaf0"), looks := false }, kinds := [], alts := [], laidByText := true, laidKinds := [.data, .pinned], laidTests := true, laidLooks := .later }
def CleanPartsUptoCardSaid : Prop := Claim7.holds Tryd.pinned (.plain (OpenSpec.upto cleanPartsSpec)) cleanPartsUptoCard
end Rows
end Go.Proofs.YtmeeofplpffboaaDoor
