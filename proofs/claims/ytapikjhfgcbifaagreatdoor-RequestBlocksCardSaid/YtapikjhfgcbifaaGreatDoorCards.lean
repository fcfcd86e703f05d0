/-
  DERIVED. GIVEN WITH THE SEED: THE CARDS: each row of YtapikjhfgcbifaaGreatDoorRows.lean that lists a variable, with what it lists TIED to the program's text (the seventh form; the later family's looks); each row that meets fmt, with fmt's text TOLD by the authors' own Lean function (tested against real Go, not proved from fmt's source: count such statements apart). THE CARD IS WHAT COUNTS. Prove the row's statement (the work); the ties are given (YtapikjhfgcbifaaGreatDoorTie.lean); close each card by the builder's one call (the guide's Derived/Test/ToyasCard.lean, 'card_holds'). Laid BY PROGRAM, IN A SANDBOX (cutbox-door.mjs). By AI agents, Wed Nov 11 2026. No macro, syntax, notation, axiom, sorry.
-/
import Derived.Test.YtapikjhfgcbifaaGreatDoorRows
import GoSem.ClaimSeven
namespace Go.Proofs.YtapikjhfgcbifaaGreatDoor
namespace Rows

/-- THE TIED CARD OF 'squintlaw22.RequestLines'. -/
def requestLinesCard : Claim7 := { stood := { row := requestLinesRow, standIns := [], harness := (true, "694de2e06bc17fd8c29beaa49cac72c5ba1b0570e7a05cde66fde14b7af46e2b"), looks := false }, kinds := [], alts := [], laidByText := true, laidKinds := [.data, .pinned], laidTests := true, laidLooks := .later }
def RequestLinesCardSaid : Prop := Claim7.holds Tryz.pinned (.plain (OpenSpec.ofChange requestLinesSpec)) requestLinesCard

/-- THE TIED CARD OF 'squintlaw22.RequestBlocks'. -/
def requestBlocksCard : Claim7 := { stood := { row := requestBlocksRow, standIns := [], harness := (true, "694de2e06bc17fd8c29beaa49cac72c5ba1b0570e7a05cde66fde14b7af46e2b"), looks := false }, kinds := [], alts := [], laidByText := true, laidKinds := [.data, .pinned], laidTests := true, laidLooks := .later }
def RequestBlocksCardSaid : Prop := Claim7.holds Tryz.pinned (.plain (OpenSpec.ofChange requestBlocksSpec)) requestBlocksCard

/-- THE TIED CARD OF 'squintlaw22.RequestResponses'. -/
def requestResponsesCard : Claim7 := { stood := { row := requestResponsesRow, standIns := [], harness := (true, "694de2e06bc17fd8c29beaa49cac72c5ba1b0570e7a05cde66fde14b7af46e2b"), looks := false }, kinds := [], alts := [], laidByText := true, laidKinds := [.data, .pinned], laidTests := true, laidLooks := .later }
def RequestResponsesCardSaid : Prop := Claim7.holds Tryz.pinned (.plain (OpenSpec.ofChange requestResponsesSpec)) requestResponsesCard

/-- THE TIED CARD OF 'squintlaw22.RequestTrailers'. -/
def requestTrailersCard : Claim7 := { stood := { row := requestTrailersRow, standIns := [], harness := (true, "694de2e06bc17fd8c29beaa49cac72c5ba1b0570e7a05cde66fde14b7af46e2b"), looks := false }, kinds := [], alts := [], laidByText := true, laidKinds := [.data, .pinned], laidTests := true, laidLooks := .later }
def RequestTrailersCardSaid : Prop := Claim7.holds Tryz.pinned (.plain (OpenSpec.ofChange requestTrailersSpec)) requestTrailersCard

/-- THE TIED CARD OF 'squintlaw22.RequestBack'. -/
def requestBackCard : Claim7 := { stood := { row := requestBackRow, standIns := [], harness := (true, "694de2e06bc17fd8c29beaa49cac72c5ba1b0570e7a05cde66fde14b7af46e2b"), looks := false }, kinds := [], alts := [], laidByText := true, laidKinds := [.data, .pinned], laidTests := true, laidLooks := .later }
def RequestBackCardSaid : Prop := Claim7.holds Tryz.pinned (.plain (OpenSpec.ofChange requestBackSpec)) requestBackCard

/-- THE TIED CARD OF 'squintlaw22.RequestSecret'. -/
def requestSecretCard : Claim7 := { stood := { row := requestSecretRow, standIns := [], harness := (true, "694de2e06bc17fd8c29beaa49cac72c5ba1b0570e7a05cde66fde14b7af46e2b"), looks := false }, kinds := [], alts := [], laidByText := true, laidKinds := [.data, .pinned], laidTests := true, laidLooks := .later }
def RequestSecretCardSaid : Prop := Claim7.holds Tryz.pinned (.plain (OpenSpec.ofChange requestSecretSpec)) requestSecretCard

/-- THE SECOND FORM's CARD OF 'squintlaw22.RequestLines'. -/
def requestLinesUptoCard : Claim7 := { stood := { row := requestLinesUptoRow, standIns := [], harness := (true, "694de2e06bc17fd8c29beaa49cac72c5ba1b0570e7a05cde66fde14b7af46e2b"), looks := false }, kinds := [], alts := [], laidByText := true, laidKinds := [.data, .pinned], laidTests := true, laidLooks := .later }
def RequestLinesUptoCardSaid : Prop := Claim7.holds Tryz.pinned (.plain (OpenSpec.upto requestLinesSpec)) requestLinesUptoCard

/-- THE SECOND FORM's CARD OF 'squintlaw22.RequestBlocks'. -/
def requestBlocksUptoCard : Claim7 := { stood := { row := requestBlocksUptoRow, standIns := [], harness := (true, "694de2e06bc17fd8c29beaa49cac72c5ba1b0570e7a05cde66fde14b7af46e2b"), looks := false }, kinds := [], alts := [], laidByText := true, laidKinds := [.data, .pinned], laidTests := true, laidLooks := .later }
def RequestBlocksUptoCardSaid : Prop := Claim7.holds Tryz.pinned (.plain (OpenSpec.upto requestBlocksSpec)) requestBlocksUptoCard

/-- THE SECOND FORM's CARD OF 'squintlaw22.RequestResponses'. -/
def requestResponsesUptoCard : Claim7 := { stood := { row := requestResponsesUptoRow, standIns := [], harness := (true, "694de2e06bc17fd8c29beaa49cac72c5ba1b0570e7a05cde66fde14b7af46e2b"), looks := false }, kinds := [], alts := [], laidByText := true, laidKinds := [.data, .pinned], laidTests := true, laidLooks := .later }
def RequestResponsesUptoCardSaid : Prop := Claim7.holds Tryz.pinned (.plain (OpenSpec.upto requestResponsesSpec)) requestResponsesUptoCard

/-- THE SECOND FORM's CARD OF 'squintlaw22.RequestTrailers'. -/
def requestTrailersUptoCard : Claim7 := { stood := { row := requestTrailersUptoRow, standIns := [], harness := (true, "694de2e06bc17fd8c29beaa49cac72c5ba1b0570e7a05cde66fde14b7af46e2b"), looks := false }, kinds := [], alts := [], laidByText := true, laidKinds := [.data, .pinned], laidTests := true, laidLooks := .later }
def RequestTrailersUptoCardSaid : Prop := Claim7.holds Tryz.pinned (.plain (OpenSpec.upto requestTrailersSpec)) requestTrailersUptoCard

/-- THE SECOND FORM's CARD OF 'squintlaw22.RequestBack'. -/
def requestBackUptoCard : Claim7 := { stood := { row := requestBackUptoRow, standIns := [], harness := (true, "694de2e06bc17fd8c29beaa49cac72c5ba1b0570e7a05cde66fde14b7af46e2b"), looks := false }, kinds := [], alts := [], laidByText := true, laidKinds := [.data, .pinned], laidTests := true, laidLooks := .later }
def RequestBackUptoCardSaid : Prop := Claim7.holds Tryz.pinned (.plain (OpenSpec.upto requestBackSpec)) requestBackUptoCard

/-- THE SECOND FORM's CARD OF 'squintlaw22.RequestSecret'. -/
def requestSecretUptoCard : Claim7 := { stood := { row := requestSecretUptoRow, standIns := [], harness := (true, "694de2e06bc17fd8c29beaa49cac72c5ba1b0570e7a05cde66fde14b7af46e2b"), looks := false }, kinds := [], alts := [], laidByText := true, laidKinds := [.data, .pinned], laidTests := true, laidLooks := .later }
def RequestSecretUptoCardSaid : Prop := Claim7.holds Tryz.pinned (.plain (OpenSpec.upto requestSecretSpec)) requestSecretUptoCard
end Rows
end Go.Proofs.YtapikjhfgcbifaaGreatDoor
