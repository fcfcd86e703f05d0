/-
  No cell of these rows narrows 'for every input' (looked for: loops, veiled, ifaces, maps, wideKeys, modest, calm, conditions, laid).
  DERIVED. THE GIVEN ROWS OF THIS SEAT. 6 by the template 'for every input the law returns true; each argument reads behind the call as it read before'; 0 by the template 'total and deterministic' (their statements: YtalojmebbccdnaaTotals.lean).
  GIVEN WITH THE SEED: the statements are not yours to turn. If you find one false, say at which input.
  Laid BY PROGRAM, IN A SANDBOX (cutbox-rows.mjs): the forced cells as the released guide's own fill.sh prints them over the translation 3c2c6e6c162d013f… (all of the seat's roots in one cut). By AI agents, Wed Nov 11 2026. No macro, syntax, notation, axiom, sorry.
-/
import Derived.Test.YtalojmebbccdnaaChecked
import GoSem.Claim
import GoSem.ClaimJoined
import GoSem.ClaimMapViews
import Derived.JoinedTies
import Derived.KernelRfl
namespace Go.Proofs.Ytalojmebbccdnaa
/- THE CELL 'sum', in the pinned program and in every row, IS THE sha256 OF THE DUMP (.gsa) THAT YtalojmebbccdnaaProg.lean LOADS. Nothing in Lean hashes anything: it is a label: what it is worth is what the hold of that sum in a sandbox is worth. -/
noncomputable def Try.pinned : Pinned := { name := "ytalojmebbccdnaa", sum := "3c2c6e6c162d013f4b00586c9d3b23734db60dbea2d2260a6b526f5d7f512636", checked := Try.checked }
namespace Rows
def none {H : Type} : Left H := { results := [], args := [] }

/-- 'squintlaw19.SlotsOwners': WHATEVER THE INPUT: true; the input reads as it did. -/
def slotsOwnersSpec : ChangeSpec := { name := "slotsOwners", fn := fun _ => fun
  | [d1, d2] => { results := [.lit (.bool true)], args := [d1, d2] }
  | _ => none }
def slotsOwnersRow : OpenClaim := { program := "ytalojmebbccdnaa", sum := "3c2c6e6c162d013f4b00586c9d3b23734db60dbea2d2260a6b526f5d7f512636", func := "squint/squintlaw19.SlotsOwners", spec := "slotsOwners", apart := false }
def SlotsOwnersSaid : Prop := slotsOwnersRow.holds Try.pinned (OpenSpec.ofChange slotsOwnersSpec)

/-- ITS FALSE NEIGHBOUR: 'it returns false'. Refute it at one input. -/
def slotsOwnersWrong : ChangeSpec := { name := "slotsOwners", fn := fun _ => fun
  | [d1, d2] => { results := [.lit (.bool false)], args := [d1, d2] }
  | _ => none }
def SlotsOwnersWrongFalsely : Prop := slotsOwnersRow.holds Try.pinned (OpenSpec.ofChange slotsOwnersWrong)

/-- 'squintlaw19.SlotsNext': WHATEVER THE INPUT: true; the input reads as it did. -/
def slotsNextSpec : ChangeSpec := { name := "slotsNext", fn := fun _ => fun
  | [d1, d2, d3] => { results := [.lit (.bool true)], args := [d1, d2, d3] }
  | _ => none }
def slotsNextRow : OpenClaim := { program := "ytalojmebbccdnaa", sum := "3c2c6e6c162d013f4b00586c9d3b23734db60dbea2d2260a6b526f5d7f512636", func := "squint/squintlaw19.SlotsNext", spec := "slotsNext", apart := false }
def SlotsNextSaid : Prop := slotsNextRow.holds Try.pinned (OpenSpec.ofChange slotsNextSpec)

/-- ITS FALSE NEIGHBOUR: 'it returns false'. Refute it at one input. -/
def slotsNextWrong : ChangeSpec := { name := "slotsNext", fn := fun _ => fun
  | [d1, d2, d3] => { results := [.lit (.bool false)], args := [d1, d2, d3] }
  | _ => none }
def SlotsNextWrongFalsely : Prop := slotsNextRow.holds Try.pinned (OpenSpec.ofChange slotsNextWrong)

/-- 'squintlaw19.SlotsBetween': WHATEVER THE INPUT: true; the input reads as it did. -/
def slotsBetweenSpec : ChangeSpec := { name := "slotsBetween", fn := fun _ => fun
  | [d1, d2, d3] => { results := [.lit (.bool true)], args := [d1, d2, d3] }
  | _ => none }
def slotsBetweenRow : OpenClaim := { program := "ytalojmebbccdnaa", sum := "3c2c6e6c162d013f4b00586c9d3b23734db60dbea2d2260a6b526f5d7f512636", func := "squint/squintlaw19.SlotsBetween", spec := "slotsBetween", apart := false }
def SlotsBetweenSaid : Prop := slotsBetweenRow.holds Try.pinned (OpenSpec.ofChange slotsBetweenSpec)

/-- ITS FALSE NEIGHBOUR: 'it returns false'. Refute it at one input. -/
def slotsBetweenWrong : ChangeSpec := { name := "slotsBetween", fn := fun _ => fun
  | [d1, d2, d3] => { results := [.lit (.bool false)], args := [d1, d2, d3] }
  | _ => none }
def SlotsBetweenWrongFalsely : Prop := slotsBetweenRow.holds Try.pinned (OpenSpec.ofChange slotsBetweenWrong)

/-- 'squintlaw19.SlotsEnough': WHATEVER THE INPUT: true; the input reads as it did. -/
def slotsEnoughSpec : ChangeSpec := { name := "slotsEnough", fn := fun _ => fun
  | [d] => { results := [.lit (.bool true)], args := [d] }
  | _ => none }
def slotsEnoughRow : OpenClaim := { program := "ytalojmebbccdnaa", sum := "3c2c6e6c162d013f4b00586c9d3b23734db60dbea2d2260a6b526f5d7f512636", func := "squint/squintlaw19.SlotsEnough", spec := "slotsEnough", apart := false }
def SlotsEnoughSaid : Prop := slotsEnoughRow.holds Try.pinned (OpenSpec.ofChange slotsEnoughSpec)

/-- ITS FALSE NEIGHBOUR: 'it returns false'. Refute it at one input. -/
def slotsEnoughWrong : ChangeSpec := { name := "slotsEnough", fn := fun _ => fun
  | [d] => { results := [.lit (.bool false)], args := [d] }
  | _ => none }
def SlotsEnoughWrongFalsely : Prop := slotsEnoughRow.holds Try.pinned (OpenSpec.ofChange slotsEnoughWrong)

/-- 'squintlaw19.SlotsTurns': WHATEVER THE INPUT: true; the input reads as it did. -/
def slotsTurnsSpec : ChangeSpec := { name := "slotsTurns", fn := fun _ => fun
  | [d] => { results := [.lit (.bool true)], args := [d] }
  | _ => none }
def slotsTurnsRow : OpenClaim := { program := "ytalojmebbccdnaa", sum := "3c2c6e6c162d013f4b00586c9d3b23734db60dbea2d2260a6b526f5d7f512636", func := "squint/squintlaw19.SlotsTurns", spec := "slotsTurns", unfollowed := true, recurses := true, apart := false }
def SlotsTurnsSaid : Prop := slotsTurnsRow.holds Try.pinned (OpenSpec.ofChange slotsTurnsSpec)

/-- ITS FALSE NEIGHBOUR: 'it returns false'. Refute it at one input. -/
def slotsTurnsWrong : ChangeSpec := { name := "slotsTurns", fn := fun _ => fun
  | [d] => { results := [.lit (.bool false)], args := [d] }
  | _ => none }
def SlotsTurnsWrongFalsely : Prop := slotsTurnsRow.holds Try.pinned (OpenSpec.ofChange slotsTurnsWrong)

/-- 'squintlaw19.SlotsRounds': WHATEVER THE INPUT: true; the input reads as it did. -/
def slotsRoundsSpec : ChangeSpec := { name := "slotsRounds", fn := fun _ => fun
  | [d1, d2] => { results := [.lit (.bool true)], args := [d1, d2] }
  | _ => none }
def slotsRoundsRow : OpenClaim := { program := "ytalojmebbccdnaa", sum := "3c2c6e6c162d013f4b00586c9d3b23734db60dbea2d2260a6b526f5d7f512636", func := "squint/squintlaw19.SlotsRounds", spec := "slotsRounds", apart := false }
def SlotsRoundsSaid : Prop := slotsRoundsRow.holds Try.pinned (OpenSpec.ofChange slotsRoundsSpec)

/-- ITS FALSE NEIGHBOUR: 'it returns false'. Refute it at one input. -/
def slotsRoundsWrong : ChangeSpec := { name := "slotsRounds", fn := fun _ => fun
  | [d1, d2] => { results := [.lit (.bool false)], args := [d1, d2] }
  | _ => none }
def SlotsRoundsWrongFalsely : Prop := slotsRoundsRow.holds Try.pinned (OpenSpec.ofChange slotsRoundsWrong)

/- THE SECOND FORM. 'bulk': how many values and letters a reading holds, each counted each time it is reached (what is shared counts as often as it is met; a slice's spare places count too). A statement '..UptoSaid' is the law's where the arguments, and the package variables that the reading takes, are together of bulk at most 1048576: NARROWER than '..Said'. Prove '..Said' where nothing that the law and all that it calls make is longer than what came in: it says more and counts as full. Else prove '..UptoSaid'. A law counts once. -/
mutual
def uptoBulk {H : Type} : DataW H → Nat
  | .lit (.string bytes) => bytes.length + 1
  | .lit _ => 1
  | .nil => 1
  | .ptr d => uptoBulk d + 1
  | .slice elems spare => uptoBulkAll elems + uptoBulkAll spare + 1
  | .agg parts => uptoBulkAll parts + 1
  | .iface _ d => uptoBulk d + 1
  | .map entries => uptoBulkEntries entries + 1
  | .held _ => 1
def uptoBulkAll {H : Type} : List (DataW H) → Nat
  | [] => 0
  | d :: r => uptoBulk d + uptoBulkAll r
def uptoBulkEntries {H : Type} : List (Lit × DataW H) → Nat
  | [] => 0
  | x :: r => uptoBulkEntry x + uptoBulkEntries r
def uptoBulkEntry {H : Type} : Lit × DataW H → Nat
  | (.string bytes, d) => bytes.length + uptoBulk d + 1
  | (_, d) => uptoBulk d + 1
 end
def uptoSmall : (H : Type) → List (DataW H) → Bool := fun _ ds => decide (uptoBulkAll ds ≤ 1048576)
def OpenSpec.upto (s : _root_.Go.ChangeSpec) : _root_.Go.OpenSpec := { _root_.Go.OpenSpec.ofChange s with cond := some uptoSmall }

/-- 'squintlaw19.SlotsOwners', WHERE WHAT IT READS IS OF BULK AT MOST 1048576: true; the input reads as it did. -/
def slotsOwnersUptoRow : OpenClaim := { program := "ytalojmebbccdnaa", sum := "3c2c6e6c162d013f4b00586c9d3b23734db60dbea2d2260a6b526f5d7f512636", func := "squint/squintlaw19.SlotsOwners", spec := "slotsOwners", apart := false, narrowed := true }
def SlotsOwnersUptoSaid : Prop := slotsOwnersUptoRow.holds Try.pinned (OpenSpec.upto slotsOwnersSpec)

/-- 'squintlaw19.SlotsNext', WHERE WHAT IT READS IS OF BULK AT MOST 1048576: true; the input reads as it did. -/
def slotsNextUptoRow : OpenClaim := { program := "ytalojmebbccdnaa", sum := "3c2c6e6c162d013f4b00586c9d3b23734db60dbea2d2260a6b526f5d7f512636", func := "squint/squintlaw19.SlotsNext", spec := "slotsNext", apart := false, narrowed := true }
def SlotsNextUptoSaid : Prop := slotsNextUptoRow.holds Try.pinned (OpenSpec.upto slotsNextSpec)

/-- 'squintlaw19.SlotsBetween', WHERE WHAT IT READS IS OF BULK AT MOST 1048576: true; the input reads as it did. -/
def slotsBetweenUptoRow : OpenClaim := { program := "ytalojmebbccdnaa", sum := "3c2c6e6c162d013f4b00586c9d3b23734db60dbea2d2260a6b526f5d7f512636", func := "squint/squintlaw19.SlotsBetween", spec := "slotsBetween", apart := false, narrowed := true }
def SlotsBetweenUptoSaid : Prop := slotsBetweenUptoRow.holds Try.pinned (OpenSpec.upto slotsBetweenSpec)

/-- 'squintlaw19.SlotsEnough', WHERE WHAT IT READS IS OF BULK AT MOST 1048576: true; the input reads as it did. -/
def slotsEnoughUptoRow : OpenClaim := { program := "ytalojmebbccdnaa", sum := "3c2c6e6c162d013f4b00586c9d3b23734db60dbea2d2260a6b526f5d7f512636", func := "squint/squintlaw19.SlotsEnough", spec := "slotsEnough", apart := false, narrowed := true }
def SlotsEnoughUptoSaid : Prop := slotsEnoughUptoRow.holds Try.pinned (OpenSpec.upto slotsEnoughSpec)

/-- 'squintlaw19.SlotsTurns', WHERE WHAT IT READS IS OF BULK AT MOST 1048576: true; the input reads as it did. -/
def slotsTurnsUptoRow : OpenClaim := { program := "ytalojmebbccdnaa", sum := "3c2c6e6c162d013f4b00586c9d3b23734db60dbea2d2260a6b526f5d7f512636", func := "squint/squintlaw19.SlotsTurns", spec := "slotsTurns", unfollowed := true, recurses := true, apart := false, narrowed := true }
def SlotsTurnsUptoSaid : Prop := slotsTurnsUptoRow.holds Try.pinned (OpenSpec.upto slotsTurnsSpec)

/-- 'squintlaw19.SlotsRounds', WHERE WHAT IT READS IS OF BULK AT MOST 1048576: true; the input reads as it did. -/
def slotsRoundsUptoRow : OpenClaim := { program := "ytalojmebbccdnaa", sum := "3c2c6e6c162d013f4b00586c9d3b23734db60dbea2d2260a6b526f5d7f512636", func := "squint/squintlaw19.SlotsRounds", spec := "slotsRounds", apart := false, narrowed := true }
def SlotsRoundsUptoSaid : Prop := slotsRoundsUptoRow.holds Try.pinned (OpenSpec.upto slotsRoundsSpec)

end Rows
end Go.Proofs.Ytalojmebbccdnaa
