/-
  No cell of these rows narrows 'for every input' (looked for: loops, veiled, ifaces, maps, wideKeys, modest, calm, conditions, laid).
  DERIVED. THE GIVEN ROWS OF THIS SEAT. 5 by the template 'for every input the law returns true; each argument reads behind the call as it read before'; 0 by the template 'total and deterministic' (their statements: YtjefjpabihmfeaaTotals.lean).
  GIVEN WITH THE SEED: the statements are not yours to turn. If you find one false, say at which input.
  Laid BY PROGRAM, IN A SANDBOX (cutbox-rows.mjs): the forced cells as the released guide's own fill.sh prints them over the translation e0553fd98299c329… (all of the seat's roots in one cut). By AI agents, Wed Nov 11 2026. No macro, syntax, notation, axiom, sorry.
-/
import Derived.Test.YtjefjpabihmfeaaChecked
import GoSem.Claim
import GoSem.ClaimJoined
import GoSem.ClaimMapViews
import Derived.JoinedTies
import Derived.KernelRfl
namespace Go.Proofs.Ytjefjpabihmfeaa
/- THE CELL 'sum', in the pinned program and in every row, IS THE sha256 OF THE DUMP (.gsa) THAT YtjefjpabihmfeaaProg.lean LOADS. Nothing in Lean hashes anything: it is a label: what it is worth is what the hold of that sum in a sandbox is worth. -/
noncomputable def Try.pinned : Pinned := { name := "ytjefjpabihmfeaa", sum := "e0553fd98299c3291425022c9aabe5ce8678931823f383c5f22b73544359f044", checked := Try.checked }
namespace Rows
def none {H : Type} : Left H := { results := [], args := [] }

/-- 'squintlaw03.PrefixEncodes': WHATEVER THE INPUT: true; the input reads as it did. -/
def prefixEncodesSpec : ChangeSpec := { name := "prefixEncodes", fn := fun _ => fun
  | [d1, d2, d3] => { results := [.lit (.bool true)], args := [d1, d2, d3] }
  | _ => none }
def prefixEncodesRow : OpenClaim := { program := "ytjefjpabihmfeaa", sum := "e0553fd98299c3291425022c9aabe5ce8678931823f383c5f22b73544359f044", func := "squint/squintlaw03.PrefixEncodes", spec := "prefixEncodes", apart := false }
def PrefixEncodesSaid : Prop := prefixEncodesRow.holds Try.pinned (OpenSpec.ofChange prefixEncodesSpec)

/-- ITS FALSE NEIGHBOUR: 'it returns false'. Refute it at one input. -/
def prefixEncodesWrong : ChangeSpec := { name := "prefixEncodes", fn := fun _ => fun
  | [d1, d2, d3] => { results := [.lit (.bool false)], args := [d1, d2, d3] }
  | _ => none }
def PrefixEncodesWrongFalsely : Prop := prefixEncodesRow.holds Try.pinned (OpenSpec.ofChange prefixEncodesWrong)

/-- 'squintlaw03.PrefixDecodes': WHATEVER THE INPUT: true; the input reads as it did. -/
def prefixDecodesSpec : ChangeSpec := { name := "prefixDecodes", fn := fun _ => fun
  | [d1, d2] => { results := [.lit (.bool true)], args := [d1, d2] }
  | _ => none }
def prefixDecodesRow : OpenClaim := { program := "ytjefjpabihmfeaa", sum := "e0553fd98299c3291425022c9aabe5ce8678931823f383c5f22b73544359f044", func := "squint/squintlaw03.PrefixDecodes", spec := "prefixDecodes", apart := false }
def PrefixDecodesSaid : Prop := prefixDecodesRow.holds Try.pinned (OpenSpec.ofChange prefixDecodesSpec)

/-- ITS FALSE NEIGHBOUR: 'it returns false'. Refute it at one input. -/
def prefixDecodesWrong : ChangeSpec := { name := "prefixDecodes", fn := fun _ => fun
  | [d1, d2] => { results := [.lit (.bool false)], args := [d1, d2] }
  | _ => none }
def PrefixDecodesWrongFalsely : Prop := prefixDecodesRow.holds Try.pinned (OpenSpec.ofChange prefixDecodesWrong)

/-- 'squintlaw03.PrefixBehind': WHATEVER THE INPUT: true; the input reads as it did. -/
def prefixBehindSpec : ChangeSpec := { name := "prefixBehind", fn := fun _ => fun
  | [d1, d2, d3] => { results := [.lit (.bool true)], args := [d1, d2, d3] }
  | _ => none }
def prefixBehindRow : OpenClaim := { program := "ytjefjpabihmfeaa", sum := "e0553fd98299c3291425022c9aabe5ce8678931823f383c5f22b73544359f044", func := "squint/squintlaw03.PrefixBehind", spec := "prefixBehind", apart := false }
def PrefixBehindSaid : Prop := prefixBehindRow.holds Try.pinned (OpenSpec.ofChange prefixBehindSpec)

/-- ITS FALSE NEIGHBOUR: 'it returns false'. Refute it at one input. -/
def prefixBehindWrong : ChangeSpec := { name := "prefixBehind", fn := fun _ => fun
  | [d1, d2, d3] => { results := [.lit (.bool false)], args := [d1, d2, d3] }
  | _ => none }
def PrefixBehindWrongFalsely : Prop := prefixBehindRow.holds Try.pinned (OpenSpec.ofChange prefixBehindWrong)

/-- 'squintlaw03.PrefixMarks': WHATEVER THE INPUT: true; the input reads as it did. -/
def prefixMarksSpec : ChangeSpec := { name := "prefixMarks", fn := fun _ => fun
  | [d1, d2] => { results := [.lit (.bool true)], args := [d1, d2] }
  | _ => none }
def prefixMarksRow : OpenClaim := { program := "ytjefjpabihmfeaa", sum := "e0553fd98299c3291425022c9aabe5ce8678931823f383c5f22b73544359f044", func := "squint/squintlaw03.PrefixMarks", spec := "prefixMarks", apart := false }
def PrefixMarksSaid : Prop := prefixMarksRow.holds Try.pinned (OpenSpec.ofChange prefixMarksSpec)

/-- ITS FALSE NEIGHBOUR: 'it returns false'. Refute it at one input. -/
def prefixMarksWrong : ChangeSpec := { name := "prefixMarks", fn := fun _ => fun
  | [d1, d2] => { results := [.lit (.bool false)], args := [d1, d2] }
  | _ => none }
def PrefixMarksWrongFalsely : Prop := prefixMarksRow.holds Try.pinned (OpenSpec.ofChange prefixMarksWrong)

/-- 'squintlaw03.PrefixGrows': WHATEVER THE INPUT: true; the input reads as it did. -/
def prefixGrowsSpec : ChangeSpec := { name := "prefixGrows", fn := fun _ => fun
  | [d1, d2, d3] => { results := [.lit (.bool true)], args := [d1, d2, d3] }
  | _ => none }
def prefixGrowsRow : OpenClaim := { program := "ytjefjpabihmfeaa", sum := "e0553fd98299c3291425022c9aabe5ce8678931823f383c5f22b73544359f044", func := "squint/squintlaw03.PrefixGrows", spec := "prefixGrows", apart := false }
def PrefixGrowsSaid : Prop := prefixGrowsRow.holds Try.pinned (OpenSpec.ofChange prefixGrowsSpec)

/-- ITS FALSE NEIGHBOUR: 'it returns false'. Refute it at one input. -/
def prefixGrowsWrong : ChangeSpec := { name := "prefixGrows", fn := fun _ => fun
  | [d1, d2, d3] => { results := [.lit (.bool false)], args := [d1, d2, d3] }
  | _ => none }
def PrefixGrowsWrongFalsely : Prop := prefixGrowsRow.holds Try.pinned (OpenSpec.ofChange prefixGrowsWrong)

/- THE SECOND FORM. 'bulk': how many values and letters a reading holds, each counted each time it is reached (what is shared counts as often as it is met; a slice's spare places count too). A statement '..UptoSaid' is the law's where the arguments, and the package variables that the reading takes, are together of bulk at most 1048576: NARROWER than '..Said'. Prove '..Said' where nothing that the law and all that it calls make is longer than what came in: it says more and counts as full. Else prove '..UptoSaid'. A law counts once. -/
mutual
def uptoBulk {H : Type} : DataW H → Nat
  | .lit (.string bytes) => bytes.length + 1
  | .lit _ => 1
  | .nil => 1
  | .ptr d => uptoBulk d + 1
  | .slice elems spare => uptoBulkAll elems + uptoBulkAll spare + 1
  | .agg parts => uptoBulkAll parts + 1
  | .iface _ d => uptoBulk d + 1
  | .map entries => uptoBulkEntries entries + 1
  | .held _ => 1
def uptoBulkAll {H : Type} : List (DataW H) → Nat
  | [] => 0
  | d :: r => uptoBulk d + uptoBulkAll r
def uptoBulkEntries {H : Type} : List (Lit × DataW H) → Nat
  | [] => 0
  | x :: r => uptoBulkEntry x + uptoBulkEntries r
def uptoBulkEntry {H : Type} : Lit × DataW H → Nat
  | (.string bytes, d) => bytes.length + uptoBulk d + 1
  | (_, d) => uptoBulk d + 1
 end
def uptoSmall : (H : Type) → List (DataW H) → Bool := fun _ ds => decide (uptoBulkAll ds ≤ 1048576)
def OpenSpec.upto (s : _root_.Go.ChangeSpec) : _root_.Go.OpenSpec := { _root_.Go.OpenSpec.ofChange s with cond := some uptoSmall }

/-- 'squintlaw03.PrefixEncodes', WHERE WHAT IT READS IS OF BULK AT MOST 1048576: true; the input reads as it did. -/
def prefixEncodesUptoRow : OpenClaim := { program := "ytjefjpabihmfeaa", sum := "e0553fd98299c3291425022c9aabe5ce8678931823f383c5f22b73544359f044", func := "squint/squintlaw03.PrefixEncodes", spec := "prefixEncodes", apart := false, narrowed := true }
def PrefixEncodesUptoSaid : Prop := prefixEncodesUptoRow.holds Try.pinned (OpenSpec.upto prefixEncodesSpec)

/-- 'squintlaw03.PrefixDecodes', WHERE WHAT IT READS IS OF BULK AT MOST 1048576: true; the input reads as it did. -/
def prefixDecodesUptoRow : OpenClaim := { program := "ytjefjpabihmfeaa", sum := "e0553fd98299c3291425022c9aabe5ce8678931823f383c5f22b73544359f044", func := "squint/squintlaw03.PrefixDecodes", spec := "prefixDecodes", apart := false, narrowed := true }
def PrefixDecodesUptoSaid : Prop := prefixDecodesUptoRow.holds Try.pinned (OpenSpec.upto prefixDecodesSpec)

/-- 'squintlaw03.PrefixBehind', WHERE WHAT IT READS IS OF BULK AT MOST 1048576: true; the input reads as it did. -/
def prefixBehindUptoRow : OpenClaim := { program := "ytjefjpabihmfeaa", sum := "e0553fd98299c3291425022c9aabe5ce8678931823f383c5f22b73544359f044", func := "squint/squintlaw03.PrefixBehind", spec := "prefixBehind", apart := false, narrowed := true }
def PrefixBehindUptoSaid : Prop := prefixBehindUptoRow.holds Try.pinned (OpenSpec.upto prefixBehindSpec)

/-- 'squintlaw03.PrefixMarks', WHERE WHAT IT READS IS OF BULK AT MOST 1048576: true; the input reads as it did. -/
def prefixMarksUptoRow : OpenClaim := { program := "ytjefjpabihmfeaa", sum := "e0553fd98299c3291425022c9aabe5ce8678931823f383c5f22b73544359f044", func := "squint/squintlaw03.PrefixMarks", spec := "prefixMarks", apart := false, narrowed := true }
def PrefixMarksUptoSaid : Prop := prefixMarksUptoRow.holds Try.pinned (OpenSpec.upto prefixMarksSpec)

/-- 'squintlaw03.PrefixGrows', WHERE WHAT IT READS IS OF BULK AT MOST 1048576: true; the input reads as it did. -/
def prefixGrowsUptoRow : OpenClaim := { program := "ytjefjpabihmfeaa", sum := "e0553fd98299c3291425022c9aabe5ce8678931823f383c5f22b73544359f044", func := "squint/squintlaw03.PrefixGrows", spec := "prefixGrows", apart := false, narrowed := true }
def PrefixGrowsUptoSaid : Prop := prefixGrowsUptoRow.holds Try.pinned (OpenSpec.upto prefixGrowsSpec)

end Rows
end Go.Proofs.Ytjefjpabihmfeaa
