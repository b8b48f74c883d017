/-
  No cell of these rows narrows 'for every input' (looked for: loops, veiled, ifaces, maps, wideKeys, modest, calm, conditions, laid).
  DERIVED. THE GIVEN ROWS OF THIS SEAT. 7 by the template 'for every input the law returns true; each argument reads behind the call as it read before'; 0 by the template 'total and deterministic' (their statements: YtnddlehhgholhaaTotals.lean).
  GIVEN WITH THE SEED: the statements are not yours to turn. If you find one false, say at which input.
  Laid BY PROGRAM, IN A SANDBOX (cutbox-rows.mjs): the forced cells as the released guide's own fill.sh prints them over the translation e2a0f0691e6fa24a… (all of the seat's roots in one cut). By AI agents, Wed Nov 11 2026. No macro, syntax, notation, axiom, sorry.
-/
import Derived.Test.YtnddlehhgholhaaChecked
import GoSem.Claim
import GoSem.ClaimJoined
import GoSem.ClaimMapViews
import Derived.JoinedTies
import Derived.KernelRfl
namespace Go.Proofs.Ytnddlehhgholhaa
/- THE CELL 'sum', in the pinned program and in every row, IS THE sha256 OF THE DUMP (.gsa) THAT YtnddlehhgholhaaProg.lean LOADS. Nothing in Lean hashes anything: it is a label: what it is worth is what the hold of that sum in a sandbox is worth. -/
noncomputable def Try.pinned : Pinned := { name := "ytnddlehhgholhaa", sum := "e2a0f0691e6fa24ac268944349ed71daef2ebd117f76bdd29357ceef360cbafb", checked := Try.checked }
namespace Rows
def none {H : Type} : Left H := { results := [], args := [] }

/-- 'mezzotintlaw.StuffTells': WHATEVER THE INPUT: true; the input reads as it did. -/
def stuffTellsSpec : ChangeSpec := { name := "stuffTells", fn := fun _ => fun
  | [d] => { results := [.lit (.bool true)], args := [d] }
  | _ => none }
def stuffTellsRow : OpenClaim := { program := "ytnddlehhgholhaa", sum := "e2a0f0691e6fa24ac268944349ed71daef2ebd117f76bdd29357ceef360cbafb", func := "mezzotint/mezzotintlaw.StuffTells", spec := "stuffTells", apart := false }
def StuffTellsSaid : Prop := stuffTellsRow.holds Try.pinned (OpenSpec.ofChange stuffTellsSpec)

/-- ITS FALSE NEIGHBOUR: 'it returns false'. Refute it at one input. -/
def stuffTellsWrong : ChangeSpec := { name := "stuffTells", fn := fun _ => fun
  | [d] => { results := [.lit (.bool false)], args := [d] }
  | _ => none }
def StuffTellsWrongFalsely : Prop := stuffTellsRow.holds Try.pinned (OpenSpec.ofChange stuffTellsWrong)

/-- 'mezzotintlaw.StuffSplits': WHATEVER THE INPUT: true; the input reads as it did. -/
def stuffSplitsSpec : ChangeSpec := { name := "stuffSplits", fn := fun _ => fun
  | [d] => { results := [.lit (.bool true)], args := [d] }
  | _ => none }
def stuffSplitsRow : OpenClaim := { program := "ytnddlehhgholhaa", sum := "e2a0f0691e6fa24ac268944349ed71daef2ebd117f76bdd29357ceef360cbafb", func := "mezzotint/mezzotintlaw.StuffSplits", spec := "stuffSplits", apart := false }
def StuffSplitsSaid : Prop := stuffSplitsRow.holds Try.pinned (OpenSpec.ofChange stuffSplitsSpec)

/-- ITS FALSE NEIGHBOUR: 'it returns false'. Refute it at one input. -/
def stuffSplitsWrong : ChangeSpec := { name := "stuffSplits", fn := fun _ => fun
  | [d] => { results := [.lit (.bool false)], args := [d] }
  | _ => none }
def StuffSplitsWrongFalsely : Prop := stuffSplitsRow.holds Try.pinned (OpenSpec.ofChange stuffSplitsWrong)

/-- 'mezzotintkeep.StuffBack': WHATEVER THE INPUT: true; the input reads as it did. -/
def stuffBackSpec : ChangeSpec := { name := "stuffBack", fn := fun _ => fun
  | [d] => { results := [.lit (.bool true)], args := [d] }
  | _ => none }
def stuffBackRow : OpenClaim := { program := "ytnddlehhgholhaa", sum := "e2a0f0691e6fa24ac268944349ed71daef2ebd117f76bdd29357ceef360cbafb", func := "mezzotint/mezzotintkeep.StuffBack", spec := "stuffBack", apart := false }
def StuffBackSaid : Prop := stuffBackRow.holds Try.pinned (OpenSpec.ofChange stuffBackSpec)

/-- ITS FALSE NEIGHBOUR: 'it returns false'. Refute it at one input. -/
def stuffBackWrong : ChangeSpec := { name := "stuffBack", fn := fun _ => fun
  | [d] => { results := [.lit (.bool false)], args := [d] }
  | _ => none }
def StuffBackWrongFalsely : Prop := stuffBackRow.holds Try.pinned (OpenSpec.ofChange stuffBackWrong)

/-- 'mezzotintkeep.StuffAgain': WHATEVER THE INPUT: true; the input reads as it did. -/
def stuffAgainSpec : ChangeSpec := { name := "stuffAgain", fn := fun _ => fun
  | [d] => { results := [.lit (.bool true)], args := [d] }
  | _ => none }
def stuffAgainRow : OpenClaim := { program := "ytnddlehhgholhaa", sum := "e2a0f0691e6fa24ac268944349ed71daef2ebd117f76bdd29357ceef360cbafb", func := "mezzotint/mezzotintkeep.StuffAgain", spec := "stuffAgain", apart := false }
def StuffAgainSaid : Prop := stuffAgainRow.holds Try.pinned (OpenSpec.ofChange stuffAgainSpec)

/-- ITS FALSE NEIGHBOUR: 'it returns false'. Refute it at one input. -/
def stuffAgainWrong : ChangeSpec := { name := "stuffAgain", fn := fun _ => fun
  | [d] => { results := [.lit (.bool false)], args := [d] }
  | _ => none }
def StuffAgainWrongFalsely : Prop := stuffAgainRow.holds Try.pinned (OpenSpec.ofChange stuffAgainWrong)

/-- 'mezzotintkeep.SplitBack': WHATEVER THE INPUT: true; the input reads as it did. -/
def splitBackSpec : ChangeSpec := { name := "splitBack", fn := fun _ => fun
  | [d] => { results := [.lit (.bool true)], args := [d] }
  | _ => none }
def splitBackRow : OpenClaim := { program := "ytnddlehhgholhaa", sum := "e2a0f0691e6fa24ac268944349ed71daef2ebd117f76bdd29357ceef360cbafb", func := "mezzotint/mezzotintkeep.SplitBack", spec := "splitBack", apart := false }
def SplitBackSaid : Prop := splitBackRow.holds Try.pinned (OpenSpec.ofChange splitBackSpec)

/-- ITS FALSE NEIGHBOUR: 'it returns false'. Refute it at one input. -/
def splitBackWrong : ChangeSpec := { name := "splitBack", fn := fun _ => fun
  | [d] => { results := [.lit (.bool false)], args := [d] }
  | _ => none }
def SplitBackWrongFalsely : Prop := splitBackRow.holds Try.pinned (OpenSpec.ofChange splitBackWrong)

/-- 'mezzotintkeep.StuffJoins': WHATEVER THE INPUT: true; the input reads as it did. -/
def stuffJoinsSpec : ChangeSpec := { name := "stuffJoins", fn := fun _ => fun
  | [d1, d2] => { results := [.lit (.bool true)], args := [d1, d2] }
  | _ => none }
def stuffJoinsRow : OpenClaim := { program := "ytnddlehhgholhaa", sum := "e2a0f0691e6fa24ac268944349ed71daef2ebd117f76bdd29357ceef360cbafb", func := "mezzotint/mezzotintkeep.StuffJoins", spec := "stuffJoins", apart := false }
def StuffJoinsSaid : Prop := stuffJoinsRow.holds Try.pinned (OpenSpec.ofChange stuffJoinsSpec)

/-- ITS FALSE NEIGHBOUR: 'it returns false'. Refute it at one input. -/
def stuffJoinsWrong : ChangeSpec := { name := "stuffJoins", fn := fun _ => fun
  | [d1, d2] => { results := [.lit (.bool false)], args := [d1, d2] }
  | _ => none }
def StuffJoinsWrongFalsely : Prop := stuffJoinsRow.holds Try.pinned (OpenSpec.ofChange stuffJoinsWrong)

/-- 'mezzotintkeep.StuffSize': WHATEVER THE INPUT: true; the input reads as it did. -/
def stuffSizeSpec : ChangeSpec := { name := "stuffSize", fn := fun _ => fun
  | [d] => { results := [.lit (.bool true)], args := [d] }
  | _ => none }
def stuffSizeRow : OpenClaim := { program := "ytnddlehhgholhaa", sum := "e2a0f0691e6fa24ac268944349ed71daef2ebd117f76bdd29357ceef360cbafb", func := "mezzotint/mezzotintkeep.StuffSize", spec := "stuffSize", apart := false }
def StuffSizeSaid : Prop := stuffSizeRow.holds Try.pinned (OpenSpec.ofChange stuffSizeSpec)

/-- ITS FALSE NEIGHBOUR: 'it returns false'. Refute it at one input. -/
def stuffSizeWrong : ChangeSpec := { name := "stuffSize", fn := fun _ => fun
  | [d] => { results := [.lit (.bool false)], args := [d] }
  | _ => none }
def StuffSizeWrongFalsely : Prop := stuffSizeRow.holds Try.pinned (OpenSpec.ofChange stuffSizeWrong)

/- THE SECOND FORM. 'bulk': how many values and letters a reading holds, each counted each time it is reached (what is shared counts as often as it is met; a slice's spare places count too). A statement '..UptoSaid' is the law's where the arguments, and the package variables that the reading takes, are together of bulk at most 1048576: NARROWER than '..Said'. Prove '..Said' where nothing that the law and all that it calls make is longer than what came in: it says more and counts as full. Else prove '..UptoSaid'. A law counts once. -/
mutual
def uptoBulk {H : Type} : DataW H → Nat
  | .lit (.string bytes) => bytes.length + 1
  | .lit _ => 1
  | .nil => 1
  | .ptr d => uptoBulk d + 1
  | .slice elems spare => uptoBulkAll elems + uptoBulkAll spare + 1
  | .agg parts => uptoBulkAll parts + 1
  | .iface _ d => uptoBulk d + 1
  | .map entries => uptoBulkEntries entries + 1
  | .held _ => 1
def uptoBulkAll {H : Type} : List (DataW H) → Nat
  | [] => 0
  | d :: r => uptoBulk d + uptoBulkAll r
def uptoBulkEntries {H : Type} : List (Lit × DataW H) → Nat
  | [] => 0
  | x :: r => uptoBulkEntry x + uptoBulkEntries r
def uptoBulkEntry {H : Type} : Lit × DataW H → Nat
  | (.string bytes, d) => bytes.length + uptoBulk d + 1
  | (_, d) => uptoBulk d + 1
 end
def uptoSmall : (H : Type) → List (DataW H) → Bool := fun _ ds => decide (uptoBulkAll ds ≤ 1048576)
def OpenSpec.upto (s : _root_.Go.ChangeSpec) : _root_.Go.OpenSpec := { _root_.Go.OpenSpec.ofChange s with cond := some uptoSmall }

/-- 'mezzotintlaw.StuffTells', WHERE WHAT IT READS IS OF BULK AT MOST 1048576: true; the input reads as it did. -/
def stuffTellsUptoRow : OpenClaim := { program := "ytnddlehhgholhaa", sum := "e2a0f0691e6fa24ac268944349ed71daef2ebd117f76bdd29357ceef360cbafb", func := "mezzotint/mezzotintlaw.StuffTells", spec := "stuffTells", apart := false, narrowed := true }
def StuffTellsUptoSaid : Prop := stuffTellsUptoRow.holds Try.pinned (OpenSpec.upto stuffTellsSpec)

/-- 'mezzotintlaw.StuffSplits', WHERE WHAT IT READS IS OF BULK AT MOST 1048576: true; the input reads as it did. -/
def stuffSplitsUptoRow : OpenClaim := { program := "ytnddlehhgholhaa", sum := "e2a0f0691e6fa24ac268944349ed71daef2ebd117f76bdd29357ceef360cbafb", func := "mezzotint/mezzotintlaw.StuffSplits", spec := "stuffSplits", apart := false, narrowed := true }
def StuffSplitsUptoSaid : Prop := stuffSplitsUptoRow.holds Try.pinned (OpenSpec.upto stuffSplitsSpec)

/-- 'mezzotintkeep.StuffBack', WHERE WHAT IT READS IS OF BULK AT MOST 1048576: true; the input reads as it did. -/
def stuffBackUptoRow : OpenClaim := { program := "ytnddlehhgholhaa", sum := "e2a0f0691e6fa24ac268944349ed71daef2ebd117f76bdd29357ceef360cbafb", func := "mezzotint/mezzotintkeep.StuffBack", spec := "stuffBack", apart := false, narrowed := true }
def StuffBackUptoSaid : Prop := stuffBackUptoRow.holds Try.pinned (OpenSpec.upto stuffBackSpec)

/-- 'mezzotintkeep.StuffAgain', WHERE WHAT IT READS IS OF BULK AT MOST 1048576: true; the input reads as it did. -/
def stuffAgainUptoRow : OpenClaim := { program := "ytnddlehhgholhaa", sum := "e2a0f0691e6fa24ac268944349ed71daef2ebd117f76bdd29357ceef360cbafb", func := "mezzotint/mezzotintkeep.StuffAgain", spec := "stuffAgain", apart := false, narrowed := true }
def StuffAgainUptoSaid : Prop := stuffAgainUptoRow.holds Try.pinned (OpenSpec.upto stuffAgainSpec)

/-- 'mezzotintkeep.SplitBack', WHERE WHAT IT READS IS OF BULK AT MOST 1048576: true; the input reads as it did. -/
def splitBackUptoRow : OpenClaim := { program := "ytnddlehhgholhaa", sum := "e2a0f0691e6fa24ac268944349ed71daef2ebd117f76bdd29357ceef360cbafb", func := "mezzotint/mezzotintkeep.SplitBack", spec := "splitBack", apart := false, narrowed := true }
def SplitBackUptoSaid : Prop := splitBackUptoRow.holds Try.pinned (OpenSpec.upto splitBackSpec)

/-- 'mezzotintkeep.StuffJoins', WHERE WHAT IT READS IS OF BULK AT MOST 1048576: true; the input reads as it did. -/
def stuffJoinsUptoRow : OpenClaim := { program := "ytnddlehhgholhaa", sum := "e2a0f0691e6fa24ac268944349ed71daef2ebd117f76bdd29357ceef360cbafb", func := "mezzotint/mezzotintkeep.StuffJoins", spec := "stuffJoins", apart := false, narrowed := true }
def StuffJoinsUptoSaid : Prop := stuffJoinsUptoRow.holds Try.pinned (OpenSpec.upto stuffJoinsSpec)

/-- 'mezzotintkeep.StuffSize', WHERE WHAT IT READS IS OF BULK AT MOST 1048576: true; the input reads as it did. -/
def stuffSizeUptoRow : OpenClaim := { program := "ytnddlehhgholhaa", sum := "e2a0f0691e6fa24ac268944349ed71daef2ebd117f76bdd29357ceef360cbafb", func := "mezzotint/mezzotintkeep.StuffSize", spec := "stuffSize", apart := false, narrowed := true }
def StuffSizeUptoSaid : Prop := stuffSizeUptoRow.holds Try.pinned (OpenSpec.upto stuffSizeSpec)

end Rows
end Go.Proofs.Ytnddlehhgholhaa
