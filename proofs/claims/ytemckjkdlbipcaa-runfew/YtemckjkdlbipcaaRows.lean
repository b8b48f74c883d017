/-
  No cell of these rows narrows 'for every input' (looked for: loops, veiled, ifaces, maps, wideKeys, modest, calm, conditions, laid).
  DERIVED. THE GIVEN ROWS OF THIS SEAT. 8 by the template 'for every input the law returns true; each argument reads behind the call as it read before'; 0 by the template 'total and deterministic' (their statements: YtemckjkdlbipcaaTotals.lean).
  GIVEN WITH THE SEED: the statements are not yours to turn. If you find one false, say at which input.
  Laid BY PROGRAM, IN A SANDBOX (cutbox-rows.mjs): the forced cells as the released guide's own fill.sh prints them over the translation 819a0ac831ff067b… (all of the seat's roots in one cut). By AI agents, Wed Nov 11 2026. No macro, syntax, notation, axiom, sorry.
-/
import Derived.Test.YtemckjkdlbipcaaChecked
import GoSem.Claim
import GoSem.ClaimJoined
import GoSem.ClaimMapViews
import Derived.JoinedTies
import Derived.KernelRfl
namespace Go.Proofs.Ytemckjkdlbipcaa
/- THE CELL 'sum', in the pinned program and in every row, IS THE sha256 OF THE DUMP (.gsa) THAT YtemckjkdlbipcaaProg.lean LOADS. Nothing in Lean hashes anything: it is a label: what it is worth is what the hold of that sum in a sandbox is worth. -/
noncomputable def Try.pinned : Pinned := { name := "ytemckjkdlbipcaa", sum := "819a0ac831ff067b54c61762104b23c776f2404bd32291d41e5cc2d8f0133330", checked := Try.checked }
namespace Rows
def none {H : Type} : Left H := { results := [], args := [] }

/-- 'mezzotintlaw.RunTokens': WHATEVER THE INPUT: true; the input reads as it did. -/
def runTokensSpec : ChangeSpec := { name := "runTokens", fn := fun _ => fun
  | [d1, d2] => { results := [.lit (.bool true)], args := [d1, d2] }
  | _ => none }
def runTokensRow : OpenClaim := { program := "ytemckjkdlbipcaa", sum := "819a0ac831ff067b54c61762104b23c776f2404bd32291d41e5cc2d8f0133330", func := "mezzotint/mezzotintlaw.RunTokens", spec := "runTokens", apart := false }
def RunTokensSaid : Prop := runTokensRow.holds Try.pinned (OpenSpec.ofChange runTokensSpec)

/-- ITS FALSE NEIGHBOUR: 'it returns false'. Refute it at one input. -/
def runTokensWrong : ChangeSpec := { name := "runTokens", fn := fun _ => fun
  | [d1, d2] => { results := [.lit (.bool false)], args := [d1, d2] }
  | _ => none }
def RunTokensWrongFalsely : Prop := runTokensRow.holds Try.pinned (OpenSpec.ofChange runTokensWrong)

/-- 'mezzotintlaw.RunBlocks': WHATEVER THE INPUT: true; the input reads as it did. -/
def runBlocksSpec : ChangeSpec := { name := "runBlocks", fn := fun _ => fun
  | [d1, d2] => { results := [.lit (.bool true)], args := [d1, d2] }
  | _ => none }
def runBlocksRow : OpenClaim := { program := "ytemckjkdlbipcaa", sum := "819a0ac831ff067b54c61762104b23c776f2404bd32291d41e5cc2d8f0133330", func := "mezzotint/mezzotintlaw.RunBlocks", spec := "runBlocks", unfollowed := true, recurses := true, apart := false }
def RunBlocksSaid : Prop := runBlocksRow.holds Try.pinned (OpenSpec.ofChange runBlocksSpec)

/-- ITS FALSE NEIGHBOUR: 'it returns false'. Refute it at one input. -/
def runBlocksWrong : ChangeSpec := { name := "runBlocks", fn := fun _ => fun
  | [d1, d2] => { results := [.lit (.bool false)], args := [d1, d2] }
  | _ => none }
def RunBlocksWrongFalsely : Prop := runBlocksRow.holds Try.pinned (OpenSpec.ofChange runBlocksWrong)

/-- 'mezzotintkeep.RunBack': WHATEVER THE INPUT: true; the input reads as it did. -/
def runBackSpec : ChangeSpec := { name := "runBack", fn := fun _ => fun
  | [d1, d2, d3] => { results := [.lit (.bool true)], args := [d1, d2, d3] }
  | _ => none }
def runBackRow : OpenClaim := { program := "ytemckjkdlbipcaa", sum := "819a0ac831ff067b54c61762104b23c776f2404bd32291d41e5cc2d8f0133330", func := "mezzotint/mezzotintkeep.RunBack", spec := "runBack", unfollowed := true, recurses := true, apart := false }
def RunBackSaid : Prop := runBackRow.holds Try.pinned (OpenSpec.ofChange runBackSpec)

/-- ITS FALSE NEIGHBOUR: 'it returns false'. Refute it at one input. -/
def runBackWrong : ChangeSpec := { name := "runBack", fn := fun _ => fun
  | [d1, d2, d3] => { results := [.lit (.bool false)], args := [d1, d2, d3] }
  | _ => none }
def RunBackWrongFalsely : Prop := runBackRow.holds Try.pinned (OpenSpec.ofChange runBackWrong)

/-- 'mezzotintkeep.RunAgain': WHATEVER THE INPUT: true; the input reads as it did. -/
def runAgainSpec : ChangeSpec := { name := "runAgain", fn := fun _ => fun
  | [d1, d2] => { results := [.lit (.bool true)], args := [d1, d2] }
  | _ => none }
def runAgainRow : OpenClaim := { program := "ytemckjkdlbipcaa", sum := "819a0ac831ff067b54c61762104b23c776f2404bd32291d41e5cc2d8f0133330", func := "mezzotint/mezzotintkeep.RunAgain", spec := "runAgain", unfollowed := true, recurses := true, apart := false }
def RunAgainSaid : Prop := runAgainRow.holds Try.pinned (OpenSpec.ofChange runAgainSpec)

/-- ITS FALSE NEIGHBOUR: 'it returns false'. Refute it at one input. -/
def runAgainWrong : ChangeSpec := { name := "runAgain", fn := fun _ => fun
  | [d1, d2] => { results := [.lit (.bool false)], args := [d1, d2] }
  | _ => none }
def RunAgainWrongFalsely : Prop := runAgainRow.holds Try.pinned (OpenSpec.ofChange runAgainWrong)

/-- 'mezzotintkeep.RunFew': WHATEVER THE INPUT: true; the input reads as it did. -/
def runFewSpec : ChangeSpec := { name := "runFew", fn := fun _ => fun
  | [d1, d2] => { results := [.lit (.bool true)], args := [d1, d2] }
  | _ => none }
def runFewRow : OpenClaim := { program := "ytemckjkdlbipcaa", sum := "819a0ac831ff067b54c61762104b23c776f2404bd32291d41e5cc2d8f0133330", func := "mezzotint/mezzotintkeep.RunFew", spec := "runFew", apart := false }
def RunFewSaid : Prop := runFewRow.holds Try.pinned (OpenSpec.ofChange runFewSpec)

/-- ITS FALSE NEIGHBOUR: 'it returns false'. Refute it at one input. -/
def runFewWrong : ChangeSpec := { name := "runFew", fn := fun _ => fun
  | [d1, d2] => { results := [.lit (.bool false)], args := [d1, d2] }
  | _ => none }
def RunFewWrongFalsely : Prop := runFewRow.holds Try.pinned (OpenSpec.ofChange runFewWrong)

/-- 'mezzotintkeep.RunFirst': WHATEVER THE INPUT: true; the input reads as it did. -/
def runFirstSpec : ChangeSpec := { name := "runFirst", fn := fun _ => fun
  | [d1, d2, d3] => { results := [.lit (.bool true)], args := [d1, d2, d3] }
  | _ => none }
def runFirstRow : OpenClaim := { program := "ytemckjkdlbipcaa", sum := "819a0ac831ff067b54c61762104b23c776f2404bd32291d41e5cc2d8f0133330", func := "mezzotint/mezzotintkeep.RunFirst", spec := "runFirst", apart := false }
def RunFirstSaid : Prop := runFirstRow.holds Try.pinned (OpenSpec.ofChange runFirstSpec)

/-- ITS FALSE NEIGHBOUR: 'it returns false'. Refute it at one input. -/
def runFirstWrong : ChangeSpec := { name := "runFirst", fn := fun _ => fun
  | [d1, d2, d3] => { results := [.lit (.bool false)], args := [d1, d2, d3] }
  | _ => none }
def RunFirstWrongFalsely : Prop := runFirstRow.holds Try.pinned (OpenSpec.ofChange runFirstWrong)

/-- 'mezzotintkeep.RunZero': WHATEVER THE INPUT: true; the input reads as it did. -/
def runZeroSpec : ChangeSpec := { name := "runZero", fn := fun _ => fun
  | [d] => { results := [.lit (.bool true)], args := [d] }
  | _ => none }
def runZeroRow : OpenClaim := { program := "ytemckjkdlbipcaa", sum := "819a0ac831ff067b54c61762104b23c776f2404bd32291d41e5cc2d8f0133330", func := "mezzotint/mezzotintkeep.RunZero", spec := "runZero", apart := false }
def RunZeroSaid : Prop := runZeroRow.holds Try.pinned (OpenSpec.ofChange runZeroSpec)

/-- ITS FALSE NEIGHBOUR: 'it returns false'. Refute it at one input. -/
def runZeroWrong : ChangeSpec := { name := "runZero", fn := fun _ => fun
  | [d] => { results := [.lit (.bool false)], args := [d] }
  | _ => none }
def RunZeroWrongFalsely : Prop := runZeroRow.holds Try.pinned (OpenSpec.ofChange runZeroWrong)

/-- 'mezzotintkeep.RunShort': WHATEVER THE INPUT: true; the input reads as it did. -/
def runShortSpec : ChangeSpec := { name := "runShort", fn := fun _ => fun
  | [d1, d2, d3] => { results := [.lit (.bool true)], args := [d1, d2, d3] }
  | _ => none }
def runShortRow : OpenClaim := { program := "ytemckjkdlbipcaa", sum := "819a0ac831ff067b54c61762104b23c776f2404bd32291d41e5cc2d8f0133330", func := "mezzotint/mezzotintkeep.RunShort", spec := "runShort", unfollowed := true, recurses := true, apart := false }
def RunShortSaid : Prop := runShortRow.holds Try.pinned (OpenSpec.ofChange runShortSpec)

/-- ITS FALSE NEIGHBOUR: 'it returns false'. Refute it at one input. -/
def runShortWrong : ChangeSpec := { name := "runShort", fn := fun _ => fun
  | [d1, d2, d3] => { results := [.lit (.bool false)], args := [d1, d2, d3] }
  | _ => none }
def RunShortWrongFalsely : Prop := runShortRow.holds Try.pinned (OpenSpec.ofChange runShortWrong)

/- THE SECOND FORM. 'bulk': how many values and letters a reading holds, each counted each time it is reached (what is shared counts as often as it is met; a slice's spare places count too). A statement '..UptoSaid' is the law's where the arguments, and the package variables that the reading takes, are together of bulk at most 1048576: NARROWER than '..Said'. Prove '..Said' where nothing that the law and all that it calls make is longer than what came in: it says more and counts as full. Else prove '..UptoSaid'. A law counts once. -/
mutual
def uptoBulk {H : Type} : DataW H → Nat
  | .lit (.string bytes) => bytes.length + 1
  | .lit _ => 1
  | .nil => 1
  | .ptr d => uptoBulk d + 1
  | .slice elems spare => uptoBulkAll elems + uptoBulkAll spare + 1
  | .agg parts => uptoBulkAll parts + 1
  | .iface _ d => uptoBulk d + 1
  | .map entries => uptoBulkEntries entries + 1
  | .held _ => 1
def uptoBulkAll {H : Type} : List (DataW H) → Nat
  | [] => 0
  | d :: r => uptoBulk d + uptoBulkAll r
def uptoBulkEntries {H : Type} : List (Lit × DataW H) → Nat
  | [] => 0
  | x :: r => uptoBulkEntry x + uptoBulkEntries r
def uptoBulkEntry {H : Type} : Lit × DataW H → Nat
  | (.string bytes, d) => bytes.length + uptoBulk d + 1
  | (_, d) => uptoBulk d + 1
 end
def uptoSmall : (H : Type) → List (DataW H) → Bool := fun _ ds => decide (uptoBulkAll ds ≤ 1048576)
def OpenSpec.upto (s : _root_.Go.ChangeSpec) : _root_.Go.OpenSpec := { _root_.Go.OpenSpec.ofChange s with cond := some uptoSmall }

/-- 'mezzotintlaw.RunTokens', WHERE WHAT IT READS IS OF BULK AT MOST 1048576: true; the input reads as it did. -/
def runTokensUptoRow : OpenClaim := { program := "ytemckjkdlbipcaa", sum := "819a0ac831ff067b54c61762104b23c776f2404bd32291d41e5cc2d8f0133330", func := "mezzotint/mezzotintlaw.RunTokens", spec := "runTokens", apart := false, narrowed := true }
def RunTokensUptoSaid : Prop := runTokensUptoRow.holds Try.pinned (OpenSpec.upto runTokensSpec)

/-- 'mezzotintlaw.RunBlocks', WHERE WHAT IT READS IS OF BULK AT MOST 1048576: true; the input reads as it did. -/
def runBlocksUptoRow : OpenClaim := { program := "ytemckjkdlbipcaa", sum := "819a0ac831ff067b54c61762104b23c776f2404bd32291d41e5cc2d8f0133330", func := "mezzotint/mezzotintlaw.RunBlocks", spec := "runBlocks", unfollowed := true, recurses := true, apart := false, narrowed := true }
def RunBlocksUptoSaid : Prop := runBlocksUptoRow.holds Try.pinned (OpenSpec.upto runBlocksSpec)

/-- 'mezzotintkeep.RunBack', WHERE WHAT IT READS IS OF BULK AT MOST 1048576: true; the input reads as it did. -/
def runBackUptoRow : OpenClaim := { program := "ytemckjkdlbipcaa", sum := "819a0ac831ff067b54c61762104b23c776f2404bd32291d41e5cc2d8f0133330", func := "mezzotint/mezzotintkeep.RunBack", spec := "runBack", unfollowed := true, recurses := true, apart := false, narrowed := true }
def RunBackUptoSaid : Prop := runBackUptoRow.holds Try.pinned (OpenSpec.upto runBackSpec)

/-- 'mezzotintkeep.RunAgain', WHERE WHAT IT READS IS OF BULK AT MOST 1048576: true; the input reads as it did. -/
def runAgainUptoRow : OpenClaim := { program := "ytemckjkdlbipcaa", sum := "819a0ac831ff067b54c61762104b23c776f2404bd32291d41e5cc2d8f0133330", func := "mezzotint/mezzotintkeep.RunAgain", spec := "runAgain", unfollowed := true, recurses := true, apart := false, narrowed := true }
def RunAgainUptoSaid : Prop := runAgainUptoRow.holds Try.pinned (OpenSpec.upto runAgainSpec)

/-- 'mezzotintkeep.RunFew', WHERE WHAT IT READS IS OF BULK AT MOST 1048576: true; the input reads as it did. -/
def runFewUptoRow : OpenClaim := { program := "ytemckjkdlbipcaa", sum := "819a0ac831ff067b54c61762104b23c776f2404bd32291d41e5cc2d8f0133330", func := "mezzotint/mezzotintkeep.RunFew", spec := "runFew", apart := false, narrowed := true }
def RunFewUptoSaid : Prop := runFewUptoRow.holds Try.pinned (OpenSpec.upto runFewSpec)

/-- 'mezzotintkeep.RunFirst', WHERE WHAT IT READS IS OF BULK AT MOST 1048576: true; the input reads as it did. -/
def runFirstUptoRow : OpenClaim := { program := "ytemckjkdlbipcaa", sum := "819a0ac831ff067b54c61762104b23c776f2404bd32291d41e5cc2d8f0133330", func := "mezzotint/mezzotintkeep.RunFirst", spec := "runFirst", apart := false, narrowed := true }
def RunFirstUptoSaid : Prop := runFirstUptoRow.holds Try.pinned (OpenSpec.upto runFirstSpec)

/-- 'mezzotintkeep.RunZero', WHERE WHAT IT READS IS OF BULK AT MOST 1048576: true; the input reads as it did. -/
def runZeroUptoRow : OpenClaim := { program := "ytemckjkdlbipcaa", sum := "819a0ac831ff067b54c61762104b23c776f2404bd32291d41e5cc2d8f0133330", func := "mezzotint/mezzotintkeep.RunZero", spec := "runZero", apart := false, narrowed := true }
def RunZeroUptoSaid : Prop := runZeroUptoRow.holds Try.pinned (OpenSpec.upto runZeroSpec)

/-- 'mezzotintkeep.RunShort', WHERE WHAT IT READS IS OF BULK AT MOST 1048576: true; the input reads as it did. -/
def runShortUptoRow : OpenClaim := { program := "ytemckjkdlbipcaa", sum := "819a0ac831ff067b54c61762104b23c776f2404bd32291d41e5cc2d8f0133330", func := "mezzotint/mezzotintkeep.RunShort", spec := "runShort", unfollowed := true, recurses := true, apart := false, narrowed := true }
def RunShortUptoSaid : Prop := runShortUptoRow.holds Try.pinned (OpenSpec.upto runShortSpec)

end Rows
end Go.Proofs.Ytemckjkdlbipcaa
