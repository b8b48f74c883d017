/-
  No cell of these rows narrows 'for every input' (looked for: loops, veiled, ifaces, maps, wideKeys, modest, calm, conditions, laid).
  DERIVED. THE GIVEN ROWS OF THIS SEAT. 6 by the template 'for every input the law returns true; each argument reads behind the call as it read before'; 0 by the template 'total and deterministic' (their statements: YtmohkboilchplaaTotals.lean).
  GIVEN WITH THE SEED: the statements are not yours to turn. If you find one false, say at which input.
  Laid BY PROGRAM, IN A SANDBOX (cutbox-rows.mjs): the forced cells as the released guide's own fill.sh prints them over the translation 8324345981b43a37… (all of the seat's roots in one cut). By AI agents, Wed Nov 11 2026. No macro, syntax, notation, axiom, sorry.
-/
import Derived.Test.YtmohkboilchplaaChecked
import GoSem.Claim
import GoSem.ClaimJoined
import GoSem.ClaimMapViews
import Derived.JoinedTies
import Derived.KernelRfl
namespace Go.Proofs.Ytmohkboilchplaa
/- THE CELL 'sum', in the pinned program and in every row, IS THE sha256 OF THE DUMP (.gsa) THAT YtmohkboilchplaaProg.lean LOADS. Nothing in Lean hashes anything: it is a label: what it is worth is what the hold of that sum in a sandbox is worth. -/
noncomputable def Try.pinned : Pinned := { name := "ytmohkboilchplaa", sum := "8324345981b43a374dca0e5679da5fb932afec99bc140d49c9ca017c7f0ee454", checked := Try.checked }
namespace Rows
def none {H : Type} : Left H := { results := [], args := [] }

/-- 'mezzotintlaw.ZigOrders': WHATEVER THE INPUT: true; the input reads as it did. -/
def zigOrdersSpec : ChangeSpec := { name := "zigOrders", fn := fun _ => fun
  | [] => { results := [.lit (.bool true)], args := [] }
  | _ => none }
def zigOrdersRow : OpenClaim := { program := "ytmohkboilchplaa", sum := "8324345981b43a374dca0e5679da5fb932afec99bc140d49c9ca017c7f0ee454", func := "mezzotint/mezzotintlaw.ZigOrders", spec := "zigOrders", apart := false }
def ZigOrdersSaid : Prop := zigOrdersRow.holds Try.pinned (OpenSpec.ofChange zigOrdersSpec)

/-- ITS FALSE NEIGHBOUR: 'it returns false'. Refute it at one input. -/
def zigOrdersWrong : ChangeSpec := { name := "zigOrders", fn := fun _ => fun
  | [] => { results := [.lit (.bool false)], args := [] }
  | _ => none }
def ZigOrdersWrongFalsely : Prop := zigOrdersRow.holds Try.pinned (OpenSpec.ofChange zigOrdersWrong)

/-- 'mezzotintlaw.ZigTurns': WHATEVER THE INPUT: true; the input reads as it did. -/
def zigTurnsSpec : ChangeSpec := { name := "zigTurns", fn := fun _ => fun
  | [d] => { results := [.lit (.bool true)], args := [d] }
  | _ => none }
def zigTurnsRow : OpenClaim := { program := "ytmohkboilchplaa", sum := "8324345981b43a374dca0e5679da5fb932afec99bc140d49c9ca017c7f0ee454", func := "mezzotint/mezzotintlaw.ZigTurns", spec := "zigTurns", apart := false }
def ZigTurnsSaid : Prop := zigTurnsRow.holds Try.pinned (OpenSpec.ofChange zigTurnsSpec)

/-- ITS FALSE NEIGHBOUR: 'it returns false'. Refute it at one input. -/
def zigTurnsWrong : ChangeSpec := { name := "zigTurns", fn := fun _ => fun
  | [d] => { results := [.lit (.bool false)], args := [d] }
  | _ => none }
def ZigTurnsWrongFalsely : Prop := zigTurnsRow.holds Try.pinned (OpenSpec.ofChange zigTurnsWrong)

/-- 'mezzotintkeep.ZigBack': WHATEVER THE INPUT: true; the input reads as it did. -/
def zigBackSpec : ChangeSpec := { name := "zigBack", fn := fun _ => fun
  | [d] => { results := [.lit (.bool true)], args := [d] }
  | _ => none }
def zigBackRow : OpenClaim := { program := "ytmohkboilchplaa", sum := "8324345981b43a374dca0e5679da5fb932afec99bc140d49c9ca017c7f0ee454", func := "mezzotint/mezzotintkeep.ZigBack", spec := "zigBack", apart := false }
def ZigBackSaid : Prop := zigBackRow.holds Try.pinned (OpenSpec.ofChange zigBackSpec)

/-- ITS FALSE NEIGHBOUR: 'it returns false'. Refute it at one input. -/
def zigBackWrong : ChangeSpec := { name := "zigBack", fn := fun _ => fun
  | [d] => { results := [.lit (.bool false)], args := [d] }
  | _ => none }
def ZigBackWrongFalsely : Prop := zigBackRow.holds Try.pinned (OpenSpec.ofChange zigBackWrong)

/-- 'mezzotintkeep.ZigSteps': WHATEVER THE INPUT: true; the input reads as it did. -/
def zigStepsSpec : ChangeSpec := { name := "zigSteps", fn := fun _ => fun
  | [d] => { results := [.lit (.bool true)], args := [d] }
  | _ => none }
def zigStepsRow : OpenClaim := { program := "ytmohkboilchplaa", sum := "8324345981b43a374dca0e5679da5fb932afec99bc140d49c9ca017c7f0ee454", func := "mezzotint/mezzotintkeep.ZigSteps", spec := "zigSteps", apart := false }
def ZigStepsSaid : Prop := zigStepsRow.holds Try.pinned (OpenSpec.ofChange zigStepsSpec)

/-- ITS FALSE NEIGHBOUR: 'it returns false'. Refute it at one input. -/
def zigStepsWrong : ChangeSpec := { name := "zigSteps", fn := fun _ => fun
  | [d] => { results := [.lit (.bool false)], args := [d] }
  | _ => none }
def ZigStepsWrongFalsely : Prop := zigStepsRow.holds Try.pinned (OpenSpec.ofChange zigStepsWrong)

/-- 'mezzotintkeep.ZigMoves': WHATEVER THE INPUT: true; the input reads as it did. -/
def zigMovesSpec : ChangeSpec := { name := "zigMoves", fn := fun _ => fun
  | [d1, d2] => { results := [.lit (.bool true)], args := [d1, d2] }
  | _ => none }
def zigMovesRow : OpenClaim := { program := "ytmohkboilchplaa", sum := "8324345981b43a374dca0e5679da5fb932afec99bc140d49c9ca017c7f0ee454", func := "mezzotint/mezzotintkeep.ZigMoves", spec := "zigMoves", apart := false }
def ZigMovesSaid : Prop := zigMovesRow.holds Try.pinned (OpenSpec.ofChange zigMovesSpec)

/-- ITS FALSE NEIGHBOUR: 'it returns false'. Refute it at one input. -/
def zigMovesWrong : ChangeSpec := { name := "zigMoves", fn := fun _ => fun
  | [d1, d2] => { results := [.lit (.bool false)], args := [d1, d2] }
  | _ => none }
def ZigMovesWrongFalsely : Prop := zigMovesRow.holds Try.pinned (OpenSpec.ofChange zigMovesWrong)

/-- 'mezzotintkeep.ZigTriangle': WHATEVER THE INPUT: true; the input reads as it did. -/
def zigTriangleSpec : ChangeSpec := { name := "zigTriangle", fn := fun _ => fun
  | [d] => { results := [.lit (.bool true)], args := [d] }
  | _ => none }
def zigTriangleRow : OpenClaim := { program := "ytmohkboilchplaa", sum := "8324345981b43a374dca0e5679da5fb932afec99bc140d49c9ca017c7f0ee454", func := "mezzotint/mezzotintkeep.ZigTriangle", spec := "zigTriangle", apart := false }
def ZigTriangleSaid : Prop := zigTriangleRow.holds Try.pinned (OpenSpec.ofChange zigTriangleSpec)

/-- ITS FALSE NEIGHBOUR: 'it returns false'. Refute it at one input. -/
def zigTriangleWrong : ChangeSpec := { name := "zigTriangle", fn := fun _ => fun
  | [d] => { results := [.lit (.bool false)], args := [d] }
  | _ => none }
def ZigTriangleWrongFalsely : Prop := zigTriangleRow.holds Try.pinned (OpenSpec.ofChange zigTriangleWrong)

/- THE SECOND FORM. 'bulk': how many values and letters a reading holds, each counted each time it is reached (what is shared counts as often as it is met; a slice's spare places count too). A statement '..UptoSaid' is the law's where the arguments, and the package variables that the reading takes, are together of bulk at most 1048576: NARROWER than '..Said'. Prove '..Said' where nothing that the law and all that it calls make is longer than what came in: it says more and counts as full. Else prove '..UptoSaid'. A law counts once. -/
mutual
def uptoBulk {H : Type} : DataW H → Nat
  | .lit (.string bytes) => bytes.length + 1
  | .lit _ => 1
  | .nil => 1
  | .ptr d => uptoBulk d + 1
  | .slice elems spare => uptoBulkAll elems + uptoBulkAll spare + 1
  | .agg parts => uptoBulkAll parts + 1
  | .iface _ d => uptoBulk d + 1
  | .map entries => uptoBulkEntries entries + 1
  | .held _ => 1
def uptoBulkAll {H : Type} : List (DataW H) → Nat
  | [] => 0
  | d :: r => uptoBulk d + uptoBulkAll r
def uptoBulkEntries {H : Type} : List (Lit × DataW H) → Nat
  | [] => 0
  | x :: r => uptoBulkEntry x + uptoBulkEntries r
def uptoBulkEntry {H : Type} : Lit × DataW H → Nat
  | (.string bytes, d) => bytes.length + uptoBulk d + 1
  | (_, d) => uptoBulk d + 1
 end
def uptoSmall : (H : Type) → List (DataW H) → Bool := fun _ ds => decide (uptoBulkAll ds ≤ 1048576)
def OpenSpec.upto (s : _root_.Go.ChangeSpec) : _root_.Go.OpenSpec := { _root_.Go.OpenSpec.ofChange s with cond := some uptoSmall }

/-- 'mezzotintlaw.ZigOrders', WHERE WHAT IT READS IS OF BULK AT MOST 1048576: true; the input reads as it did. -/
def zigOrdersUptoRow : OpenClaim := { program := "ytmohkboilchplaa", sum := "8324345981b43a374dca0e5679da5fb932afec99bc140d49c9ca017c7f0ee454", func := "mezzotint/mezzotintlaw.ZigOrders", spec := "zigOrders", apart := false, narrowed := true }
def ZigOrdersUptoSaid : Prop := zigOrdersUptoRow.holds Try.pinned (OpenSpec.upto zigOrdersSpec)

/-- 'mezzotintlaw.ZigTurns', WHERE WHAT IT READS IS OF BULK AT MOST 1048576: true; the input reads as it did. -/
def zigTurnsUptoRow : OpenClaim := { program := "ytmohkboilchplaa", sum := "8324345981b43a374dca0e5679da5fb932afec99bc140d49c9ca017c7f0ee454", func := "mezzotint/mezzotintlaw.ZigTurns", spec := "zigTurns", apart := false, narrowed := true }
def ZigTurnsUptoSaid : Prop := zigTurnsUptoRow.holds Try.pinned (OpenSpec.upto zigTurnsSpec)

/-- 'mezzotintkeep.ZigBack', WHERE WHAT IT READS IS OF BULK AT MOST 1048576: true; the input reads as it did. -/
def zigBackUptoRow : OpenClaim := { program := "ytmohkboilchplaa", sum := "8324345981b43a374dca0e5679da5fb932afec99bc140d49c9ca017c7f0ee454", func := "mezzotint/mezzotintkeep.ZigBack", spec := "zigBack", apart := false, narrowed := true }
def ZigBackUptoSaid : Prop := zigBackUptoRow.holds Try.pinned (OpenSpec.upto zigBackSpec)

/-- 'mezzotintkeep.ZigSteps', WHERE WHAT IT READS IS OF BULK AT MOST 1048576: true; the input reads as it did. -/
def zigStepsUptoRow : OpenClaim := { program := "ytmohkboilchplaa", sum := "8324345981b43a374dca0e5679da5fb932afec99bc140d49c9ca017c7f0ee454", func := "mezzotint/mezzotintkeep.ZigSteps", spec := "zigSteps", apart := false, narrowed := true }
def ZigStepsUptoSaid : Prop := zigStepsUptoRow.holds Try.pinned (OpenSpec.upto zigStepsSpec)

/-- 'mezzotintkeep.ZigMoves', WHERE WHAT IT READS IS OF BULK AT MOST 1048576: true; the input reads as it did. -/
def zigMovesUptoRow : OpenClaim := { program := "ytmohkboilchplaa", sum := "8324345981b43a374dca0e5679da5fb932afec99bc140d49c9ca017c7f0ee454", func := "mezzotint/mezzotintkeep.ZigMoves", spec := "zigMoves", apart := false, narrowed := true }
def ZigMovesUptoSaid : Prop := zigMovesUptoRow.holds Try.pinned (OpenSpec.upto zigMovesSpec)

/-- 'mezzotintkeep.ZigTriangle', WHERE WHAT IT READS IS OF BULK AT MOST 1048576: true; the input reads as it did. -/
def zigTriangleUptoRow : OpenClaim := { program := "ytmohkboilchplaa", sum := "8324345981b43a374dca0e5679da5fb932afec99bc140d49c9ca017c7f0ee454", func := "mezzotint/mezzotintkeep.ZigTriangle", spec := "zigTriangle", apart := false, narrowed := true }
def ZigTriangleUptoSaid : Prop := zigTriangleUptoRow.holds Try.pinned (OpenSpec.upto zigTriangleSpec)

end Rows
end Go.Proofs.Ytmohkboilchplaa
