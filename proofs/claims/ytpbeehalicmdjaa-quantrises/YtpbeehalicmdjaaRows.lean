/-
  No cell of these rows narrows 'for every input' (looked for: loops, veiled, ifaces, maps, wideKeys, modest, calm, conditions, laid).
  DERIVED. THE GIVEN ROWS OF THIS SEAT. 10 by the template 'for every input the law returns true; each argument reads behind the call as it read before'; 0 by the template 'total and deterministic' (their statements: YtpbeehalicmdjaaTotals.lean).
  GIVEN WITH THE SEED: the statements are not yours to turn. If you find one false, say at which input.
  Laid BY PROGRAM, IN A SANDBOX (cutbox-rows.mjs): the forced cells as the released guide's own fill.sh prints them over the translation b5f5aed4a9ffbe7f… (all of the seat's roots in one cut). By AI agents, Wed Nov 11 2026. No macro, syntax, notation, axiom, sorry.
-/
import Derived.Test.YtpbeehalicmdjaaChecked
import GoSem.Claim
import GoSem.ClaimJoined
import GoSem.ClaimMapViews
import Derived.JoinedTies
import Derived.KernelRfl
namespace Go.Proofs.Ytpbeehalicmdjaa
/- THE CELL 'sum', in the pinned program and in every row, IS THE sha256 OF THE DUMP (.gsa) THAT YtpbeehalicmdjaaProg.lean LOADS. Nothing in Lean hashes anything: it is a label: what it is worth is what the hold of that sum in a sandbox is worth. -/
noncomputable def Try.pinned : Pinned := { name := "ytpbeehalicmdjaa", sum := "b5f5aed4a9ffbe7f58316648bb8af906d955ed5ca1e46eef9868a5d028e197d6", checked := Try.checked }
namespace Rows
def none {H : Type} : Left H := { results := [], args := [] }

/-- 'mezzotintlaw.QuantDowns': WHATEVER THE INPUT: true; the input reads as it did. -/
def quantDownsSpec : ChangeSpec := { name := "quantDowns", fn := fun _ => fun
  | [d1, d2] => { results := [.lit (.bool true)], args := [d1, d2] }
  | _ => none }
def quantDownsRow : OpenClaim := { program := "ytpbeehalicmdjaa", sum := "b5f5aed4a9ffbe7f58316648bb8af906d955ed5ca1e46eef9868a5d028e197d6", func := "mezzotint/mezzotintlaw.QuantDowns", spec := "quantDowns", unfollowed := true, recurses := true, apart := false }
def QuantDownsSaid : Prop := quantDownsRow.holds Try.pinned (OpenSpec.ofChange quantDownsSpec)

/-- ITS FALSE NEIGHBOUR: 'it returns false'. Refute it at one input. -/
def quantDownsWrong : ChangeSpec := { name := "quantDowns", fn := fun _ => fun
  | [d1, d2] => { results := [.lit (.bool false)], args := [d1, d2] }
  | _ => none }
def QuantDownsWrongFalsely : Prop := quantDownsRow.holds Try.pinned (OpenSpec.ofChange quantDownsWrong)

/-- 'mezzotintlaw.QuantUps': WHATEVER THE INPUT: true; the input reads as it did. -/
def quantUpsSpec : ChangeSpec := { name := "quantUps", fn := fun _ => fun
  | [d1, d2] => { results := [.lit (.bool true)], args := [d1, d2] }
  | _ => none }
def quantUpsRow : OpenClaim := { program := "ytpbeehalicmdjaa", sum := "b5f5aed4a9ffbe7f58316648bb8af906d955ed5ca1e46eef9868a5d028e197d6", func := "mezzotint/mezzotintlaw.QuantUps", spec := "quantUps", unfollowed := true, recurses := true, apart := false }
def QuantUpsSaid : Prop := quantUpsRow.holds Try.pinned (OpenSpec.ofChange quantUpsSpec)

/-- ITS FALSE NEIGHBOUR: 'it returns false'. Refute it at one input. -/
def quantUpsWrong : ChangeSpec := { name := "quantUps", fn := fun _ => fun
  | [d1, d2] => { results := [.lit (.bool false)], args := [d1, d2] }
  | _ => none }
def QuantUpsWrongFalsely : Prop := quantUpsRow.holds Try.pinned (OpenSpec.ofChange quantUpsWrong)

/-- 'mezzotintlaw.QuantScales': WHATEVER THE INPUT: true; the input reads as it did. -/
def quantScalesSpec : ChangeSpec := { name := "quantScales", fn := fun _ => fun
  | [d1, d2] => { results := [.lit (.bool true)], args := [d1, d2] }
  | _ => none }
def quantScalesRow : OpenClaim := { program := "ytpbeehalicmdjaa", sum := "b5f5aed4a9ffbe7f58316648bb8af906d955ed5ca1e46eef9868a5d028e197d6", func := "mezzotint/mezzotintlaw.QuantScales", spec := "quantScales", unfollowed := true, recurses := true, apart := false }
def QuantScalesSaid : Prop := quantScalesRow.holds Try.pinned (OpenSpec.ofChange quantScalesSpec)

/-- ITS FALSE NEIGHBOUR: 'it returns false'. Refute it at one input. -/
def quantScalesWrong : ChangeSpec := { name := "quantScales", fn := fun _ => fun
  | [d1, d2] => { results := [.lit (.bool false)], args := [d1, d2] }
  | _ => none }
def QuantScalesWrongFalsely : Prop := quantScalesRow.holds Try.pinned (OpenSpec.ofChange quantScalesWrong)

/-- 'mezzotintkeep.QuantNear': WHATEVER THE INPUT: true; the input reads as it did. -/
def quantNearSpec : ChangeSpec := { name := "quantNear", fn := fun _ => fun
  | [d1, d2] => { results := [.lit (.bool true)], args := [d1, d2] }
  | _ => none }
def quantNearRow : OpenClaim := { program := "ytpbeehalicmdjaa", sum := "b5f5aed4a9ffbe7f58316648bb8af906d955ed5ca1e46eef9868a5d028e197d6", func := "mezzotint/mezzotintkeep.QuantNear", spec := "quantNear", unfollowed := true, recurses := true, apart := false }
def QuantNearSaid : Prop := quantNearRow.holds Try.pinned (OpenSpec.ofChange quantNearSpec)

/-- ITS FALSE NEIGHBOUR: 'it returns false'. Refute it at one input. -/
def quantNearWrong : ChangeSpec := { name := "quantNear", fn := fun _ => fun
  | [d1, d2] => { results := [.lit (.bool false)], args := [d1, d2] }
  | _ => none }
def QuantNearWrongFalsely : Prop := quantNearRow.holds Try.pinned (OpenSpec.ofChange quantNearWrong)

/-- 'mezzotintkeep.QuantOdd': WHATEVER THE INPUT: true; the input reads as it did. -/
def quantOddSpec : ChangeSpec := { name := "quantOdd", fn := fun _ => fun
  | [d1, d2] => { results := [.lit (.bool true)], args := [d1, d2] }
  | _ => none }
def quantOddRow : OpenClaim := { program := "ytpbeehalicmdjaa", sum := "b5f5aed4a9ffbe7f58316648bb8af906d955ed5ca1e46eef9868a5d028e197d6", func := "mezzotint/mezzotintkeep.QuantOdd", spec := "quantOdd", unfollowed := true, recurses := true, apart := false }
def QuantOddSaid : Prop := quantOddRow.holds Try.pinned (OpenSpec.ofChange quantOddSpec)

/-- ITS FALSE NEIGHBOUR: 'it returns false'. Refute it at one input. -/
def quantOddWrong : ChangeSpec := { name := "quantOdd", fn := fun _ => fun
  | [d1, d2] => { results := [.lit (.bool false)], args := [d1, d2] }
  | _ => none }
def QuantOddWrongFalsely : Prop := quantOddRow.holds Try.pinned (OpenSpec.ofChange quantOddWrong)

/-- 'mezzotintkeep.QuantBack': WHATEVER THE INPUT: true; the input reads as it did. -/
def quantBackSpec : ChangeSpec := { name := "quantBack", fn := fun _ => fun
  | [d1, d2] => { results := [.lit (.bool true)], args := [d1, d2] }
  | _ => none }
def quantBackRow : OpenClaim := { program := "ytpbeehalicmdjaa", sum := "b5f5aed4a9ffbe7f58316648bb8af906d955ed5ca1e46eef9868a5d028e197d6", func := "mezzotint/mezzotintkeep.QuantBack", spec := "quantBack", unfollowed := true, recurses := true, apart := false }
def QuantBackSaid : Prop := quantBackRow.holds Try.pinned (OpenSpec.ofChange quantBackSpec)

/-- ITS FALSE NEIGHBOUR: 'it returns false'. Refute it at one input. -/
def quantBackWrong : ChangeSpec := { name := "quantBack", fn := fun _ => fun
  | [d1, d2] => { results := [.lit (.bool false)], args := [d1, d2] }
  | _ => none }
def QuantBackWrongFalsely : Prop := quantBackRow.holds Try.pinned (OpenSpec.ofChange quantBackWrong)

/-- 'mezzotintkeep.QuantRises': WHATEVER THE INPUT: true; the input reads as it did. -/
def quantRisesSpec : ChangeSpec := { name := "quantRises", fn := fun _ => fun
  | [d1, d2, d3] => { results := [.lit (.bool true)], args := [d1, d2, d3] }
  | _ => none }
def quantRisesRow : OpenClaim := { program := "ytpbeehalicmdjaa", sum := "b5f5aed4a9ffbe7f58316648bb8af906d955ed5ca1e46eef9868a5d028e197d6", func := "mezzotint/mezzotintkeep.QuantRises", spec := "quantRises", unfollowed := true, recurses := true, apart := false }
def QuantRisesSaid : Prop := quantRisesRow.holds Try.pinned (OpenSpec.ofChange quantRisesSpec)

/-- ITS FALSE NEIGHBOUR: 'it returns false'. Refute it at one input. -/
def quantRisesWrong : ChangeSpec := { name := "quantRises", fn := fun _ => fun
  | [d1, d2, d3] => { results := [.lit (.bool false)], args := [d1, d2, d3] }
  | _ => none }
def QuantRisesWrongFalsely : Prop := quantRisesRow.holds Try.pinned (OpenSpec.ofChange quantRisesWrong)

/-- 'mezzotintkeep.QuantOnes': WHATEVER THE INPUT: true; the input reads as it did. -/
def quantOnesSpec : ChangeSpec := { name := "quantOnes", fn := fun _ => fun
  | [d1, d2] => { results := [.lit (.bool true)], args := [d1, d2] }
  | _ => none }
def quantOnesRow : OpenClaim := { program := "ytpbeehalicmdjaa", sum := "b5f5aed4a9ffbe7f58316648bb8af906d955ed5ca1e46eef9868a5d028e197d6", func := "mezzotint/mezzotintkeep.QuantOnes", spec := "quantOnes", unfollowed := true, recurses := true, apart := false }
def QuantOnesSaid : Prop := quantOnesRow.holds Try.pinned (OpenSpec.ofChange quantOnesSpec)

/-- ITS FALSE NEIGHBOUR: 'it returns false'. Refute it at one input. -/
def quantOnesWrong : ChangeSpec := { name := "quantOnes", fn := fun _ => fun
  | [d1, d2] => { results := [.lit (.bool false)], args := [d1, d2] }
  | _ => none }
def QuantOnesWrongFalsely : Prop := quantOnesRow.holds Try.pinned (OpenSpec.ofChange quantOnesWrong)

/-- 'mezzotintkeep.QuantScaled': WHATEVER THE INPUT: true; the input reads as it did. -/
def quantScaledSpec : ChangeSpec := { name := "quantScaled", fn := fun _ => fun
  | [d1, d2, d3] => { results := [.lit (.bool true)], args := [d1, d2, d3] }
  | _ => none }
def quantScaledRow : OpenClaim := { program := "ytpbeehalicmdjaa", sum := "b5f5aed4a9ffbe7f58316648bb8af906d955ed5ca1e46eef9868a5d028e197d6", func := "mezzotint/mezzotintkeep.QuantScaled", spec := "quantScaled", unfollowed := true, recurses := true, apart := false }
def QuantScaledSaid : Prop := quantScaledRow.holds Try.pinned (OpenSpec.ofChange quantScaledSpec)

/-- ITS FALSE NEIGHBOUR: 'it returns false'. Refute it at one input. -/
def quantScaledWrong : ChangeSpec := { name := "quantScaled", fn := fun _ => fun
  | [d1, d2, d3] => { results := [.lit (.bool false)], args := [d1, d2, d3] }
  | _ => none }
def QuantScaledWrongFalsely : Prop := quantScaledRow.holds Try.pinned (OpenSpec.ofChange quantScaledWrong)

/-- 'mezzotintkeep.QuantSteps': WHATEVER THE INPUT: true; the input reads as it did. -/
def quantStepsSpec : ChangeSpec := { name := "quantSteps", fn := fun _ => fun
  | [d1, d2, d3] => { results := [.lit (.bool true)], args := [d1, d2, d3] }
  | _ => none }
def quantStepsRow : OpenClaim := { program := "ytpbeehalicmdjaa", sum := "b5f5aed4a9ffbe7f58316648bb8af906d955ed5ca1e46eef9868a5d028e197d6", func := "mezzotint/mezzotintkeep.QuantSteps", spec := "quantSteps", unfollowed := true, recurses := true, apart := false }
def QuantStepsSaid : Prop := quantStepsRow.holds Try.pinned (OpenSpec.ofChange quantStepsSpec)

/-- ITS FALSE NEIGHBOUR: 'it returns false'. Refute it at one input. -/
def quantStepsWrong : ChangeSpec := { name := "quantSteps", fn := fun _ => fun
  | [d1, d2, d3] => { results := [.lit (.bool false)], args := [d1, d2, d3] }
  | _ => none }
def QuantStepsWrongFalsely : Prop := quantStepsRow.holds Try.pinned (OpenSpec.ofChange quantStepsWrong)

/- THE SECOND FORM. 'bulk': how many values and letters a reading holds, each counted each time it is reached (what is shared counts as often as it is met; a slice's spare places count too). A statement '..UptoSaid' is the law's where the arguments, and the package variables that the reading takes, are together of bulk at most 1048576: NARROWER than '..Said'. Prove '..Said' where nothing that the law and all that it calls make is longer than what came in: it says more and counts as full. Else prove '..UptoSaid'. A law counts once. -/
mutual
def uptoBulk {H : Type} : DataW H → Nat
  | .lit (.string bytes) => bytes.length + 1
  | .lit _ => 1
  | .nil => 1
  | .ptr d => uptoBulk d + 1
  | .slice elems spare => uptoBulkAll elems + uptoBulkAll spare + 1
  | .agg parts => uptoBulkAll parts + 1
  | .iface _ d => uptoBulk d + 1
  | .map entries => uptoBulkEntries entries + 1
  | .held _ => 1
def uptoBulkAll {H : Type} : List (DataW H) → Nat
  | [] => 0
  | d :: r => uptoBulk d + uptoBulkAll r
def uptoBulkEntries {H : Type} : List (Lit × DataW H) → Nat
  | [] => 0
  | x :: r => uptoBulkEntry x + uptoBulkEntries r
def uptoBulkEntry {H : Type} : Lit × DataW H → Nat
  | (.string bytes, d) => bytes.length + uptoBulk d + 1
  | (_, d) => uptoBulk d + 1
 end
def uptoSmall : (H : Type) → List (DataW H) → Bool := fun _ ds => decide (uptoBulkAll ds ≤ 1048576)
def OpenSpec.upto (s : _root_.Go.ChangeSpec) : _root_.Go.OpenSpec := { _root_.Go.OpenSpec.ofChange s with cond := some uptoSmall }

/-- 'mezzotintlaw.QuantDowns', WHERE WHAT IT READS IS OF BULK AT MOST 1048576: true; the input reads as it did. -/
def quantDownsUptoRow : OpenClaim := { program := "ytpbeehalicmdjaa", sum := "b5f5aed4a9ffbe7f58316648bb8af906d955ed5ca1e46eef9868a5d028e197d6", func := "mezzotint/mezzotintlaw.QuantDowns", spec := "quantDowns", unfollowed := true, recurses := true, apart := false, narrowed := true }
def QuantDownsUptoSaid : Prop := quantDownsUptoRow.holds Try.pinned (OpenSpec.upto quantDownsSpec)

/-- 'mezzotintlaw.QuantUps', WHERE WHAT IT READS IS OF BULK AT MOST 1048576: true; the input reads as it did. -/
def quantUpsUptoRow : OpenClaim := { program := "ytpbeehalicmdjaa", sum := "b5f5aed4a9ffbe7f58316648bb8af906d955ed5ca1e46eef9868a5d028e197d6", func := "mezzotint/mezzotintlaw.QuantUps", spec := "quantUps", unfollowed := true, recurses := true, apart := false, narrowed := true }
def QuantUpsUptoSaid : Prop := quantUpsUptoRow.holds Try.pinned (OpenSpec.upto quantUpsSpec)

/-- 'mezzotintlaw.QuantScales', WHERE WHAT IT READS IS OF BULK AT MOST 1048576: true; the input reads as it did. -/
def quantScalesUptoRow : OpenClaim := { program := "ytpbeehalicmdjaa", sum := "b5f5aed4a9ffbe7f58316648bb8af906d955ed5ca1e46eef9868a5d028e197d6", func := "mezzotint/mezzotintlaw.QuantScales", spec := "quantScales", unfollowed := true, recurses := true, apart := false, narrowed := true }
def QuantScalesUptoSaid : Prop := quantScalesUptoRow.holds Try.pinned (OpenSpec.upto quantScalesSpec)

/-- 'mezzotintkeep.QuantNear', WHERE WHAT IT READS IS OF BULK AT MOST 1048576: true; the input reads as it did. -/
def quantNearUptoRow : OpenClaim := { program := "ytpbeehalicmdjaa", sum := "b5f5aed4a9ffbe7f58316648bb8af906d955ed5ca1e46eef9868a5d028e197d6", func := "mezzotint/mezzotintkeep.QuantNear", spec := "quantNear", unfollowed := true, recurses := true, apart := false, narrowed := true }
def QuantNearUptoSaid : Prop := quantNearUptoRow.holds Try.pinned (OpenSpec.upto quantNearSpec)

/-- 'mezzotintkeep.QuantOdd', WHERE WHAT IT READS IS OF BULK AT MOST 1048576: true; the input reads as it did. -/
def quantOddUptoRow : OpenClaim := { program := "ytpbeehalicmdjaa", sum := "b5f5aed4a9ffbe7f58316648bb8af906d955ed5ca1e46eef9868a5d028e197d6", func := "mezzotint/mezzotintkeep.QuantOdd", spec := "quantOdd", unfollowed := true, recurses := true, apart := false, narrowed := true }
def QuantOddUptoSaid : Prop := quantOddUptoRow.holds Try.pinned (OpenSpec.upto quantOddSpec)

/-- 'mezzotintkeep.QuantBack', WHERE WHAT IT READS IS OF BULK AT MOST 1048576: true; the input reads as it did. -/
def quantBackUptoRow : OpenClaim := { program := "ytpbeehalicmdjaa", sum := "b5f5aed4a9ffbe7f58316648bb8af906d955ed5ca1e46eef9868a5d028e197d6", func := "mezzotint/mezzotintkeep.QuantBack", spec := "quantBack", unfollowed := true, recurses := true, apart := false, narrowed := true }
def QuantBackUptoSaid : Prop := quantBackUptoRow.holds Try.pinned (OpenSpec.upto quantBackSpec)

/-- 'mezzotintkeep.QuantRises', WHERE WHAT IT READS IS OF BULK AT MOST 1048576: true; the input reads as it did. -/
def quantRisesUptoRow : OpenClaim := { program := "ytpbeehalicmdjaa", sum := "b5f5aed4a9ffbe7f58316648bb8af906d955ed5ca1e46eef9868a5d028e197d6", func := "mezzotint/mezzotintkeep.QuantRises", spec := "quantRises", unfollowed := true, recurses := true, apart := false, narrowed := true }
def QuantRisesUptoSaid : Prop := quantRisesUptoRow.holds Try.pinned (OpenSpec.upto quantRisesSpec)

/-- 'mezzotintkeep.QuantOnes', WHERE WHAT IT READS IS OF BULK AT MOST 1048576: true; the input reads as it did. -/
def quantOnesUptoRow : OpenClaim := { program := "ytpbeehalicmdjaa", sum := "b5f5aed4a9ffbe7f58316648bb8af906d955ed5ca1e46eef9868a5d028e197d6", func := "mezzotint/mezzotintkeep.QuantOnes", spec := "quantOnes", unfollowed := true, recurses := true, apart := false, narrowed := true }
def QuantOnesUptoSaid : Prop := quantOnesUptoRow.holds Try.pinned (OpenSpec.upto quantOnesSpec)

/-- 'mezzotintkeep.QuantScaled', WHERE WHAT IT READS IS OF BULK AT MOST 1048576: true; the input reads as it did. -/
def quantScaledUptoRow : OpenClaim := { program := "ytpbeehalicmdjaa", sum := "b5f5aed4a9ffbe7f58316648bb8af906d955ed5ca1e46eef9868a5d028e197d6", func := "mezzotint/mezzotintkeep.QuantScaled", spec := "quantScaled", unfollowed := true, recurses := true, apart := false, narrowed := true }
def QuantScaledUptoSaid : Prop := quantScaledUptoRow.holds Try.pinned (OpenSpec.upto quantScaledSpec)

/-- 'mezzotintkeep.QuantSteps', WHERE WHAT IT READS IS OF BULK AT MOST 1048576: true; the input reads as it did. -/
def quantStepsUptoRow : OpenClaim := { program := "ytpbeehalicmdjaa", sum := "b5f5aed4a9ffbe7f58316648bb8af906d955ed5ca1e46eef9868a5d028e197d6", func := "mezzotint/mezzotintkeep.QuantSteps", spec := "quantSteps", unfollowed := true, recurses := true, apart := false, narrowed := true }
def QuantStepsUptoSaid : Prop := quantStepsUptoRow.holds Try.pinned (OpenSpec.upto quantStepsSpec)

end Rows
end Go.Proofs.Ytpbeehalicmdjaa
