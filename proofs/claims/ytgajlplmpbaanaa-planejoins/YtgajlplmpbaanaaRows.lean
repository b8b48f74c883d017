/-
  No cell of these rows narrows 'for every input' (looked for: loops, veiled, ifaces, maps, wideKeys, modest, calm, conditions, laid).
  DERIVED. THE GIVEN ROWS OF THIS SEAT. 6 by the template 'for every input the law returns true; each argument reads behind the call as it read before'; 0 by the template 'total and deterministic' (their statements: YtgajlplmpbaanaaTotals.lean).
  GIVEN WITH THE SEED: the statements are not yours to turn. If you find one false, say at which input.
  Laid BY PROGRAM, IN A SANDBOX (cutbox-rows.mjs): the forced cells as the released guide's own fill.sh prints them over the translation 747f0371d205df90… (all of the seat's roots in one cut). By AI agents, Wed Nov 11 2026. No macro, syntax, notation, axiom, sorry.
-/
import Derived.Test.YtgajlplmpbaanaaChecked
import GoSem.Claim
import GoSem.ClaimJoined
import GoSem.ClaimMapViews
import Derived.JoinedTies
import Derived.KernelRfl
namespace Go.Proofs.Ytgajlplmpbaanaa
/- THE CELL 'sum', in the pinned program and in every row, IS THE sha256 OF THE DUMP (.gsa) THAT YtgajlplmpbaanaaProg.lean LOADS. Nothing in Lean hashes anything: it is a label: what it is worth is what the hold of that sum in a sandbox is worth. -/
noncomputable def Try.pinned : Pinned := { name := "ytgajlplmpbaanaa", sum := "747f0371d205df90f82f44cbf46ddeae7157dc21a5c0b2c85878a868ccd0c1b4", checked := Try.checked }
namespace Rows
def none {H : Type} : Left H := { results := [], args := [] }

/-- 'mezzotintlaw.PlaneCuts': WHATEVER THE INPUT: true; the input reads as it did. -/
def planeCutsSpec : ChangeSpec := { name := "planeCuts", fn := fun _ => fun
  | [d1, d2, d3] => { results := [.lit (.bool true)], args := [d1, d2, d3] }
  | _ => none }
def planeCutsRow : OpenClaim := { program := "ytgajlplmpbaanaa", sum := "747f0371d205df90f82f44cbf46ddeae7157dc21a5c0b2c85878a868ccd0c1b4", func := "mezzotint/mezzotintlaw.PlaneCuts", spec := "planeCuts", unfollowed := true, recurses := true, apart := false }
def PlaneCutsSaid : Prop := planeCutsRow.holds Try.pinned (OpenSpec.ofChange planeCutsSpec)

/-- ITS FALSE NEIGHBOUR: 'it returns false'. Refute it at one input. -/
def planeCutsWrong : ChangeSpec := { name := "planeCuts", fn := fun _ => fun
  | [d1, d2, d3] => { results := [.lit (.bool false)], args := [d1, d2, d3] }
  | _ => none }
def PlaneCutsWrongFalsely : Prop := planeCutsRow.holds Try.pinned (OpenSpec.ofChange planeCutsWrong)

/-- 'mezzotintlaw.PlaneJoins': WHATEVER THE INPUT: true; the input reads as it did. -/
def planeJoinsSpec : ChangeSpec := { name := "planeJoins", fn := fun _ => fun
  | [d1, d2, d3] => { results := [.lit (.bool true)], args := [d1, d2, d3] }
  | _ => none }
def planeJoinsRow : OpenClaim := { program := "ytgajlplmpbaanaa", sum := "747f0371d205df90f82f44cbf46ddeae7157dc21a5c0b2c85878a868ccd0c1b4", func := "mezzotint/mezzotintlaw.PlaneJoins", spec := "planeJoins", unfollowed := true, recurses := true, apart := false }
def PlaneJoinsSaid : Prop := planeJoinsRow.holds Try.pinned (OpenSpec.ofChange planeJoinsSpec)

/-- ITS FALSE NEIGHBOUR: 'it returns false'. Refute it at one input. -/
def planeJoinsWrong : ChangeSpec := { name := "planeJoins", fn := fun _ => fun
  | [d1, d2, d3] => { results := [.lit (.bool false)], args := [d1, d2, d3] }
  | _ => none }
def PlaneJoinsWrongFalsely : Prop := planeJoinsRow.holds Try.pinned (OpenSpec.ofChange planeJoinsWrong)

/-- 'mezzotintkeep.PlaneBack': WHATEVER THE INPUT: true; the input reads as it did. -/
def planeBackSpec : ChangeSpec := { name := "planeBack", fn := fun _ => fun
  | [d1, d2, d3] => { results := [.lit (.bool true)], args := [d1, d2, d3] }
  | _ => none }
def planeBackRow : OpenClaim := { program := "ytgajlplmpbaanaa", sum := "747f0371d205df90f82f44cbf46ddeae7157dc21a5c0b2c85878a868ccd0c1b4", func := "mezzotint/mezzotintkeep.PlaneBack", spec := "planeBack", unfollowed := true, recurses := true, apart := false }
def PlaneBackSaid : Prop := planeBackRow.holds Try.pinned (OpenSpec.ofChange planeBackSpec)

/-- ITS FALSE NEIGHBOUR: 'it returns false'. Refute it at one input. -/
def planeBackWrong : ChangeSpec := { name := "planeBack", fn := fun _ => fun
  | [d1, d2, d3] => { results := [.lit (.bool false)], args := [d1, d2, d3] }
  | _ => none }
def PlaneBackWrongFalsely : Prop := planeBackRow.holds Try.pinned (OpenSpec.ofChange planeBackWrong)

/-- 'mezzotintkeep.PlaneEdge': WHATEVER THE INPUT: true; the input reads as it did. -/
def planeEdgeSpec : ChangeSpec := { name := "planeEdge", fn := fun _ => fun
  | [d1, d2, d3] => { results := [.lit (.bool true)], args := [d1, d2, d3] }
  | _ => none }
def planeEdgeRow : OpenClaim := { program := "ytgajlplmpbaanaa", sum := "747f0371d205df90f82f44cbf46ddeae7157dc21a5c0b2c85878a868ccd0c1b4", func := "mezzotint/mezzotintkeep.PlaneEdge", spec := "planeEdge", unfollowed := true, recurses := true, apart := false }
def PlaneEdgeSaid : Prop := planeEdgeRow.holds Try.pinned (OpenSpec.ofChange planeEdgeSpec)

/-- ITS FALSE NEIGHBOUR: 'it returns false'. Refute it at one input. -/
def planeEdgeWrong : ChangeSpec := { name := "planeEdge", fn := fun _ => fun
  | [d1, d2, d3] => { results := [.lit (.bool false)], args := [d1, d2, d3] }
  | _ => none }
def PlaneEdgeWrongFalsely : Prop := planeEdgeRow.holds Try.pinned (OpenSpec.ofChange planeEdgeWrong)

/-- 'mezzotintkeep.PlaneClamp': WHATEVER THE INPUT: true; the input reads as it did. -/
def planeClampSpec : ChangeSpec := { name := "planeClamp", fn := fun _ => fun
  | [d1, d2, d3] => { results := [.lit (.bool true)], args := [d1, d2, d3] }
  | _ => none }
def planeClampRow : OpenClaim := { program := "ytgajlplmpbaanaa", sum := "747f0371d205df90f82f44cbf46ddeae7157dc21a5c0b2c85878a868ccd0c1b4", func := "mezzotint/mezzotintkeep.PlaneClamp", spec := "planeClamp", unfollowed := true, recurses := true, apart := false }
def PlaneClampSaid : Prop := planeClampRow.holds Try.pinned (OpenSpec.ofChange planeClampSpec)

/-- ITS FALSE NEIGHBOUR: 'it returns false'. Refute it at one input. -/
def planeClampWrong : ChangeSpec := { name := "planeClamp", fn := fun _ => fun
  | [d1, d2, d3] => { results := [.lit (.bool false)], args := [d1, d2, d3] }
  | _ => none }
def PlaneClampWrongFalsely : Prop := planeClampRow.holds Try.pinned (OpenSpec.ofChange planeClampWrong)

/-- 'mezzotintkeep.PlaneMany': WHATEVER THE INPUT: true; the input reads as it did. -/
def planeManySpec : ChangeSpec := { name := "planeMany", fn := fun _ => fun
  | [d1, d2] => { results := [.lit (.bool true)], args := [d1, d2] }
  | _ => none }
def planeManyRow : OpenClaim := { program := "ytgajlplmpbaanaa", sum := "747f0371d205df90f82f44cbf46ddeae7157dc21a5c0b2c85878a868ccd0c1b4", func := "mezzotint/mezzotintkeep.PlaneMany", spec := "planeMany", unfollowed := true, recurses := true, apart := false }
def PlaneManySaid : Prop := planeManyRow.holds Try.pinned (OpenSpec.ofChange planeManySpec)

/-- ITS FALSE NEIGHBOUR: 'it returns false'. Refute it at one input. -/
def planeManyWrong : ChangeSpec := { name := "planeMany", fn := fun _ => fun
  | [d1, d2] => { results := [.lit (.bool false)], args := [d1, d2] }
  | _ => none }
def PlaneManyWrongFalsely : Prop := planeManyRow.holds Try.pinned (OpenSpec.ofChange planeManyWrong)

/- THE SECOND FORM. 'bulk': how many values and letters a reading holds, each counted each time it is reached (what is shared counts as often as it is met; a slice's spare places count too). A statement '..UptoSaid' is the law's where the arguments, and the package variables that the reading takes, are together of bulk at most 1048576: NARROWER than '..Said'. Prove '..Said' where nothing that the law and all that it calls make is longer than what came in: it says more and counts as full. Else prove '..UptoSaid'. A law counts once. -/
mutual
def uptoBulk {H : Type} : DataW H → Nat
  | .lit (.string bytes) => bytes.length + 1
  | .lit _ => 1
  | .nil => 1
  | .ptr d => uptoBulk d + 1
  | .slice elems spare => uptoBulkAll elems + uptoBulkAll spare + 1
  | .agg parts => uptoBulkAll parts + 1
  | .iface _ d => uptoBulk d + 1
  | .map entries => uptoBulkEntries entries + 1
  | .held _ => 1
def uptoBulkAll {H : Type} : List (DataW H) → Nat
  | [] => 0
  | d :: r => uptoBulk d + uptoBulkAll r
def uptoBulkEntries {H : Type} : List (Lit × DataW H) → Nat
  | [] => 0
  | x :: r => uptoBulkEntry x + uptoBulkEntries r
def uptoBulkEntry {H : Type} : Lit × DataW H → Nat
  | (.string bytes, d) => bytes.length + uptoBulk d + 1
  | (_, d) => uptoBulk d + 1
 end
def uptoSmall : (H : Type) → List (DataW H) → Bool := fun _ ds => decide (uptoBulkAll ds ≤ 1048576)
def OpenSpec.upto (s : _root_.Go.ChangeSpec) : _root_.Go.OpenSpec := { _root_.Go.OpenSpec.ofChange s with cond := some uptoSmall }

/-- 'mezzotintlaw.PlaneCuts', WHERE WHAT IT READS IS OF BULK AT MOST 1048576: true; the input reads as it did. -/
def planeCutsUptoRow : OpenClaim := { program := "ytgajlplmpbaanaa", sum := "747f0371d205df90f82f44cbf46ddeae7157dc21a5c0b2c85878a868ccd0c1b4", func := "mezzotint/mezzotintlaw.PlaneCuts", spec := "planeCuts", unfollowed := true, recurses := true, apart := false, narrowed := true }
def PlaneCutsUptoSaid : Prop := planeCutsUptoRow.holds Try.pinned (OpenSpec.upto planeCutsSpec)

/-- 'mezzotintlaw.PlaneJoins', WHERE WHAT IT READS IS OF BULK AT MOST 1048576: true; the input reads as it did. -/
def planeJoinsUptoRow : OpenClaim := { program := "ytgajlplmpbaanaa", sum := "747f0371d205df90f82f44cbf46ddeae7157dc21a5c0b2c85878a868ccd0c1b4", func := "mezzotint/mezzotintlaw.PlaneJoins", spec := "planeJoins", unfollowed := true, recurses := true, apart := false, narrowed := true }
def PlaneJoinsUptoSaid : Prop := planeJoinsUptoRow.holds Try.pinned (OpenSpec.upto planeJoinsSpec)

/-- 'mezzotintkeep.PlaneBack', WHERE WHAT IT READS IS OF BULK AT MOST 1048576: true; the input reads as it did. -/
def planeBackUptoRow : OpenClaim := { program := "ytgajlplmpbaanaa", sum := "747f0371d205df90f82f44cbf46ddeae7157dc21a5c0b2c85878a868ccd0c1b4", func := "mezzotint/mezzotintkeep.PlaneBack", spec := "planeBack", unfollowed := true, recurses := true, apart := false, narrowed := true }
def PlaneBackUptoSaid : Prop := planeBackUptoRow.holds Try.pinned (OpenSpec.upto planeBackSpec)

/-- 'mezzotintkeep.PlaneEdge', WHERE WHAT IT READS IS OF BULK AT MOST 1048576: true; the input reads as it did. -/
def planeEdgeUptoRow : OpenClaim := { program := "ytgajlplmpbaanaa", sum := "747f0371d205df90f82f44cbf46ddeae7157dc21a5c0b2c85878a868ccd0c1b4", func := "mezzotint/mezzotintkeep.PlaneEdge", spec := "planeEdge", unfollowed := true, recurses := true, apart := false, narrowed := true }
def PlaneEdgeUptoSaid : Prop := planeEdgeUptoRow.holds Try.pinned (OpenSpec.upto planeEdgeSpec)

/-- 'mezzotintkeep.PlaneClamp', WHERE WHAT IT READS IS OF BULK AT MOST 1048576: true; the input reads as it did. -/
def planeClampUptoRow : OpenClaim := { program := "ytgajlplmpbaanaa", sum := "747f0371d205df90f82f44cbf46ddeae7157dc21a5c0b2c85878a868ccd0c1b4", func := "mezzotint/mezzotintkeep.PlaneClamp", spec := "planeClamp", unfollowed := true, recurses := true, apart := false, narrowed := true }
def PlaneClampUptoSaid : Prop := planeClampUptoRow.holds Try.pinned (OpenSpec.upto planeClampSpec)

/-- 'mezzotintkeep.PlaneMany', WHERE WHAT IT READS IS OF BULK AT MOST 1048576: true; the input reads as it did. -/
def planeManyUptoRow : OpenClaim := { program := "ytgajlplmpbaanaa", sum := "747f0371d205df90f82f44cbf46ddeae7157dc21a5c0b2c85878a868ccd0c1b4", func := "mezzotint/mezzotintkeep.PlaneMany", spec := "planeMany", unfollowed := true, recurses := true, apart := false, narrowed := true }
def PlaneManyUptoSaid : Prop := planeManyUptoRow.holds Try.pinned (OpenSpec.upto planeManySpec)

end Rows
end Go.Proofs.Ytgajlplmpbaanaa
