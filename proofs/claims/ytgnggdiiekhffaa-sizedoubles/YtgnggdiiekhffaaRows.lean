/-
  No cell of these rows narrows 'for every input' (looked for: loops, veiled, ifaces, maps, wideKeys, modest, calm, conditions, laid).
  DERIVED. THE GIVEN ROWS OF THIS SEAT. 5 by the template 'for every input the law returns true; each argument reads behind the call as it read before'; 0 by the template 'total and deterministic' (their statements: YtgnggdiiekhffaaTotals.lean).
  GIVEN WITH THE SEED: the statements are not yours to turn. If you find one false, say at which input.
  Laid BY PROGRAM, IN A SANDBOX (cutbox-rows.mjs): the forced cells as the released guide's own fill.sh prints them over the translation ee209c2c2ca78037… (all of the seat's roots in one cut). By AI agents, Wed Nov 11 2026. No macro, syntax, notation, axiom, sorry.
-/
import Derived.Test.YtgnggdiiekhffaaChecked
import GoSem.Claim
import GoSem.ClaimJoined
import GoSem.ClaimMapViews
import Derived.JoinedTies
import Derived.KernelRfl
namespace Go.Proofs.Ytgnggdiiekhffaa
/- THE CELL 'sum', in the pinned program and in every row, IS THE sha256 OF THE DUMP (.gsa) THAT YtgnggdiiekhffaaProg.lean LOADS. Nothing in Lean hashes anything: it is a label: what it is worth is what the hold of that sum in a sandbox is worth. -/
noncomputable def Try.pinned : Pinned := { name := "ytgnggdiiekhffaa", sum := "ee209c2c2ca78037f52365682b97e576b306f0cfdf5304187231b1de89126bd7", checked := Try.checked }
namespace Rows
def none {H : Type} : Left H := { results := [], args := [] }

/-- 'mezzotintlaw.SizeTells': WHATEVER THE INPUT: true; the input reads as it did. -/
def sizeTellsSpec : ChangeSpec := { name := "sizeTells", fn := fun _ => fun
  | [d] => { results := [.lit (.bool true)], args := [d] }
  | _ => none }
def sizeTellsRow : OpenClaim := { program := "ytgnggdiiekhffaa", sum := "ee209c2c2ca78037f52365682b97e576b306f0cfdf5304187231b1de89126bd7", func := "mezzotint/mezzotintlaw.SizeTells", spec := "sizeTells", apart := false }
def SizeTellsSaid : Prop := sizeTellsRow.holds Try.pinned (OpenSpec.ofChange sizeTellsSpec)

/-- ITS FALSE NEIGHBOUR: 'it returns false'. Refute it at one input. -/
def sizeTellsWrong : ChangeSpec := { name := "sizeTells", fn := fun _ => fun
  | [d] => { results := [.lit (.bool false)], args := [d] }
  | _ => none }
def SizeTellsWrongFalsely : Prop := sizeTellsRow.holds Try.pinned (OpenSpec.ofChange sizeTellsWrong)

/-- 'mezzotintlaw.SizeBacks': WHATEVER THE INPUT: true; the input reads as it did. -/
def sizeBacksSpec : ChangeSpec := { name := "sizeBacks", fn := fun _ => fun
  | [d1, d2] => { results := [.lit (.bool true)], args := [d1, d2] }
  | _ => none }
def sizeBacksRow : OpenClaim := { program := "ytgnggdiiekhffaa", sum := "ee209c2c2ca78037f52365682b97e576b306f0cfdf5304187231b1de89126bd7", func := "mezzotint/mezzotintlaw.SizeBacks", spec := "sizeBacks", apart := false }
def SizeBacksSaid : Prop := sizeBacksRow.holds Try.pinned (OpenSpec.ofChange sizeBacksSpec)

/-- ITS FALSE NEIGHBOUR: 'it returns false'. Refute it at one input. -/
def sizeBacksWrong : ChangeSpec := { name := "sizeBacks", fn := fun _ => fun
  | [d1, d2] => { results := [.lit (.bool false)], args := [d1, d2] }
  | _ => none }
def SizeBacksWrongFalsely : Prop := sizeBacksRow.holds Try.pinned (OpenSpec.ofChange sizeBacksWrong)

/-- 'mezzotintkeep.SizeBack': WHATEVER THE INPUT: true; the input reads as it did. -/
def sizeBackSpec : ChangeSpec := { name := "sizeBack", fn := fun _ => fun
  | [d1, d2, d3] => { results := [.lit (.bool true)], args := [d1, d2, d3] }
  | _ => none }
def sizeBackRow : OpenClaim := { program := "ytgnggdiiekhffaa", sum := "ee209c2c2ca78037f52365682b97e576b306f0cfdf5304187231b1de89126bd7", func := "mezzotint/mezzotintkeep.SizeBack", spec := "sizeBack", apart := false }
def SizeBackSaid : Prop := sizeBackRow.holds Try.pinned (OpenSpec.ofChange sizeBackSpec)

/-- ITS FALSE NEIGHBOUR: 'it returns false'. Refute it at one input. -/
def sizeBackWrong : ChangeSpec := { name := "sizeBack", fn := fun _ => fun
  | [d1, d2, d3] => { results := [.lit (.bool false)], args := [d1, d2, d3] }
  | _ => none }
def SizeBackWrongFalsely : Prop := sizeBackRow.holds Try.pinned (OpenSpec.ofChange sizeBackWrong)

/-- 'mezzotintkeep.SizeRises': WHATEVER THE INPUT: true; the input reads as it did. -/
def sizeRisesSpec : ChangeSpec := { name := "sizeRises", fn := fun _ => fun
  | [d1, d2] => { results := [.lit (.bool true)], args := [d1, d2] }
  | _ => none }
def sizeRisesRow : OpenClaim := { program := "ytgnggdiiekhffaa", sum := "ee209c2c2ca78037f52365682b97e576b306f0cfdf5304187231b1de89126bd7", func := "mezzotint/mezzotintkeep.SizeRises", spec := "sizeRises", apart := false }
def SizeRisesSaid : Prop := sizeRisesRow.holds Try.pinned (OpenSpec.ofChange sizeRisesSpec)

/-- ITS FALSE NEIGHBOUR: 'it returns false'. Refute it at one input. -/
def sizeRisesWrong : ChangeSpec := { name := "sizeRises", fn := fun _ => fun
  | [d1, d2] => { results := [.lit (.bool false)], args := [d1, d2] }
  | _ => none }
def SizeRisesWrongFalsely : Prop := sizeRisesRow.holds Try.pinned (OpenSpec.ofChange sizeRisesWrong)

/-- 'mezzotintkeep.SizeDoubles': WHATEVER THE INPUT: true; the input reads as it did. -/
def sizeDoublesSpec : ChangeSpec := { name := "sizeDoubles", fn := fun _ => fun
  | [d] => { results := [.lit (.bool true)], args := [d] }
  | _ => none }
def sizeDoublesRow : OpenClaim := { program := "ytgnggdiiekhffaa", sum := "ee209c2c2ca78037f52365682b97e576b306f0cfdf5304187231b1de89126bd7", func := "mezzotint/mezzotintkeep.SizeDoubles", spec := "sizeDoubles", apart := false }
def SizeDoublesSaid : Prop := sizeDoublesRow.holds Try.pinned (OpenSpec.ofChange sizeDoublesSpec)

/-- ITS FALSE NEIGHBOUR: 'it returns false'. Refute it at one input. -/
def sizeDoublesWrong : ChangeSpec := { name := "sizeDoubles", fn := fun _ => fun
  | [d] => { results := [.lit (.bool false)], args := [d] }
  | _ => none }
def SizeDoublesWrongFalsely : Prop := sizeDoublesRow.holds Try.pinned (OpenSpec.ofChange sizeDoublesWrong)

/- THE SECOND FORM. 'bulk': how many values and letters a reading holds, each counted each time it is reached (what is shared counts as often as it is met; a slice's spare places count too). A statement '..UptoSaid' is the law's where the arguments, and the package variables that the reading takes, are together of bulk at most 1048576: NARROWER than '..Said'. Prove '..Said' where nothing that the law and all that it calls make is longer than what came in: it says more and counts as full. Else prove '..UptoSaid'. A law counts once. -/
mutual
def uptoBulk {H : Type} : DataW H → Nat
  | .lit (.string bytes) => bytes.length + 1
  | .lit _ => 1
  | .nil => 1
  | .ptr d => uptoBulk d + 1
  | .slice elems spare => uptoBulkAll elems + uptoBulkAll spare + 1
  | .agg parts => uptoBulkAll parts + 1
  | .iface _ d => uptoBulk d + 1
  | .map entries => uptoBulkEntries entries + 1
  | .held _ => 1
def uptoBulkAll {H : Type} : List (DataW H) → Nat
  | [] => 0
  | d :: r => uptoBulk d + uptoBulkAll r
def uptoBulkEntries {H : Type} : List (Lit × DataW H) → Nat
  | [] => 0
  | x :: r => uptoBulkEntry x + uptoBulkEntries r
def uptoBulkEntry {H : Type} : Lit × DataW H → Nat
  | (.string bytes, d) => bytes.length + uptoBulk d + 1
  | (_, d) => uptoBulk d + 1
 end
def uptoSmall : (H : Type) → List (DataW H) → Bool := fun _ ds => decide (uptoBulkAll ds ≤ 1048576)
def OpenSpec.upto (s : _root_.Go.ChangeSpec) : _root_.Go.OpenSpec := { _root_.Go.OpenSpec.ofChange s with cond := some uptoSmall }

/-- 'mezzotintlaw.SizeTells', WHERE WHAT IT READS IS OF BULK AT MOST 1048576: true; the input reads as it did. -/
def sizeTellsUptoRow : OpenClaim := { program := "ytgnggdiiekhffaa", sum := "ee209c2c2ca78037f52365682b97e576b306f0cfdf5304187231b1de89126bd7", func := "mezzotint/mezzotintlaw.SizeTells", spec := "sizeTells", apart := false, narrowed := true }
def SizeTellsUptoSaid : Prop := sizeTellsUptoRow.holds Try.pinned (OpenSpec.upto sizeTellsSpec)

/-- 'mezzotintlaw.SizeBacks', WHERE WHAT IT READS IS OF BULK AT MOST 1048576: true; the input reads as it did. -/
def sizeBacksUptoRow : OpenClaim := { program := "ytgnggdiiekhffaa", sum := "ee209c2c2ca78037f52365682b97e576b306f0cfdf5304187231b1de89126bd7", func := "mezzotint/mezzotintlaw.SizeBacks", spec := "sizeBacks", apart := false, narrowed := true }
def SizeBacksUptoSaid : Prop := sizeBacksUptoRow.holds Try.pinned (OpenSpec.upto sizeBacksSpec)

/-- 'mezzotintkeep.SizeBack', WHERE WHAT IT READS IS OF BULK AT MOST 1048576: true; the input reads as it did. -/
def sizeBackUptoRow : OpenClaim := { program := "ytgnggdiiekhffaa", sum := "ee209c2c2ca78037f52365682b97e576b306f0cfdf5304187231b1de89126bd7", func := "mezzotint/mezzotintkeep.SizeBack", spec := "sizeBack", apart := false, narrowed := true }
def SizeBackUptoSaid : Prop := sizeBackUptoRow.holds Try.pinned (OpenSpec.upto sizeBackSpec)

/-- 'mezzotintkeep.SizeRises', WHERE WHAT IT READS IS OF BULK AT MOST 1048576: true; the input reads as it did. -/
def sizeRisesUptoRow : OpenClaim := { program := "ytgnggdiiekhffaa", sum := "ee209c2c2ca78037f52365682b97e576b306f0cfdf5304187231b1de89126bd7", func := "mezzotint/mezzotintkeep.SizeRises", spec := "sizeRises", apart := false, narrowed := true }
def SizeRisesUptoSaid : Prop := sizeRisesUptoRow.holds Try.pinned (OpenSpec.upto sizeRisesSpec)

/-- 'mezzotintkeep.SizeDoubles', WHERE WHAT IT READS IS OF BULK AT MOST 1048576: true; the input reads as it did. -/
def sizeDoublesUptoRow : OpenClaim := { program := "ytgnggdiiekhffaa", sum := "ee209c2c2ca78037f52365682b97e576b306f0cfdf5304187231b1de89126bd7", func := "mezzotint/mezzotintkeep.SizeDoubles", spec := "sizeDoubles", apart := false, narrowed := true }
def SizeDoublesUptoSaid : Prop := sizeDoublesUptoRow.holds Try.pinned (OpenSpec.upto sizeDoublesSpec)

end Rows
end Go.Proofs.Ytgnggdiiekhffaa
