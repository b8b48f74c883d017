/-
  No cell of these rows narrows 'for every input' (looked for: loops, veiled, ifaces, maps, wideKeys, modest, calm, conditions, laid).
  DERIVED. THE GIVEN ROWS OF THIS SEAT. 11 by the template 'for every input the law returns true; each argument reads behind the call as it read before'; 0 by the template 'total and deterministic' (their statements: YthbcapjccfkldaaTotals.lean).
  GIVEN WITH THE SEED: the statements are not yours to turn. If you find one false, say at which input.
  Laid BY PROGRAM, IN A SANDBOX (cutbox-rows.mjs): the forced cells as the released guide's own fill.sh prints them over the translation 381eb32bf16bae0c… (all of the seat's roots in one cut). By AI agents, Wed Nov 11 2026. No macro, syntax, notation, axiom, sorry.
-/
import Derived.Test.YthbcapjccfkldaaChecked
import GoSem.Claim
import GoSem.ClaimJoined
import GoSem.ClaimMapViews
import Derived.JoinedTies
import Derived.KernelRfl
namespace Go.Proofs.Ythbcapjccfkldaa
/- THE CELL 'sum', in the pinned program and in every row, IS THE sha256 OF THE DUMP (.gsa) THAT YthbcapjccfkldaaProg.lean LOADS. Nothing in Lean hashes anything: it is a label: what it is worth is what the hold of that sum in a sandbox is worth. -/
noncomputable def Try.pinned : Pinned := { name := "ythbcapjccfkldaa", sum := "381eb32bf16bae0c3a2441e2b66dcfd7a4318ad1d22412aed84b5aa79edc325a", checked := Try.checked }
namespace Rows
def none {H : Type} : Left H := { results := [], args := [] }

/-- 'mezzotintlaw.TableChecks': WHATEVER THE INPUT: true; the input reads as it did. -/
def tableChecksSpec : ChangeSpec := { name := "tableChecks", fn := fun _ => fun
  | [d] => { results := [.lit (.bool true)], args := [d] }
  | _ => none }
def tableChecksRow : OpenClaim := { program := "ythbcapjccfkldaa", sum := "381eb32bf16bae0c3a2441e2b66dcfd7a4318ad1d22412aed84b5aa79edc325a", func := "mezzotint/mezzotintlaw.TableChecks", spec := "tableChecks", plainKeys := false, apart := false }
def TableChecksSaid : Prop := tableChecksRow.holds Try.pinned (OpenSpec.ofChange tableChecksSpec)

/-- ITS FALSE NEIGHBOUR: 'it returns false'. Refute it at one input. -/
def tableChecksWrong : ChangeSpec := { name := "tableChecks", fn := fun _ => fun
  | [d] => { results := [.lit (.bool false)], args := [d] }
  | _ => none }
def TableChecksWrongFalsely : Prop := tableChecksRow.holds Try.pinned (OpenSpec.ofChange tableChecksWrong)

/-- 'mezzotintlaw.TableWords': WHATEVER THE INPUT: true; the input reads as it did. -/
def tableWordsSpec : ChangeSpec := { name := "tableWords", fn := fun _ => fun
  | [d] => { results := [.lit (.bool true)], args := [d] }
  | _ => none }
def tableWordsRow : OpenClaim := { program := "ythbcapjccfkldaa", sum := "381eb32bf16bae0c3a2441e2b66dcfd7a4318ad1d22412aed84b5aa79edc325a", func := "mezzotint/mezzotintlaw.TableWords", spec := "tableWords", plainKeys := false, apart := false }
def TableWordsSaid : Prop := tableWordsRow.holds Try.pinned (OpenSpec.ofChange tableWordsSpec)

/-- ITS FALSE NEIGHBOUR: 'it returns false'. Refute it at one input. -/
def tableWordsWrong : ChangeSpec := { name := "tableWords", fn := fun _ => fun
  | [d] => { results := [.lit (.bool false)], args := [d] }
  | _ => none }
def TableWordsWrongFalsely : Prop := tableWordsRow.holds Try.pinned (OpenSpec.ofChange tableWordsWrong)

/-- 'mezzotintlaw.TableEncodes': WHATEVER THE INPUT: true; the input reads as it did. -/
def tableEncodesSpec : ChangeSpec := { name := "tableEncodes", fn := fun _ => fun
  | [d1, d2] => { results := [.lit (.bool true)], args := [d1, d2] }
  | _ => none }
def tableEncodesRow : OpenClaim := { program := "ythbcapjccfkldaa", sum := "381eb32bf16bae0c3a2441e2b66dcfd7a4318ad1d22412aed84b5aa79edc325a", func := "mezzotint/mezzotintlaw.TableEncodes", spec := "tableEncodes", plainKeys := false, apart := false }
def TableEncodesSaid : Prop := tableEncodesRow.holds Try.pinned (OpenSpec.ofChange tableEncodesSpec)

/-- ITS FALSE NEIGHBOUR: 'it returns false'. Refute it at one input. -/
def tableEncodesWrong : ChangeSpec := { name := "tableEncodes", fn := fun _ => fun
  | [d1, d2] => { results := [.lit (.bool false)], args := [d1, d2] }
  | _ => none }
def TableEncodesWrongFalsely : Prop := tableEncodesRow.holds Try.pinned (OpenSpec.ofChange tableEncodesWrong)

/-- 'mezzotintlaw.TableDecodes': WHATEVER THE INPUT: true; the input reads as it did. -/
def tableDecodesSpec : ChangeSpec := { name := "tableDecodes", fn := fun _ => fun
  | [d1, d2, d3] => { results := [.lit (.bool true)], args := [d1, d2, d3] }
  | _ => none }
def tableDecodesRow : OpenClaim := { program := "ythbcapjccfkldaa", sum := "381eb32bf16bae0c3a2441e2b66dcfd7a4318ad1d22412aed84b5aa79edc325a", func := "mezzotint/mezzotintlaw.TableDecodes", spec := "tableDecodes", inPlace := ["internal/abi.NoEscape"], plainKeys := false, apart := false }
def TableDecodesSaid : Prop := tableDecodesRow.holds Try.pinned (OpenSpec.ofChange tableDecodesSpec)

/-- ITS FALSE NEIGHBOUR: 'it returns false'. Refute it at one input. -/
def tableDecodesWrong : ChangeSpec := { name := "tableDecodes", fn := fun _ => fun
  | [d1, d2, d3] => { results := [.lit (.bool false)], args := [d1, d2, d3] }
  | _ => none }
def TableDecodesWrongFalsely : Prop := tableDecodesRow.holds Try.pinned (OpenSpec.ofChange tableDecodesWrong)

/-- 'mezzotintkeep.TablePrefix': WHATEVER THE INPUT: true; the input reads as it did. -/
def tablePrefixSpec : ChangeSpec := { name := "tablePrefix", fn := fun _ => fun
  | [d] => { results := [.lit (.bool true)], args := [d] }
  | _ => none }
def tablePrefixRow : OpenClaim := { program := "ythbcapjccfkldaa", sum := "381eb32bf16bae0c3a2441e2b66dcfd7a4318ad1d22412aed84b5aa79edc325a", func := "mezzotint/mezzotintkeep.TablePrefix", spec := "tablePrefix", plainKeys := false, apart := false }
def TablePrefixSaid : Prop := tablePrefixRow.holds Try.pinned (OpenSpec.ofChange tablePrefixSpec)

/-- ITS FALSE NEIGHBOUR: 'it returns false'. Refute it at one input. -/
def tablePrefixWrong : ChangeSpec := { name := "tablePrefix", fn := fun _ => fun
  | [d] => { results := [.lit (.bool false)], args := [d] }
  | _ => none }
def TablePrefixWrongFalsely : Prop := tablePrefixRow.holds Try.pinned (OpenSpec.ofChange tablePrefixWrong)

/-- 'mezzotintkeep.TableKraft': WHATEVER THE INPUT: true; the input reads as it did. -/
def tableKraftSpec : ChangeSpec := { name := "tableKraft", fn := fun _ => fun
  | [d] => { results := [.lit (.bool true)], args := [d] }
  | _ => none }
def tableKraftRow : OpenClaim := { program := "ythbcapjccfkldaa", sum := "381eb32bf16bae0c3a2441e2b66dcfd7a4318ad1d22412aed84b5aa79edc325a", func := "mezzotint/mezzotintkeep.TableKraft", spec := "tableKraft", plainKeys := false, apart := false }
def TableKraftSaid : Prop := tableKraftRow.holds Try.pinned (OpenSpec.ofChange tableKraftSpec)

/-- ITS FALSE NEIGHBOUR: 'it returns false'. Refute it at one input. -/
def tableKraftWrong : ChangeSpec := { name := "tableKraft", fn := fun _ => fun
  | [d] => { results := [.lit (.bool false)], args := [d] }
  | _ => none }
def TableKraftWrongFalsely : Prop := tableKraftRow.holds Try.pinned (OpenSpec.ofChange tableKraftWrong)

/-- 'mezzotintkeep.TableMay': WHATEVER THE INPUT: true; the input reads as it did. -/
def tableMaySpec : ChangeSpec := { name := "tableMay", fn := fun _ => fun
  | [d] => { results := [.lit (.bool true)], args := [d] }
  | _ => none }
def tableMayRow : OpenClaim := { program := "ythbcapjccfkldaa", sum := "381eb32bf16bae0c3a2441e2b66dcfd7a4318ad1d22412aed84b5aa79edc325a", func := "mezzotint/mezzotintkeep.TableMay", spec := "tableMay", plainKeys := false, apart := false }
def TableMaySaid : Prop := tableMayRow.holds Try.pinned (OpenSpec.ofChange tableMaySpec)

/-- ITS FALSE NEIGHBOUR: 'it returns false'. Refute it at one input. -/
def tableMayWrong : ChangeSpec := { name := "tableMay", fn := fun _ => fun
  | [d] => { results := [.lit (.bool false)], args := [d] }
  | _ => none }
def TableMayWrongFalsely : Prop := tableMayRow.holds Try.pinned (OpenSpec.ofChange tableMayWrong)

/-- 'mezzotintkeep.TableBack': WHATEVER THE INPUT: true; the input reads as it did. -/
def tableBackSpec : ChangeSpec := { name := "tableBack", fn := fun _ => fun
  | [d1, d2] => { results := [.lit (.bool true)], args := [d1, d2] }
  | _ => none }
def tableBackRow : OpenClaim := { program := "ythbcapjccfkldaa", sum := "381eb32bf16bae0c3a2441e2b66dcfd7a4318ad1d22412aed84b5aa79edc325a", func := "mezzotint/mezzotintkeep.TableBack", spec := "tableBack", plainKeys := false, apart := false }
def TableBackSaid : Prop := tableBackRow.holds Try.pinned (OpenSpec.ofChange tableBackSpec)

/-- ITS FALSE NEIGHBOUR: 'it returns false'. Refute it at one input. -/
def tableBackWrong : ChangeSpec := { name := "tableBack", fn := fun _ => fun
  | [d1, d2] => { results := [.lit (.bool false)], args := [d1, d2] }
  | _ => none }
def TableBackWrongFalsely : Prop := tableBackRow.holds Try.pinned (OpenSpec.ofChange tableBackWrong)

/-- 'mezzotintkeep.TableFront': WHATEVER THE INPUT: true; the input reads as it did. -/
def tableFrontSpec : ChangeSpec := { name := "tableFront", fn := fun _ => fun
  | [d1, d2, d3, d4] => { results := [.lit (.bool true)], args := [d1, d2, d3, d4] }
  | _ => none }
def tableFrontRow : OpenClaim := { program := "ythbcapjccfkldaa", sum := "381eb32bf16bae0c3a2441e2b66dcfd7a4318ad1d22412aed84b5aa79edc325a", func := "mezzotint/mezzotintkeep.TableFront", spec := "tableFront", plainKeys := false, apart := false }
def TableFrontSaid : Prop := tableFrontRow.holds Try.pinned (OpenSpec.ofChange tableFrontSpec)

/-- ITS FALSE NEIGHBOUR: 'it returns false'. Refute it at one input. -/
def tableFrontWrong : ChangeSpec := { name := "tableFront", fn := fun _ => fun
  | [d1, d2, d3, d4] => { results := [.lit (.bool false)], args := [d1, d2, d3, d4] }
  | _ => none }
def TableFrontWrongFalsely : Prop := tableFrontRow.holds Try.pinned (OpenSpec.ofChange tableFrontWrong)

/-- 'mezzotintkeep.TableNone': WHATEVER THE INPUT: true; the input reads as it did. -/
def tableNoneSpec : ChangeSpec := { name := "tableNone", fn := fun _ => fun
  | [d1, d2] => { results := [.lit (.bool true)], args := [d1, d2] }
  | _ => none }
def tableNoneRow : OpenClaim := { program := "ythbcapjccfkldaa", sum := "381eb32bf16bae0c3a2441e2b66dcfd7a4318ad1d22412aed84b5aa79edc325a", func := "mezzotint/mezzotintkeep.TableNone", spec := "tableNone", plainKeys := false, apart := false }
def TableNoneSaid : Prop := tableNoneRow.holds Try.pinned (OpenSpec.ofChange tableNoneSpec)

/-- ITS FALSE NEIGHBOUR: 'it returns false'. Refute it at one input. -/
def tableNoneWrong : ChangeSpec := { name := "tableNone", fn := fun _ => fun
  | [d1, d2] => { results := [.lit (.bool false)], args := [d1, d2] }
  | _ => none }
def TableNoneWrongFalsely : Prop := tableNoneRow.holds Try.pinned (OpenSpec.ofChange tableNoneWrong)

/-- 'mezzotintkeep.TableRenamed': WHATEVER THE INPUT: true; the input reads as it did. -/
def tableRenamedSpec : ChangeSpec := { name := "tableRenamed", fn := fun _ => fun
  | [d1, d2] => { results := [.lit (.bool true)], args := [d1, d2] }
  | _ => none }
def tableRenamedRow : OpenClaim := { program := "ythbcapjccfkldaa", sum := "381eb32bf16bae0c3a2441e2b66dcfd7a4318ad1d22412aed84b5aa79edc325a", func := "mezzotint/mezzotintkeep.TableRenamed", spec := "tableRenamed", plainKeys := false, apart := false }
def TableRenamedSaid : Prop := tableRenamedRow.holds Try.pinned (OpenSpec.ofChange tableRenamedSpec)

/-- ITS FALSE NEIGHBOUR: 'it returns false'. Refute it at one input. -/
def tableRenamedWrong : ChangeSpec := { name := "tableRenamed", fn := fun _ => fun
  | [d1, d2] => { results := [.lit (.bool false)], args := [d1, d2] }
  | _ => none }
def TableRenamedWrongFalsely : Prop := tableRenamedRow.holds Try.pinned (OpenSpec.ofChange tableRenamedWrong)

/- THE SECOND FORM. 'bulk': how many values and letters a reading holds, each counted each time it is reached (what is shared counts as often as it is met; a slice's spare places count too). A statement '..UptoSaid' is the law's where the arguments, and the package variables that the reading takes, are together of bulk at most 1048576: NARROWER than '..Said'. Prove '..Said' where nothing that the law and all that it calls make is longer than what came in: it says more and counts as full. Else prove '..UptoSaid'. A law counts once. -/
mutual
def uptoBulk {H : Type} : DataW H → Nat
  | .lit (.string bytes) => bytes.length + 1
  | .lit _ => 1
  | .nil => 1
  | .ptr d => uptoBulk d + 1
  | .slice elems spare => uptoBulkAll elems + uptoBulkAll spare + 1
  | .agg parts => uptoBulkAll parts + 1
  | .iface _ d => uptoBulk d + 1
  | .map entries => uptoBulkEntries entries + 1
  | .held _ => 1
def uptoBulkAll {H : Type} : List (DataW H) → Nat
  | [] => 0
  | d :: r => uptoBulk d + uptoBulkAll r
def uptoBulkEntries {H : Type} : List (Lit × DataW H) → Nat
  | [] => 0
  | x :: r => uptoBulkEntry x + uptoBulkEntries r
def uptoBulkEntry {H : Type} : Lit × DataW H → Nat
  | (.string bytes, d) => bytes.length + uptoBulk d + 1
  | (_, d) => uptoBulk d + 1
 end
def uptoSmall : (H : Type) → List (DataW H) → Bool := fun _ ds => decide (uptoBulkAll ds ≤ 1048576)
def OpenSpec.upto (s : _root_.Go.ChangeSpec) : _root_.Go.OpenSpec := { _root_.Go.OpenSpec.ofChange s with cond := some uptoSmall }

/-- 'mezzotintlaw.TableChecks', WHERE WHAT IT READS IS OF BULK AT MOST 1048576: true; the input reads as it did. -/
def tableChecksUptoRow : OpenClaim := { program := "ythbcapjccfkldaa", sum := "381eb32bf16bae0c3a2441e2b66dcfd7a4318ad1d22412aed84b5aa79edc325a", func := "mezzotint/mezzotintlaw.TableChecks", spec := "tableChecks", plainKeys := false, apart := false, narrowed := true }
def TableChecksUptoSaid : Prop := tableChecksUptoRow.holds Try.pinned (OpenSpec.upto tableChecksSpec)

/-- 'mezzotintlaw.TableWords', WHERE WHAT IT READS IS OF BULK AT MOST 1048576: true; the input reads as it did. -/
def tableWordsUptoRow : OpenClaim := { program := "ythbcapjccfkldaa", sum := "381eb32bf16bae0c3a2441e2b66dcfd7a4318ad1d22412aed84b5aa79edc325a", func := "mezzotint/mezzotintlaw.TableWords", spec := "tableWords", plainKeys := false, apart := false, narrowed := true }
def TableWordsUptoSaid : Prop := tableWordsUptoRow.holds Try.pinned (OpenSpec.upto tableWordsSpec)

/-- 'mezzotintlaw.TableEncodes', WHERE WHAT IT READS IS OF BULK AT MOST 1048576: true; the input reads as it did. -/
def tableEncodesUptoRow : OpenClaim := { program := "ythbcapjccfkldaa", sum := "381eb32bf16bae0c3a2441e2b66dcfd7a4318ad1d22412aed84b5aa79edc325a", func := "mezzotint/mezzotintlaw.TableEncodes", spec := "tableEncodes", plainKeys := false, apart := false, narrowed := true }
def TableEncodesUptoSaid : Prop := tableEncodesUptoRow.holds Try.pinned (OpenSpec.upto tableEncodesSpec)

/-- 'mezzotintlaw.TableDecodes', WHERE WHAT IT READS IS OF BULK AT MOST 1048576: true; the input reads as it did. -/
def tableDecodesUptoRow : OpenClaim := { program := "ythbcapjccfkldaa", sum := "381eb32bf16bae0c3a2441e2b66dcfd7a4318ad1d22412aed84b5aa79edc325a", func := "mezzotint/mezzotintlaw.TableDecodes", spec := "tableDecodes", inPlace := ["internal/abi.NoEscape"], plainKeys := false, apart := false, narrowed := true }
def TableDecodesUptoSaid : Prop := tableDecodesUptoRow.holds Try.pinned (OpenSpec.upto tableDecodesSpec)

/-- 'mezzotintkeep.TablePrefix', WHERE WHAT IT READS IS OF BULK AT MOST 1048576: true; the input reads as it did. -/
def tablePrefixUptoRow : OpenClaim := { program := "ythbcapjccfkldaa", sum := "381eb32bf16bae0c3a2441e2b66dcfd7a4318ad1d22412aed84b5aa79edc325a", func := "mezzotint/mezzotintkeep.TablePrefix", spec := "tablePrefix", plainKeys := false, apart := false, narrowed := true }
def TablePrefixUptoSaid : Prop := tablePrefixUptoRow.holds Try.pinned (OpenSpec.upto tablePrefixSpec)

/-- 'mezzotintkeep.TableKraft', WHERE WHAT IT READS IS OF BULK AT MOST 1048576: true; the input reads as it did. -/
def tableKraftUptoRow : OpenClaim := { program := "ythbcapjccfkldaa", sum := "381eb32bf16bae0c3a2441e2b66dcfd7a4318ad1d22412aed84b5aa79edc325a", func := "mezzotint/mezzotintkeep.TableKraft", spec := "tableKraft", plainKeys := false, apart := false, narrowed := true }
def TableKraftUptoSaid : Prop := tableKraftUptoRow.holds Try.pinned (OpenSpec.upto tableKraftSpec)

/-- 'mezzotintkeep.TableMay', WHERE WHAT IT READS IS OF BULK AT MOST 1048576: true; the input reads as it did. -/
def tableMayUptoRow : OpenClaim := { program := "ythbcapjccfkldaa", sum := "381eb32bf16bae0c3a2441e2b66dcfd7a4318ad1d22412aed84b5aa79edc325a", func := "mezzotint/mezzotintkeep.TableMay", spec := "tableMay", plainKeys := false, apart := false, narrowed := true }
def TableMayUptoSaid : Prop := tableMayUptoRow.holds Try.pinned (OpenSpec.upto tableMaySpec)

/-- 'mezzotintkeep.TableBack', WHERE WHAT IT READS IS OF BULK AT MOST 1048576: true; the input reads as it did. -/
def tableBackUptoRow : OpenClaim := { program := "ythbcapjccfkldaa", sum := "381eb32bf16bae0c3a2441e2b66dcfd7a4318ad1d22412aed84b5aa79edc325a", func := "mezzotint/mezzotintkeep.TableBack", spec := "tableBack", plainKeys := false, apart := false, narrowed := true }
def TableBackUptoSaid : Prop := tableBackUptoRow.holds Try.pinned (OpenSpec.upto tableBackSpec)

/-- 'mezzotintkeep.TableFront', WHERE WHAT IT READS IS OF BULK AT MOST 1048576: true; the input reads as it did. -/
def tableFrontUptoRow : OpenClaim := { program := "ythbcapjccfkldaa", sum := "381eb32bf16bae0c3a2441e2b66dcfd7a4318ad1d22412aed84b5aa79edc325a", func := "mezzotint/mezzotintkeep.TableFront", spec := "tableFront", plainKeys := false, apart := false, narrowed := true }
def TableFrontUptoSaid : Prop := tableFrontUptoRow.holds Try.pinned (OpenSpec.upto tableFrontSpec)

/-- 'mezzotintkeep.TableNone', WHERE WHAT IT READS IS OF BULK AT MOST 1048576: true; the input reads as it did. -/
def tableNoneUptoRow : OpenClaim := { program := "ythbcapjccfkldaa", sum := "381eb32bf16bae0c3a2441e2b66dcfd7a4318ad1d22412aed84b5aa79edc325a", func := "mezzotint/mezzotintkeep.TableNone", spec := "tableNone", plainKeys := false, apart := false, narrowed := true }
def TableNoneUptoSaid : Prop := tableNoneUptoRow.holds Try.pinned (OpenSpec.upto tableNoneSpec)

/-- 'mezzotintkeep.TableRenamed', WHERE WHAT IT READS IS OF BULK AT MOST 1048576: true; the input reads as it did. -/
def tableRenamedUptoRow : OpenClaim := { program := "ythbcapjccfkldaa", sum := "381eb32bf16bae0c3a2441e2b66dcfd7a4318ad1d22412aed84b5aa79edc325a", func := "mezzotint/mezzotintkeep.TableRenamed", spec := "tableRenamed", plainKeys := false, apart := false, narrowed := true }
def TableRenamedUptoSaid : Prop := tableRenamedUptoRow.holds Try.pinned (OpenSpec.upto tableRenamedSpec)

end Rows
end Go.Proofs.Ythbcapjccfkldaa
