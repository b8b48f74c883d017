/-
  No cell of these rows narrows 'for every input' (looked for: loops, veiled, ifaces, maps, wideKeys, modest, calm, conditions, laid).
  DERIVED. THE GIVEN ROWS OF THIS SEAT. 6 by the template 'for every input the law returns true; each argument reads behind the call as it read before'; 0 by the template 'total and deterministic' (their statements: YtmdjhbkpekepgaaTotals.lean).
  GIVEN WITH THE SEED: the statements are not yours to turn. If you find one false, say at which input.
  Laid BY PROGRAM, IN A SANDBOX (cutbox-rows.mjs): the forced cells as the released guide's own fill.sh prints them over the translation 32c466eb6b1c1175… (all of the seat's roots in one cut). By AI agents, Wed Nov 11 2026. No macro, syntax, notation, axiom, sorry.
-/
import Derived.Test.YtmdjhbkpekepgaaChecked
import GoSem.Claim
import GoSem.ClaimJoined
import GoSem.ClaimMapViews
import Derived.JoinedTies
import Derived.KernelRfl
namespace Go.Proofs.Ytmdjhbkpekepgaa
/- THE CELL 'sum', in the pinned program and in every row, IS THE sha256 OF THE DUMP (.gsa) THAT YtmdjhbkpekepgaaProg.lean LOADS. Nothing in Lean hashes anything: it is a label: what it is worth is what the hold of that sum in a sandbox is worth. -/
noncomputable def Try.pinned : Pinned := { name := "ytmdjhbkpekepgaa", sum := "32c466eb6b1c1175687cd38b6d4302cf62462a7857f6a72396173eae8fb1249f", checked := Try.checked }
namespace Rows
def none {H : Type} : Left H := { results := [], args := [] }

/-- 'mezzotintlaw.FileChecks': WHATEVER THE INPUT: true; the input reads as it did. -/
def fileChecksSpec : ChangeSpec := { name := "fileChecks", fn := fun _ => fun
  | [d] => { results := [.lit (.bool true)], args := [d] }
  | _ => none }
def fileChecksRow : OpenClaim := { program := "ytmdjhbkpekepgaa", sum := "32c466eb6b1c1175687cd38b6d4302cf62462a7857f6a72396173eae8fb1249f", func := "mezzotint/mezzotintlaw.FileChecks", spec := "fileChecks", apart := false }
def FileChecksSaid : Prop := fileChecksRow.holds Try.pinned (OpenSpec.ofChange fileChecksSpec)

/-- ITS FALSE NEIGHBOUR: 'it returns false'. Refute it at one input. -/
def fileChecksWrong : ChangeSpec := { name := "fileChecks", fn := fun _ => fun
  | [d] => { results := [.lit (.bool false)], args := [d] }
  | _ => none }
def FileChecksWrongFalsely : Prop := fileChecksRow.holds Try.pinned (OpenSpec.ofChange fileChecksWrong)

/-- 'mezzotintlaw.FilePacks': WHATEVER THE INPUT: true; the input reads as it did. -/
def filePacksSpec : ChangeSpec := { name := "filePacks", fn := fun _ => fun
  | [d] => { results := [.lit (.bool true)], args := [d] }
  | _ => none }
def filePacksRow : OpenClaim := { program := "ytmdjhbkpekepgaa", sum := "32c466eb6b1c1175687cd38b6d4302cf62462a7857f6a72396173eae8fb1249f", func := "mezzotint/mezzotintlaw.FilePacks", spec := "filePacks", apart := false }
def FilePacksSaid : Prop := filePacksRow.holds Try.pinned (OpenSpec.ofChange filePacksSpec)

/-- ITS FALSE NEIGHBOUR: 'it returns false'. Refute it at one input. -/
def filePacksWrong : ChangeSpec := { name := "filePacks", fn := fun _ => fun
  | [d] => { results := [.lit (.bool false)], args := [d] }
  | _ => none }
def FilePacksWrongFalsely : Prop := filePacksRow.holds Try.pinned (OpenSpec.ofChange filePacksWrong)

/-- 'mezzotintlaw.FileParses': WHATEVER THE INPUT: true; the input reads as it did. -/
def fileParsesSpec : ChangeSpec := { name := "fileParses", fn := fun _ => fun
  | [d] => { results := [.lit (.bool true)], args := [d] }
  | _ => none }
def fileParsesRow : OpenClaim := { program := "ytmdjhbkpekepgaa", sum := "32c466eb6b1c1175687cd38b6d4302cf62462a7857f6a72396173eae8fb1249f", func := "mezzotint/mezzotintlaw.FileParses", spec := "fileParses", apart := false }
def FileParsesSaid : Prop := fileParsesRow.holds Try.pinned (OpenSpec.ofChange fileParsesSpec)

/-- ITS FALSE NEIGHBOUR: 'it returns false'. Refute it at one input. -/
def fileParsesWrong : ChangeSpec := { name := "fileParses", fn := fun _ => fun
  | [d] => { results := [.lit (.bool false)], args := [d] }
  | _ => none }
def FileParsesWrongFalsely : Prop := fileParsesRow.holds Try.pinned (OpenSpec.ofChange fileParsesWrong)

/-- 'mezzotintkeep.FileBack': WHATEVER THE INPUT: true; the input reads as it did. -/
def fileBackSpec : ChangeSpec := { name := "fileBack", fn := fun _ => fun
  | [d1, d2] => { results := [.lit (.bool true)], args := [d1, d2] }
  | _ => none }
def fileBackRow : OpenClaim := { program := "ytmdjhbkpekepgaa", sum := "32c466eb6b1c1175687cd38b6d4302cf62462a7857f6a72396173eae8fb1249f", func := "mezzotint/mezzotintkeep.FileBack", spec := "fileBack", apart := false }
def FileBackSaid : Prop := fileBackRow.holds Try.pinned (OpenSpec.ofChange fileBackSpec)

/-- ITS FALSE NEIGHBOUR: 'it returns false'. Refute it at one input. -/
def fileBackWrong : ChangeSpec := { name := "fileBack", fn := fun _ => fun
  | [d1, d2] => { results := [.lit (.bool false)], args := [d1, d2] }
  | _ => none }
def FileBackWrongFalsely : Prop := fileBackRow.holds Try.pinned (OpenSpec.ofChange fileBackWrong)

/-- 'mezzotintkeep.FileCut': WHATEVER THE INPUT: true; the input reads as it did. -/
def fileCutSpec : ChangeSpec := { name := "fileCut", fn := fun _ => fun
  | [d1, d2] => { results := [.lit (.bool true)], args := [d1, d2] }
  | _ => none }
def fileCutRow : OpenClaim := { program := "ytmdjhbkpekepgaa", sum := "32c466eb6b1c1175687cd38b6d4302cf62462a7857f6a72396173eae8fb1249f", func := "mezzotint/mezzotintkeep.FileCut", spec := "fileCut", apart := false }
def FileCutSaid : Prop := fileCutRow.holds Try.pinned (OpenSpec.ofChange fileCutSpec)

/-- ITS FALSE NEIGHBOUR: 'it returns false'. Refute it at one input. -/
def fileCutWrong : ChangeSpec := { name := "fileCut", fn := fun _ => fun
  | [d1, d2] => { results := [.lit (.bool false)], args := [d1, d2] }
  | _ => none }
def FileCutWrongFalsely : Prop := fileCutRow.holds Try.pinned (OpenSpec.ofChange fileCutWrong)

/-- 'mezzotintkeep.FileHead': WHATEVER THE INPUT: true; the input reads as it did. -/
def fileHeadSpec : ChangeSpec := { name := "fileHead", fn := fun _ => fun
  | [d] => { results := [.lit (.bool true)], args := [d] }
  | _ => none }
def fileHeadRow : OpenClaim := { program := "ytmdjhbkpekepgaa", sum := "32c466eb6b1c1175687cd38b6d4302cf62462a7857f6a72396173eae8fb1249f", func := "mezzotint/mezzotintkeep.FileHead", spec := "fileHead", apart := false }
def FileHeadSaid : Prop := fileHeadRow.holds Try.pinned (OpenSpec.ofChange fileHeadSpec)

/-- ITS FALSE NEIGHBOUR: 'it returns false'. Refute it at one input. -/
def fileHeadWrong : ChangeSpec := { name := "fileHead", fn := fun _ => fun
  | [d] => { results := [.lit (.bool false)], args := [d] }
  | _ => none }
def FileHeadWrongFalsely : Prop := fileHeadRow.holds Try.pinned (OpenSpec.ofChange fileHeadWrong)

/- THE SECOND FORM. 'bulk': how many values and letters a reading holds, each counted each time it is reached (what is shared counts as often as it is met; a slice's spare places count too). A statement '..UptoSaid' is the law's where the arguments, and the package variables that the reading takes, are together of bulk at most 1048576: NARROWER than '..Said'. Prove '..Said' where nothing that the law and all that it calls make is longer than what came in: it says more and counts as full. Else prove '..UptoSaid'. A law counts once. -/
mutual
def uptoBulk {H : Type} : DataW H → Nat
  | .lit (.string bytes) => bytes.length + 1
  | .lit _ => 1
  | .nil => 1
  | .ptr d => uptoBulk d + 1
  | .slice elems spare => uptoBulkAll elems + uptoBulkAll spare + 1
  | .agg parts => uptoBulkAll parts + 1
  | .iface _ d => uptoBulk d + 1
  | .map entries => uptoBulkEntries entries + 1
  | .held _ => 1
def uptoBulkAll {H : Type} : List (DataW H) → Nat
  | [] => 0
  | d :: r => uptoBulk d + uptoBulkAll r
def uptoBulkEntries {H : Type} : List (Lit × DataW H) → Nat
  | [] => 0
  | x :: r => uptoBulkEntry x + uptoBulkEntries r
def uptoBulkEntry {H : Type} : Lit × DataW H → Nat
  | (.string bytes, d) => bytes.length + uptoBulk d + 1
  | (_, d) => uptoBulk d + 1
 end
def uptoSmall : (H : Type) → List (DataW H) → Bool := fun _ ds => decide (uptoBulkAll ds ≤ 1048576)
def OpenSpec.upto (s : _root_.Go.ChangeSpec) : _root_.Go.OpenSpec := { _root_.Go.OpenSpec.ofChange s with cond := some uptoSmall }

/-- 'mezzotintlaw.FileChecks', WHERE WHAT IT READS IS OF BULK AT MOST 1048576: true; the input reads as it did. -/
def fileChecksUptoRow : OpenClaim := { program := "ytmdjhbkpekepgaa", sum := "32c466eb6b1c1175687cd38b6d4302cf62462a7857f6a72396173eae8fb1249f", func := "mezzotint/mezzotintlaw.FileChecks", spec := "fileChecks", apart := false, narrowed := true }
def FileChecksUptoSaid : Prop := fileChecksUptoRow.holds Try.pinned (OpenSpec.upto fileChecksSpec)

/-- 'mezzotintlaw.FilePacks', WHERE WHAT IT READS IS OF BULK AT MOST 1048576: true; the input reads as it did. -/
def filePacksUptoRow : OpenClaim := { program := "ytmdjhbkpekepgaa", sum := "32c466eb6b1c1175687cd38b6d4302cf62462a7857f6a72396173eae8fb1249f", func := "mezzotint/mezzotintlaw.FilePacks", spec := "filePacks", apart := false, narrowed := true }
def FilePacksUptoSaid : Prop := filePacksUptoRow.holds Try.pinned (OpenSpec.upto filePacksSpec)

/-- 'mezzotintlaw.FileParses', WHERE WHAT IT READS IS OF BULK AT MOST 1048576: true; the input reads as it did. -/
def fileParsesUptoRow : OpenClaim := { program := "ytmdjhbkpekepgaa", sum := "32c466eb6b1c1175687cd38b6d4302cf62462a7857f6a72396173eae8fb1249f", func := "mezzotint/mezzotintlaw.FileParses", spec := "fileParses", apart := false, narrowed := true }
def FileParsesUptoSaid : Prop := fileParsesUptoRow.holds Try.pinned (OpenSpec.upto fileParsesSpec)

/-- 'mezzotintkeep.FileBack', WHERE WHAT IT READS IS OF BULK AT MOST 1048576: true; the input reads as it did. -/
def fileBackUptoRow : OpenClaim := { program := "ytmdjhbkpekepgaa", sum := "32c466eb6b1c1175687cd38b6d4302cf62462a7857f6a72396173eae8fb1249f", func := "mezzotint/mezzotintkeep.FileBack", spec := "fileBack", apart := false, narrowed := true }
def FileBackUptoSaid : Prop := fileBackUptoRow.holds Try.pinned (OpenSpec.upto fileBackSpec)

/-- 'mezzotintkeep.FileCut', WHERE WHAT IT READS IS OF BULK AT MOST 1048576: true; the input reads as it did. -/
def fileCutUptoRow : OpenClaim := { program := "ytmdjhbkpekepgaa", sum := "32c466eb6b1c1175687cd38b6d4302cf62462a7857f6a72396173eae8fb1249f", func := "mezzotint/mezzotintkeep.FileCut", spec := "fileCut", apart := false, narrowed := true }
def FileCutUptoSaid : Prop := fileCutUptoRow.holds Try.pinned (OpenSpec.upto fileCutSpec)

/-- 'mezzotintkeep.FileHead', WHERE WHAT IT READS IS OF BULK AT MOST 1048576: true; the input reads as it did. -/
def fileHeadUptoRow : OpenClaim := { program := "ytmdjhbkpekepgaa", sum := "32c466eb6b1c1175687cd38b6d4302cf62462a7857f6a72396173eae8fb1249f", func := "mezzotint/mezzotintkeep.FileHead", spec := "fileHead", apart := false, narrowed := true }
def FileHeadUptoSaid : Prop := fileHeadUptoRow.holds Try.pinned (OpenSpec.upto fileHeadSpec)

end Rows
end Go.Proofs.Ytmdjhbkpekepgaa
