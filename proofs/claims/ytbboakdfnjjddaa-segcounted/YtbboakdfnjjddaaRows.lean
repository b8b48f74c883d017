/-
  No cell of these rows narrows 'for every input' (looked for: loops, veiled, ifaces, maps, wideKeys, modest, calm, conditions, laid).
  DERIVED. THE GIVEN ROWS OF THIS SEAT. 6 by the template 'for every input the law returns true; each argument reads behind the call as it read before'; 0 by the template 'total and deterministic' (their statements: YtbboakdfnjjddaaTotals.lean).
  GIVEN WITH THE SEED: the statements are not yours to turn. If you find one false, say at which input.
  Laid BY PROGRAM, IN A SANDBOX (cutbox-rows.mjs): the forced cells as the released guide's own fill.sh prints them over the translation e4369be88151cc51… (all of the seat's roots in one cut). By AI agents, Wed Nov 11 2026. No macro, syntax, notation, axiom, sorry.
-/
import Derived.Test.YtbboakdfnjjddaaChecked
import GoSem.Claim
import GoSem.ClaimJoined
import GoSem.ClaimMapViews
import Derived.JoinedTies
import Derived.KernelRfl
namespace Go.Proofs.Ytbboakdfnjjddaa
/- THE CELL 'sum', in the pinned program and in every row, IS THE sha256 OF THE DUMP (.gsa) THAT YtbboakdfnjjddaaProg.lean LOADS. Nothing in Lean hashes anything: it is a label: what it is worth is what the hold of that sum in a sandbox is worth. -/
noncomputable def Try.pinned : Pinned := { name := "ytbboakdfnjjddaa", sum := "e4369be88151cc51f6fbb4f27f1b35d4ea87a51aa12417c20ef71bf2b2379f39", checked := Try.checked }
namespace Rows
def none {H : Type} : Left H := { results := [], args := [] }

/-- 'mezzotintlaw.SegCounts': WHATEVER THE INPUT: true; the input reads as it did. -/
def segCountsSpec : ChangeSpec := { name := "segCounts", fn := fun _ => fun
  | [d] => { results := [.lit (.bool true)], args := [d] }
  | _ => none }
def segCountsRow : OpenClaim := { program := "ytbboakdfnjjddaa", sum := "e4369be88151cc51f6fbb4f27f1b35d4ea87a51aa12417c20ef71bf2b2379f39", func := "mezzotint/mezzotintlaw.SegCounts", spec := "segCounts", unfollowed := true, recurses := true, plainKeys := false, apart := false }
def SegCountsSaid : Prop := segCountsRow.holds Try.pinned (OpenSpec.ofChange segCountsSpec)

/-- ITS FALSE NEIGHBOUR: 'it returns false'. Refute it at one input. -/
def segCountsWrong : ChangeSpec := { name := "segCounts", fn := fun _ => fun
  | [d] => { results := [.lit (.bool false)], args := [d] }
  | _ => none }
def SegCountsWrongFalsely : Prop := segCountsRow.holds Try.pinned (OpenSpec.ofChange segCountsWrong)

/-- 'mezzotintlaw.SegEncodes': WHATEVER THE INPUT: true; the input reads as it did. -/
def segEncodesSpec : ChangeSpec := { name := "segEncodes", fn := fun _ => fun
  | [d1, d2] => { results := [.lit (.bool true)], args := [d1, d2] }
  | _ => none }
def segEncodesRow : OpenClaim := { program := "ytbboakdfnjjddaa", sum := "e4369be88151cc51f6fbb4f27f1b35d4ea87a51aa12417c20ef71bf2b2379f39", func := "mezzotint/mezzotintlaw.SegEncodes", spec := "segEncodes", inPlace := ["internal/abi.NoEscape"], unfollowed := true, recurses := true, plainKeys := false, apart := false }
def SegEncodesSaid : Prop := segEncodesRow.holds Try.pinned (OpenSpec.ofChange segEncodesSpec)

/-- ITS FALSE NEIGHBOUR: 'it returns false'. Refute it at one input. -/
def segEncodesWrong : ChangeSpec := { name := "segEncodes", fn := fun _ => fun
  | [d1, d2] => { results := [.lit (.bool false)], args := [d1, d2] }
  | _ => none }
def SegEncodesWrongFalsely : Prop := segEncodesRow.holds Try.pinned (OpenSpec.ofChange segEncodesWrong)

/-- 'mezzotintlaw.SegDecodes': WHATEVER THE INPUT: true; the input reads as it did. -/
def segDecodesSpec : ChangeSpec := { name := "segDecodes", fn := fun _ => fun
  | [d1, d2, d3] => { results := [.lit (.bool true)], args := [d1, d2, d3] }
  | _ => none }
def segDecodesRow : OpenClaim := { program := "ytbboakdfnjjddaa", sum := "e4369be88151cc51f6fbb4f27f1b35d4ea87a51aa12417c20ef71bf2b2379f39", func := "mezzotint/mezzotintlaw.SegDecodes", spec := "segDecodes", inPlace := ["internal/abi.NoEscape", "internal/bytealg.IndexByteString", "internal/bytealg.IndexString"], unfollowed := true, recurses := true, named := ["internal/bytealg.MaxLen"], plainKeys := false, apart := false }
def SegDecodesSaid : Prop := segDecodesRow.holds Try.pinned (OpenSpec.ofChange segDecodesSpec)

/-- ITS FALSE NEIGHBOUR: 'it returns false'. Refute it at one input. -/
def segDecodesWrong : ChangeSpec := { name := "segDecodes", fn := fun _ => fun
  | [d1, d2, d3] => { results := [.lit (.bool false)], args := [d1, d2, d3] }
  | _ => none }
def SegDecodesWrongFalsely : Prop := segDecodesRow.holds Try.pinned (OpenSpec.ofChange segDecodesWrong)

/-- 'mezzotintkeep.SegPure': WHATEVER THE INPUT: true; the input reads as it did. -/
def segPureSpec : ChangeSpec := { name := "segPure", fn := fun _ => fun
  | [d1, d2] => { results := [.lit (.bool true)], args := [d1, d2] }
  | _ => none }
def segPureRow : OpenClaim := { program := "ytbboakdfnjjddaa", sum := "e4369be88151cc51f6fbb4f27f1b35d4ea87a51aa12417c20ef71bf2b2379f39", func := "mezzotint/mezzotintkeep.SegPure", spec := "segPure", unfollowed := true, recurses := true, plainKeys := false, apart := false }
def SegPureSaid : Prop := segPureRow.holds Try.pinned (OpenSpec.ofChange segPureSpec)

/-- ITS FALSE NEIGHBOUR: 'it returns false'. Refute it at one input. -/
def segPureWrong : ChangeSpec := { name := "segPure", fn := fun _ => fun
  | [d1, d2] => { results := [.lit (.bool false)], args := [d1, d2] }
  | _ => none }
def SegPureWrongFalsely : Prop := segPureRow.holds Try.pinned (OpenSpec.ofChange segPureWrong)

/-- 'mezzotintkeep.SegAgain': WHATEVER THE INPUT: true; the input reads as it did. -/
def segAgainSpec : ChangeSpec := { name := "segAgain", fn := fun _ => fun
  | [d1, d2, d3] => { results := [.lit (.bool true)], args := [d1, d2, d3] }
  | _ => none }
def segAgainRow : OpenClaim := { program := "ytbboakdfnjjddaa", sum := "e4369be88151cc51f6fbb4f27f1b35d4ea87a51aa12417c20ef71bf2b2379f39", func := "mezzotint/mezzotintkeep.SegAgain", spec := "segAgain", unfollowed := true, recurses := true, plainKeys := false, apart := false }
def SegAgainSaid : Prop := segAgainRow.holds Try.pinned (OpenSpec.ofChange segAgainSpec)

/-- ITS FALSE NEIGHBOUR: 'it returns false'. Refute it at one input. -/
def segAgainWrong : ChangeSpec := { name := "segAgain", fn := fun _ => fun
  | [d1, d2, d3] => { results := [.lit (.bool false)], args := [d1, d2, d3] }
  | _ => none }
def SegAgainWrongFalsely : Prop := segAgainRow.holds Try.pinned (OpenSpec.ofChange segAgainWrong)

/-- 'mezzotintkeep.SegCounted': WHATEVER THE INPUT: true; the input reads as it did. -/
def segCountedSpec : ChangeSpec := { name := "segCounted", fn := fun _ => fun
  | [d] => { results := [.lit (.bool true)], args := [d] }
  | _ => none }
def segCountedRow : OpenClaim := { program := "ytbboakdfnjjddaa", sum := "e4369be88151cc51f6fbb4f27f1b35d4ea87a51aa12417c20ef71bf2b2379f39", func := "mezzotint/mezzotintkeep.SegCounted", spec := "segCounted", unfollowed := true, recurses := true, plainKeys := false, apart := false }
def SegCountedSaid : Prop := segCountedRow.holds Try.pinned (OpenSpec.ofChange segCountedSpec)

/-- ITS FALSE NEIGHBOUR: 'it returns false'. Refute it at one input. -/
def segCountedWrong : ChangeSpec := { name := "segCounted", fn := fun _ => fun
  | [d] => { results := [.lit (.bool false)], args := [d] }
  | _ => none }
def SegCountedWrongFalsely : Prop := segCountedRow.holds Try.pinned (OpenSpec.ofChange segCountedWrong)

/- THE SECOND FORM. 'bulk': how many values and letters a reading holds, each counted each time it is reached (what is shared counts as often as it is met; a slice's spare places count too). A statement '..UptoSaid' is the law's where the arguments, and the package variables that the reading takes, are together of bulk at most 1048576: NARROWER than '..Said'. Prove '..Said' where nothing that the law and all that it calls make is longer than what came in: it says more and counts as full. Else prove '..UptoSaid'. A law counts once. -/
mutual
def uptoBulk {H : Type} : DataW H → Nat
  | .lit (.string bytes) => bytes.length + 1
  | .lit _ => 1
  | .nil => 1
  | .ptr d => uptoBulk d + 1
  | .slice elems spare => uptoBulkAll elems + uptoBulkAll spare + 1
  | .agg parts => uptoBulkAll parts + 1
  | .iface _ d => uptoBulk d + 1
  | .map entries => uptoBulkEntries entries + 1
  | .held _ => 1
def uptoBulkAll {H : Type} : List (DataW H) → Nat
  | [] => 0
  | d :: r => uptoBulk d + uptoBulkAll r
def uptoBulkEntries {H : Type} : List (Lit × DataW H) → Nat
  | [] => 0
  | x :: r => uptoBulkEntry x + uptoBulkEntries r
def uptoBulkEntry {H : Type} : Lit × DataW H → Nat
  | (.string bytes, d) => bytes.length + uptoBulk d + 1
  | (_, d) => uptoBulk d + 1
 end
def uptoSmall : (H : Type) → List (DataW H) → Bool := fun _ ds => decide (uptoBulkAll ds ≤ 1048576)
def OpenSpec.upto (s : _root_.Go.ChangeSpec) : _root_.Go.OpenSpec := { _root_.Go.OpenSpec.ofChange s with cond := some uptoSmall }

/-- 'mezzotintlaw.SegCounts', WHERE WHAT IT READS IS OF BULK AT MOST 1048576: true; the input reads as it did. -/
def segCountsUptoRow : OpenClaim := { program := "ytbboakdfnjjddaa", sum := "e4369be88151cc51f6fbb4f27f1b35d4ea87a51aa12417c20ef71bf2b2379f39", func := "mezzotint/mezzotintlaw.SegCounts", spec := "segCounts", unfollowed := true, recurses := true, plainKeys := false, apart := false, narrowed := true }
def SegCountsUptoSaid : Prop := segCountsUptoRow.holds Try.pinned (OpenSpec.upto segCountsSpec)

/-- 'mezzotintlaw.SegEncodes', WHERE WHAT IT READS IS OF BULK AT MOST 1048576: true; the input reads as it did. -/
def segEncodesUptoRow : OpenClaim := { program := "ytbboakdfnjjddaa", sum := "e4369be88151cc51f6fbb4f27f1b35d4ea87a51aa12417c20ef71bf2b2379f39", func := "mezzotint/mezzotintlaw.SegEncodes", spec := "segEncodes", inPlace := ["internal/abi.NoEscape"], unfollowed := true, recurses := true, plainKeys := false, apart := false, narrowed := true }
def SegEncodesUptoSaid : Prop := segEncodesUptoRow.holds Try.pinned (OpenSpec.upto segEncodesSpec)

/-- 'mezzotintlaw.SegDecodes', WHERE WHAT IT READS IS OF BULK AT MOST 1048576: true; the input reads as it did. -/
def segDecodesUptoRow : OpenClaim := { program := "ytbboakdfnjjddaa", sum := "e4369be88151cc51f6fbb4f27f1b35d4ea87a51aa12417c20ef71bf2b2379f39", func := "mezzotint/mezzotintlaw.SegDecodes", spec := "segDecodes", inPlace := ["internal/abi.NoEscape", "internal/bytealg.IndexByteString", "internal/bytealg.IndexString"], unfollowed := true, recurses := true, named := ["internal/bytealg.MaxLen"], plainKeys := false, apart := false, narrowed := true }
def SegDecodesUptoSaid : Prop := segDecodesUptoRow.holds Try.pinned (OpenSpec.upto segDecodesSpec)

/-- 'mezzotintkeep.SegPure', WHERE WHAT IT READS IS OF BULK AT MOST 1048576: true; the input reads as it did. -/
def segPureUptoRow : OpenClaim := { program := "ytbboakdfnjjddaa", sum := "e4369be88151cc51f6fbb4f27f1b35d4ea87a51aa12417c20ef71bf2b2379f39", func := "mezzotint/mezzotintkeep.SegPure", spec := "segPure", unfollowed := true, recurses := true, plainKeys := false, apart := false, narrowed := true }
def SegPureUptoSaid : Prop := segPureUptoRow.holds Try.pinned (OpenSpec.upto segPureSpec)

/-- 'mezzotintkeep.SegAgain', WHERE WHAT IT READS IS OF BULK AT MOST 1048576: true; the input reads as it did. -/
def segAgainUptoRow : OpenClaim := { program := "ytbboakdfnjjddaa", sum := "e4369be88151cc51f6fbb4f27f1b35d4ea87a51aa12417c20ef71bf2b2379f39", func := "mezzotint/mezzotintkeep.SegAgain", spec := "segAgain", unfollowed := true, recurses := true, plainKeys := false, apart := false, narrowed := true }
def SegAgainUptoSaid : Prop := segAgainUptoRow.holds Try.pinned (OpenSpec.upto segAgainSpec)

/-- 'mezzotintkeep.SegCounted', WHERE WHAT IT READS IS OF BULK AT MOST 1048576: true; the input reads as it did. -/
def segCountedUptoRow : OpenClaim := { program := "ytbboakdfnjjddaa", sum := "e4369be88151cc51f6fbb4f27f1b35d4ea87a51aa12417c20ef71bf2b2379f39", func := "mezzotint/mezzotintkeep.SegCounted", spec := "segCounted", unfollowed := true, recurses := true, plainKeys := false, apart := false, narrowed := true }
def SegCountedUptoSaid : Prop := segCountedUptoRow.holds Try.pinned (OpenSpec.upto segCountedSpec)

end Rows
end Go.Proofs.Ytbboakdfnjjddaa
