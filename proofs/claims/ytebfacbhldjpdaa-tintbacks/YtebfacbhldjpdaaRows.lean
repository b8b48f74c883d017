/-
  No cell of these rows narrows 'for every input' (looked for: loops, veiled, ifaces, maps, wideKeys, modest, calm, conditions, laid).
  DERIVED. THE GIVEN ROWS OF THIS SEAT. 6 by the template 'for every input the law returns true; each argument reads behind the call as it read before'; 0 by the template 'total and deterministic' (their statements: YtebfacbhldjpdaaTotals.lean).
  GIVEN WITH THE SEED: the statements are not yours to turn. If you find one false, say at which input.
  Laid BY PROGRAM, IN A SANDBOX (cutbox-rows.mjs): the forced cells as the released guide's own fill.sh prints them over the translation 68de285939253ff0… (all of the seat's roots in one cut). By AI agents, Wed Nov 11 2026. No macro, syntax, notation, axiom, sorry.
-/
import Derived.Test.YtebfacbhldjpdaaChecked
import GoSem.Claim
import GoSem.ClaimJoined
import GoSem.ClaimMapViews
import Derived.JoinedTies
import Derived.KernelRfl
namespace Go.Proofs.Ytebfacbhldjpdaa
/- THE CELL 'sum', in the pinned program and in every row, IS THE sha256 OF THE DUMP (.gsa) THAT YtebfacbhldjpdaaProg.lean LOADS. Nothing in Lean hashes anything: it is a label: what it is worth is what the hold of that sum in a sandbox is worth. -/
noncomputable def Try.pinned : Pinned := { name := "ytebfacbhldjpdaa", sum := "68de285939253ff00029cdcf30a2f39fab2536e633b29ae86ce82a3bf19a1205", checked := Try.checked }
namespace Rows
def none {H : Type} : Left H := { results := [], args := [] }

/-- 'mezzotintlaw.TintTells': WHATEVER THE INPUT: true; the input reads as it did. -/
def tintTellsSpec : ChangeSpec := { name := "tintTells", fn := fun _ => fun
  | [d1, d2, d3] => { results := [.lit (.bool true)], args := [d1, d2, d3] }
  | _ => none }
def tintTellsRow : OpenClaim := { program := "ytebfacbhldjpdaa", sum := "68de285939253ff00029cdcf30a2f39fab2536e633b29ae86ce82a3bf19a1205", func := "mezzotint/mezzotintlaw.TintTells", spec := "tintTells", apart := false }
def TintTellsSaid : Prop := tintTellsRow.holds Try.pinned (OpenSpec.ofChange tintTellsSpec)

/-- ITS FALSE NEIGHBOUR: 'it returns false'. Refute it at one input. -/
def tintTellsWrong : ChangeSpec := { name := "tintTells", fn := fun _ => fun
  | [d1, d2, d3] => { results := [.lit (.bool false)], args := [d1, d2, d3] }
  | _ => none }
def TintTellsWrongFalsely : Prop := tintTellsRow.holds Try.pinned (OpenSpec.ofChange tintTellsWrong)

/-- 'mezzotintlaw.TintBacks': WHATEVER THE INPUT: true; the input reads as it did. -/
def tintBacksSpec : ChangeSpec := { name := "tintBacks", fn := fun _ => fun
  | [d1, d2, d3] => { results := [.lit (.bool true)], args := [d1, d2, d3] }
  | _ => none }
def tintBacksRow : OpenClaim := { program := "ytebfacbhldjpdaa", sum := "68de285939253ff00029cdcf30a2f39fab2536e633b29ae86ce82a3bf19a1205", func := "mezzotint/mezzotintlaw.TintBacks", spec := "tintBacks", apart := false }
def TintBacksSaid : Prop := tintBacksRow.holds Try.pinned (OpenSpec.ofChange tintBacksSpec)

/-- ITS FALSE NEIGHBOUR: 'it returns false'. Refute it at one input. -/
def tintBacksWrong : ChangeSpec := { name := "tintBacks", fn := fun _ => fun
  | [d1, d2, d3] => { results := [.lit (.bool false)], args := [d1, d2, d3] }
  | _ => none }
def TintBacksWrongFalsely : Prop := tintBacksRow.holds Try.pinned (OpenSpec.ofChange tintBacksWrong)

/-- 'mezzotintkeep.TintGray': WHATEVER THE INPUT: true; the input reads as it did. -/
def tintGraySpec : ChangeSpec := { name := "tintGray", fn := fun _ => fun
  | [d] => { results := [.lit (.bool true)], args := [d] }
  | _ => none }
def tintGrayRow : OpenClaim := { program := "ytebfacbhldjpdaa", sum := "68de285939253ff00029cdcf30a2f39fab2536e633b29ae86ce82a3bf19a1205", func := "mezzotint/mezzotintkeep.TintGray", spec := "tintGray", apart := false }
def TintGraySaid : Prop := tintGrayRow.holds Try.pinned (OpenSpec.ofChange tintGraySpec)

/-- ITS FALSE NEIGHBOUR: 'it returns false'. Refute it at one input. -/
def tintGrayWrong : ChangeSpec := { name := "tintGray", fn := fun _ => fun
  | [d] => { results := [.lit (.bool false)], args := [d] }
  | _ => none }
def TintGrayWrongFalsely : Prop := tintGrayRow.holds Try.pinned (OpenSpec.ofChange tintGrayWrong)

/-- 'mezzotintkeep.TintBack': WHATEVER THE INPUT: true; the input reads as it did. -/
def tintBackSpec : ChangeSpec := { name := "tintBack", fn := fun _ => fun
  | [d1, d2, d3] => { results := [.lit (.bool true)], args := [d1, d2, d3] }
  | _ => none }
def tintBackRow : OpenClaim := { program := "ytebfacbhldjpdaa", sum := "68de285939253ff00029cdcf30a2f39fab2536e633b29ae86ce82a3bf19a1205", func := "mezzotint/mezzotintkeep.TintBack", spec := "tintBack", unfollowed := true, recurses := true, apart := false }
def TintBackSaid : Prop := tintBackRow.holds Try.pinned (OpenSpec.ofChange tintBackSpec)

/-- ITS FALSE NEIGHBOUR: 'it returns false'. Refute it at one input. -/
def tintBackWrong : ChangeSpec := { name := "tintBack", fn := fun _ => fun
  | [d1, d2, d3] => { results := [.lit (.bool false)], args := [d1, d2, d3] }
  | _ => none }
def TintBackWrongFalsely : Prop := tintBackRow.holds Try.pinned (OpenSpec.ofChange tintBackWrong)

/-- 'mezzotintkeep.TintRises': WHATEVER THE INPUT: true; the input reads as it did. -/
def tintRisesSpec : ChangeSpec := { name := "tintRises", fn := fun _ => fun
  | [d1, d2, d3, d4] => { results := [.lit (.bool true)], args := [d1, d2, d3, d4] }
  | _ => none }
def tintRisesRow : OpenClaim := { program := "ytebfacbhldjpdaa", sum := "68de285939253ff00029cdcf30a2f39fab2536e633b29ae86ce82a3bf19a1205", func := "mezzotint/mezzotintkeep.TintRises", spec := "tintRises", unfollowed := true, recurses := true, apart := false }
def TintRisesSaid : Prop := tintRisesRow.holds Try.pinned (OpenSpec.ofChange tintRisesSpec)

/-- ITS FALSE NEIGHBOUR: 'it returns false'. Refute it at one input. -/
def tintRisesWrong : ChangeSpec := { name := "tintRises", fn := fun _ => fun
  | [d1, d2, d3, d4] => { results := [.lit (.bool false)], args := [d1, d2, d3, d4] }
  | _ => none }
def TintRisesWrongFalsely : Prop := tintRisesRow.holds Try.pinned (OpenSpec.ofChange tintRisesWrong)

/-- 'mezzotintkeep.TintLight': WHATEVER THE INPUT: true; the input reads as it did. -/
def tintLightSpec : ChangeSpec := { name := "tintLight", fn := fun _ => fun
  | [d1, d2, d3] => { results := [.lit (.bool true)], args := [d1, d2, d3] }
  | _ => none }
def tintLightRow : OpenClaim := { program := "ytebfacbhldjpdaa", sum := "68de285939253ff00029cdcf30a2f39fab2536e633b29ae86ce82a3bf19a1205", func := "mezzotint/mezzotintkeep.TintLight", spec := "tintLight", apart := false }
def TintLightSaid : Prop := tintLightRow.holds Try.pinned (OpenSpec.ofChange tintLightSpec)

/-- ITS FALSE NEIGHBOUR: 'it returns false'. Refute it at one input. -/
def tintLightWrong : ChangeSpec := { name := "tintLight", fn := fun _ => fun
  | [d1, d2, d3] => { results := [.lit (.bool false)], args := [d1, d2, d3] }
  | _ => none }
def TintLightWrongFalsely : Prop := tintLightRow.holds Try.pinned (OpenSpec.ofChange tintLightWrong)

/- THE SECOND FORM. 'bulk': how many values and letters a reading holds, each counted each time it is reached (what is shared counts as often as it is met; a slice's spare places count too). A statement '..UptoSaid' is the law's where the arguments, and the package variables that the reading takes, are together of bulk at most 1048576: NARROWER than '..Said'. Prove '..Said' where nothing that the law and all that it calls make is longer than what came in: it says more and counts as full. Else prove '..UptoSaid'. A law counts once. -/
mutual
def uptoBulk {H : Type} : DataW H → Nat
  | .lit (.string bytes) => bytes.length + 1
  | .lit _ => 1
  | .nil => 1
  | .ptr d => uptoBulk d + 1
  | .slice elems spare => uptoBulkAll elems + uptoBulkAll spare + 1
  | .agg parts => uptoBulkAll parts + 1
  | .iface _ d => uptoBulk d + 1
  | .map entries => uptoBulkEntries entries + 1
  | .held _ => 1
def uptoBulkAll {H : Type} : List (DataW H) → Nat
  | [] => 0
  | d :: r => uptoBulk d + uptoBulkAll r
def uptoBulkEntries {H : Type} : List (Lit × DataW H) → Nat
  | [] => 0
  | x :: r => uptoBulkEntry x + uptoBulkEntries r
def uptoBulkEntry {H : Type} : Lit × DataW H → Nat
  | (.string bytes, d) => bytes.length + uptoBulk d + 1
  | (_, d) => uptoBulk d + 1
 end
def uptoSmall : (H : Type) → List (DataW H) → Bool := fun _ ds => decide (uptoBulkAll ds ≤ 1048576)
def OpenSpec.upto (s : _root_.Go.ChangeSpec) : _root_.Go.OpenSpec := { _root_.Go.OpenSpec.ofChange s with cond := some uptoSmall }

/-- 'mezzotintlaw.TintTells', WHERE WHAT IT READS IS OF BULK AT MOST 1048576: true; the input reads as it did. -/
def tintTellsUptoRow : OpenClaim := { program := "ytebfacbhldjpdaa", sum := "68de285939253ff00029cdcf30a2f39fab2536e633b29ae86ce82a3bf19a1205", func := "mezzotint/mezzotintlaw.TintTells", spec := "tintTells", apart := false, narrowed := true }
def TintTellsUptoSaid : Prop := tintTellsUptoRow.holds Try.pinned (OpenSpec.upto tintTellsSpec)

/-- 'mezzotintlaw.TintBacks', WHERE WHAT IT READS IS OF BULK AT MOST 1048576: true; the input reads as it did. -/
def tintBacksUptoRow : OpenClaim := { program := "ytebfacbhldjpdaa", sum := "68de285939253ff00029cdcf30a2f39fab2536e633b29ae86ce82a3bf19a1205", func := "mezzotint/mezzotintlaw.TintBacks", spec := "tintBacks", apart := false, narrowed := true }
def TintBacksUptoSaid : Prop := tintBacksUptoRow.holds Try.pinned (OpenSpec.upto tintBacksSpec)

/-- 'mezzotintkeep.TintGray', WHERE WHAT IT READS IS OF BULK AT MOST 1048576: true; the input reads as it did. -/
def tintGrayUptoRow : OpenClaim := { program := "ytebfacbhldjpdaa", sum := "68de285939253ff00029cdcf30a2f39fab2536e633b29ae86ce82a3bf19a1205", func := "mezzotint/mezzotintkeep.TintGray", spec := "tintGray", apart := false, narrowed := true }
def TintGrayUptoSaid : Prop := tintGrayUptoRow.holds Try.pinned (OpenSpec.upto tintGraySpec)

/-- 'mezzotintkeep.TintBack', WHERE WHAT IT READS IS OF BULK AT MOST 1048576: true; the input reads as it did. -/
def tintBackUptoRow : OpenClaim := { program := "ytebfacbhldjpdaa", sum := "68de285939253ff00029cdcf30a2f39fab2536e633b29ae86ce82a3bf19a1205", func := "mezzotint/mezzotintkeep.TintBack", spec := "tintBack", unfollowed := true, recurses := true, apart := false, narrowed := true }
def TintBackUptoSaid : Prop := tintBackUptoRow.holds Try.pinned (OpenSpec.upto tintBackSpec)

/-- 'mezzotintkeep.TintRises', WHERE WHAT IT READS IS OF BULK AT MOST 1048576: true; the input reads as it did. -/
def tintRisesUptoRow : OpenClaim := { program := "ytebfacbhldjpdaa", sum := "68de285939253ff00029cdcf30a2f39fab2536e633b29ae86ce82a3bf19a1205", func := "mezzotint/mezzotintkeep.TintRises", spec := "tintRises", unfollowed := true, recurses := true, apart := false, narrowed := true }
def TintRisesUptoSaid : Prop := tintRisesUptoRow.holds Try.pinned (OpenSpec.upto tintRisesSpec)

/-- 'mezzotintkeep.TintLight', WHERE WHAT IT READS IS OF BULK AT MOST 1048576: true; the input reads as it did. -/
def tintLightUptoRow : OpenClaim := { program := "ytebfacbhldjpdaa", sum := "68de285939253ff00029cdcf30a2f39fab2536e633b29ae86ce82a3bf19a1205", func := "mezzotint/mezzotintkeep.TintLight", spec := "tintLight", apart := false, narrowed := true }
def TintLightUptoSaid : Prop := tintLightUptoRow.holds Try.pinned (OpenSpec.upto tintLightSpec)

end Rows
end Go.Proofs.Ytebfacbhldjpdaa
