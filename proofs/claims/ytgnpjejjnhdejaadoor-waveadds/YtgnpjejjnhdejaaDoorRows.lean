/-
  NARROWER THAN 'FOR EVERY INPUT', by the rows' own cells (each row's printed sentence says how): WaveBasis: laid · WaveTo: laid · WaveFrom: laid · WaveFlat: laid · WaveOdd: laid · WaveAcross: laid · WaveMirror: laid · WaveApart: laid · WaveNear: laid · WaveAdds: laid · WaveLine: laid · WaveSingle: laid.
  DERIVED. THE GIVEN ROWS OF THIS SEAT. 12 by the template 'for every input the law returns true; each argument reads behind the call as it read before'; 0 by the template 'total and deterministic' (their statements: YtgnpjejjnhdejaaDoorTotals.lean).
  GIVEN WITH THE SEED: the statements are not yours to turn. If you find one false, say at which input.
  Laid BY PROGRAM, IN A SANDBOX (cutbox-rows.mjs): the forced cells as the released guide's own fill.sh prints them over the translation 2760fee5d444a5ef… (all of the seat's roots in one cut). By AI agents, Wed Nov 11 2026. No macro, syntax, notation, axiom, sorry.
-/
import Derived.Test.YtgnpjejjnhdejaaDoorChecked
import GoSem.Claim
import GoSem.ClaimJoined
import GoSem.ClaimMapViews
import Derived.JoinedTies
import Derived.KernelRfl
namespace Go.Proofs.YtgnpjejjnhdejaaDoor
/- THE CELL 'sum', in the pinned program and in every row, IS THE sha256 OF THE DUMP (.gsa) THAT YtgnpjejjnhdejaaDoorProg.lean LOADS. Nothing in Lean hashes anything: it is a label: what it is worth is what the hold of that sum in a sandbox is worth. -/
noncomputable def Tryd.pinned : Pinned := { name := "ytgnpjejjnhdejaadoor", sum := "2760fee5d444a5ef0b5f058a7b0f7771bf6bfbab2892605256111fe65100aaa2", checked := Tryd.checked }
namespace Rows
def none {H : Type} : Left H := { results := [], args := [] }

/- WHAT THE LISTED PACKAGE-LEVEL VARIABLES READ AS WHEN THE CALL BEGINS. Each datum BY PROGRAM (the guide's laid-datum.mjs) off the statement by which the dump's own 'gosem.cut.vars' lays the variable. In a bare row this is a premise. The card (YtgnpjejjnhdejaaDoorCards.lean) ties it to the program's text. -/
def laid_mezzotint_wave_quarter {H : Type} : DataW H := .agg [.lit (.int .i64 4096), .lit (.int .i64 4017), .lit (.int .i64 3784), .lit (.int .i64 3406), .lit (.int .i64 2896), .lit (.int .i64 2276), .lit (.int .i64 1567), .lit (.int .i64 799), .lit (.int .i64 0)]

/-- 'mezzotintlaw.WaveBasis': WHATEVER THE INPUT: true; the input reads as it did. -/
def waveBasisSpec : ChangeSpec := { name := "waveBasis", fn := fun _ => fun
  | [d1, d2] => { results := [.lit (.bool true)], args := [d1, d2] }
  | _ => none }
def waveBasisRow : OpenClaim := { program := "ytgnpjejjnhdejaadoor", sum := "2760fee5d444a5ef0b5f058a7b0f7771bf6bfbab2892605256111fe65100aaa2", func := "mezzotint/mezzotintlaw.WaveBasis", spec := "waveBasis", named := ["mezzotint/wave.quarter"], apart := false, laid := [("mezzotint/wave.quarter", laid_mezzotint_wave_quarter)] }
def WaveBasisSaid : Prop := waveBasisRow.holds Tryd.pinned (OpenSpec.ofChange waveBasisSpec)

/-- ITS FALSE NEIGHBOUR: 'it returns false'. Refute it at one input. -/
def waveBasisWrong : ChangeSpec := { name := "waveBasis", fn := fun _ => fun
  | [d1, d2] => { results := [.lit (.bool false)], args := [d1, d2] }
  | _ => none }
def WaveBasisWrongFalsely : Prop := waveBasisRow.holds Tryd.pinned (OpenSpec.ofChange waveBasisWrong)

/-- 'mezzotintlaw.WaveTo': WHATEVER THE INPUT: true; the input reads as it did. -/
def waveToSpec : ChangeSpec := { name := "waveTo", fn := fun _ => fun
  | [d] => { results := [.lit (.bool true)], args := [d] }
  | _ => none }
def waveToRow : OpenClaim := { program := "ytgnpjejjnhdejaadoor", sum := "2760fee5d444a5ef0b5f058a7b0f7771bf6bfbab2892605256111fe65100aaa2", func := "mezzotint/mezzotintlaw.WaveTo", spec := "waveTo", unfollowed := true, recurses := true, named := ["mezzotint/wave.quarter"], apart := false, laid := [("mezzotint/wave.quarter", laid_mezzotint_wave_quarter)] }
def WaveToSaid : Prop := waveToRow.holds Tryd.pinned (OpenSpec.ofChange waveToSpec)

/-- ITS FALSE NEIGHBOUR: 'it returns false'. Refute it at one input. -/
def waveToWrong : ChangeSpec := { name := "waveTo", fn := fun _ => fun
  | [d] => { results := [.lit (.bool false)], args := [d] }
  | _ => none }
def WaveToWrongFalsely : Prop := waveToRow.holds Tryd.pinned (OpenSpec.ofChange waveToWrong)

/-- 'mezzotintlaw.WaveFrom': WHATEVER THE INPUT: true; the input reads as it did. -/
def waveFromSpec : ChangeSpec := { name := "waveFrom", fn := fun _ => fun
  | [d] => { results := [.lit (.bool true)], args := [d] }
  | _ => none }
def waveFromRow : OpenClaim := { program := "ytgnpjejjnhdejaadoor", sum := "2760fee5d444a5ef0b5f058a7b0f7771bf6bfbab2892605256111fe65100aaa2", func := "mezzotint/mezzotintlaw.WaveFrom", spec := "waveFrom", unfollowed := true, recurses := true, named := ["mezzotint/wave.quarter"], apart := false, laid := [("mezzotint/wave.quarter", laid_mezzotint_wave_quarter)] }
def WaveFromSaid : Prop := waveFromRow.holds Tryd.pinned (OpenSpec.ofChange waveFromSpec)

/-- ITS FALSE NEIGHBOUR: 'it returns false'. Refute it at one input. -/
def waveFromWrong : ChangeSpec := { name := "waveFrom", fn := fun _ => fun
  | [d] => { results := [.lit (.bool false)], args := [d] }
  | _ => none }
def WaveFromWrongFalsely : Prop := waveFromRow.holds Tryd.pinned (OpenSpec.ofChange waveFromWrong)

/-- 'mezzotintkeep.WaveFlat': WHATEVER THE INPUT: true; the input reads as it did. -/
def waveFlatSpec : ChangeSpec := { name := "waveFlat", fn := fun _ => fun
  | [d] => { results := [.lit (.bool true)], args := [d] }
  | _ => none }
def waveFlatRow : OpenClaim := { program := "ytgnpjejjnhdejaadoor", sum := "2760fee5d444a5ef0b5f058a7b0f7771bf6bfbab2892605256111fe65100aaa2", func := "mezzotint/mezzotintkeep.WaveFlat", spec := "waveFlat", unfollowed := true, recurses := true, named := ["mezzotint/wave.quarter"], apart := false, laid := [("mezzotint/wave.quarter", laid_mezzotint_wave_quarter)] }
def WaveFlatSaid : Prop := waveFlatRow.holds Tryd.pinned (OpenSpec.ofChange waveFlatSpec)

/-- ITS FALSE NEIGHBOUR: 'it returns false'. Refute it at one input. -/
def waveFlatWrong : ChangeSpec := { name := "waveFlat", fn := fun _ => fun
  | [d] => { results := [.lit (.bool false)], args := [d] }
  | _ => none }
def WaveFlatWrongFalsely : Prop := waveFlatRow.holds Tryd.pinned (OpenSpec.ofChange waveFlatWrong)

/-- 'mezzotintkeep.WaveOdd': WHATEVER THE INPUT: true; the input reads as it did. -/
def waveOddSpec : ChangeSpec := { name := "waveOdd", fn := fun _ => fun
  | [d] => { results := [.lit (.bool true)], args := [d] }
  | _ => none }
def waveOddRow : OpenClaim := { program := "ytgnpjejjnhdejaadoor", sum := "2760fee5d444a5ef0b5f058a7b0f7771bf6bfbab2892605256111fe65100aaa2", func := "mezzotint/mezzotintkeep.WaveOdd", spec := "waveOdd", unfollowed := true, recurses := true, named := ["mezzotint/wave.quarter"], apart := false, laid := [("mezzotint/wave.quarter", laid_mezzotint_wave_quarter)] }
def WaveOddSaid : Prop := waveOddRow.holds Tryd.pinned (OpenSpec.ofChange waveOddSpec)

/-- ITS FALSE NEIGHBOUR: 'it returns false'. Refute it at one input. -/
def waveOddWrong : ChangeSpec := { name := "waveOdd", fn := fun _ => fun
  | [d] => { results := [.lit (.bool false)], args := [d] }
  | _ => none }
def WaveOddWrongFalsely : Prop := waveOddRow.holds Tryd.pinned (OpenSpec.ofChange waveOddWrong)

/-- 'mezzotintkeep.WaveAcross': WHATEVER THE INPUT: true; the input reads as it did. -/
def waveAcrossSpec : ChangeSpec := { name := "waveAcross", fn := fun _ => fun
  | [d] => { results := [.lit (.bool true)], args := [d] }
  | _ => none }
def waveAcrossRow : OpenClaim := { program := "ytgnpjejjnhdejaadoor", sum := "2760fee5d444a5ef0b5f058a7b0f7771bf6bfbab2892605256111fe65100aaa2", func := "mezzotint/mezzotintkeep.WaveAcross", spec := "waveAcross", unfollowed := true, recurses := true, named := ["mezzotint/wave.quarter"], apart := false, laid := [("mezzotint/wave.quarter", laid_mezzotint_wave_quarter)] }
def WaveAcrossSaid : Prop := waveAcrossRow.holds Tryd.pinned (OpenSpec.ofChange waveAcrossSpec)

/-- ITS FALSE NEIGHBOUR: 'it returns false'. Refute it at one input. -/
def waveAcrossWrong : ChangeSpec := { name := "waveAcross", fn := fun _ => fun
  | [d] => { results := [.lit (.bool false)], args := [d] }
  | _ => none }
def WaveAcrossWrongFalsely : Prop := waveAcrossRow.holds Tryd.pinned (OpenSpec.ofChange waveAcrossWrong)

/-- 'mezzotintkeep.WaveMirror': WHATEVER THE INPUT: true; the input reads as it did. -/
def waveMirrorSpec : ChangeSpec := { name := "waveMirror", fn := fun _ => fun
  | [d] => { results := [.lit (.bool true)], args := [d] }
  | _ => none }
def waveMirrorRow : OpenClaim := { program := "ytgnpjejjnhdejaadoor", sum := "2760fee5d444a5ef0b5f058a7b0f7771bf6bfbab2892605256111fe65100aaa2", func := "mezzotint/mezzotintkeep.WaveMirror", spec := "waveMirror", unfollowed := true, recurses := true, named := ["mezzotint/wave.quarter"], apart := false, laid := [("mezzotint/wave.quarter", laid_mezzotint_wave_quarter)] }
def WaveMirrorSaid : Prop := waveMirrorRow.holds Tryd.pinned (OpenSpec.ofChange waveMirrorSpec)

/-- ITS FALSE NEIGHBOUR: 'it returns false'. Refute it at one input. -/
def waveMirrorWrong : ChangeSpec := { name := "waveMirror", fn := fun _ => fun
  | [d] => { results := [.lit (.bool false)], args := [d] }
  | _ => none }
def WaveMirrorWrongFalsely : Prop := waveMirrorRow.holds Tryd.pinned (OpenSpec.ofChange waveMirrorWrong)

/-- 'mezzotintkeep.WaveApart': WHATEVER THE INPUT: true; the input reads as it did. -/
def waveApartSpec : ChangeSpec := { name := "waveApart", fn := fun _ => fun
  | [d1, d2] => { results := [.lit (.bool true)], args := [d1, d2] }
  | _ => none }
def waveApartRow : OpenClaim := { program := "ytgnpjejjnhdejaadoor", sum := "2760fee5d444a5ef0b5f058a7b0f7771bf6bfbab2892605256111fe65100aaa2", func := "mezzotint/mezzotintkeep.WaveApart", spec := "waveApart", unfollowed := true, recurses := true, named := ["mezzotint/wave.quarter"], apart := false, laid := [("mezzotint/wave.quarter", laid_mezzotint_wave_quarter)] }
def WaveApartSaid : Prop := waveApartRow.holds Tryd.pinned (OpenSpec.ofChange waveApartSpec)

/-- ITS FALSE NEIGHBOUR: 'it returns false'. Refute it at one input. -/
def waveApartWrong : ChangeSpec := { name := "waveApart", fn := fun _ => fun
  | [d1, d2] => { results := [.lit (.bool false)], args := [d1, d2] }
  | _ => none }
def WaveApartWrongFalsely : Prop := waveApartRow.holds Tryd.pinned (OpenSpec.ofChange waveApartWrong)

/-- 'mezzotintkeep.WaveNear': WHATEVER THE INPUT: true; the input reads as it did. -/
def waveNearSpec : ChangeSpec := { name := "waveNear", fn := fun _ => fun
  | [d] => { results := [.lit (.bool true)], args := [d] }
  | _ => none }
def waveNearRow : OpenClaim := { program := "ytgnpjejjnhdejaadoor", sum := "2760fee5d444a5ef0b5f058a7b0f7771bf6bfbab2892605256111fe65100aaa2", func := "mezzotint/mezzotintkeep.WaveNear", spec := "waveNear", unfollowed := true, recurses := true, named := ["mezzotint/wave.quarter"], apart := false, laid := [("mezzotint/wave.quarter", laid_mezzotint_wave_quarter)] }
def WaveNearSaid : Prop := waveNearRow.holds Tryd.pinned (OpenSpec.ofChange waveNearSpec)

/-- ITS FALSE NEIGHBOUR: 'it returns false'. Refute it at one input. -/
def waveNearWrong : ChangeSpec := { name := "waveNear", fn := fun _ => fun
  | [d] => { results := [.lit (.bool false)], args := [d] }
  | _ => none }
def WaveNearWrongFalsely : Prop := waveNearRow.holds Tryd.pinned (OpenSpec.ofChange waveNearWrong)

/-- 'mezzotintkeep.WaveAdds': WHATEVER THE INPUT: true; the input reads as it did. -/
def waveAddsSpec : ChangeSpec := { name := "waveAdds", fn := fun _ => fun
  | [d1, d2] => { results := [.lit (.bool true)], args := [d1, d2] }
  | _ => none }
def waveAddsRow : OpenClaim := { program := "ytgnpjejjnhdejaadoor", sum := "2760fee5d444a5ef0b5f058a7b0f7771bf6bfbab2892605256111fe65100aaa2", func := "mezzotint/mezzotintkeep.WaveAdds", spec := "waveAdds", unfollowed := true, recurses := true, named := ["mezzotint/wave.quarter"], apart := false, laid := [("mezzotint/wave.quarter", laid_mezzotint_wave_quarter)] }
def WaveAddsSaid : Prop := waveAddsRow.holds Tryd.pinned (OpenSpec.ofChange waveAddsSpec)

/-- ITS FALSE NEIGHBOUR: 'it returns false'. Refute it at one input. -/
def waveAddsWrong : ChangeSpec := { name := "waveAdds", fn := fun _ => fun
  | [d1, d2] => { results := [.lit (.bool false)], args := [d1, d2] }
  | _ => none }
def WaveAddsWrongFalsely : Prop := waveAddsRow.holds Tryd.pinned (OpenSpec.ofChange waveAddsWrong)

/-- 'mezzotintkeep.WaveLine': WHATEVER THE INPUT: true; the input reads as it did. -/
def waveLineSpec : ChangeSpec := { name := "waveLine", fn := fun _ => fun
  | [d] => { results := [.lit (.bool true)], args := [d] }
  | _ => none }
def waveLineRow : OpenClaim := { program := "ytgnpjejjnhdejaadoor", sum := "2760fee5d444a5ef0b5f058a7b0f7771bf6bfbab2892605256111fe65100aaa2", func := "mezzotint/mezzotintkeep.WaveLine", spec := "waveLine", unfollowed := true, recurses := true, named := ["mezzotint/wave.quarter"], apart := false, laid := [("mezzotint/wave.quarter", laid_mezzotint_wave_quarter)] }
def WaveLineSaid : Prop := waveLineRow.holds Tryd.pinned (OpenSpec.ofChange waveLineSpec)

/-- ITS FALSE NEIGHBOUR: 'it returns false'. Refute it at one input. -/
def waveLineWrong : ChangeSpec := { name := "waveLine", fn := fun _ => fun
  | [d] => { results := [.lit (.bool false)], args := [d] }
  | _ => none }
def WaveLineWrongFalsely : Prop := waveLineRow.holds Tryd.pinned (OpenSpec.ofChange waveLineWrong)

/-- 'mezzotintkeep.WaveSingle': WHATEVER THE INPUT: true; the input reads as it did. -/
def waveSingleSpec : ChangeSpec := { name := "waveSingle", fn := fun _ => fun
  | [d1, d2] => { results := [.lit (.bool true)], args := [d1, d2] }
  | _ => none }
def waveSingleRow : OpenClaim := { program := "ytgnpjejjnhdejaadoor", sum := "2760fee5d444a5ef0b5f058a7b0f7771bf6bfbab2892605256111fe65100aaa2", func := "mezzotint/mezzotintkeep.WaveSingle", spec := "waveSingle", unfollowed := true, recurses := true, named := ["mezzotint/wave.quarter"], apart := false, laid := [("mezzotint/wave.quarter", laid_mezzotint_wave_quarter)] }
def WaveSingleSaid : Prop := waveSingleRow.holds Tryd.pinned (OpenSpec.ofChange waveSingleSpec)

/-- ITS FALSE NEIGHBOUR: 'it returns false'. Refute it at one input. -/
def waveSingleWrong : ChangeSpec := { name := "waveSingle", fn := fun _ => fun
  | [d1, d2] => { results := [.lit (.bool false)], args := [d1, d2] }
  | _ => none }
def WaveSingleWrongFalsely : Prop := waveSingleRow.holds Tryd.pinned (OpenSpec.ofChange waveSingleWrong)

/- THE SECOND FORM. 'bulk': how many values and letters a reading holds, each counted each time it is reached (what is shared counts as often as it is met; a slice's spare places count too). A statement '..UptoSaid' is the law's where the arguments, and the package variables that the reading takes, are together of bulk at most 1048576: NARROWER than '..Said'. Prove '..Said' where nothing that the law and all that it calls make is longer than what came in: it says more and counts as full. Else prove '..UptoSaid'. A law counts once. -/
mutual
def uptoBulk {H : Type} : DataW H → Nat
  | .lit (.string bytes) => bytes.length + 1
  | .lit _ => 1
  | .nil => 1
  | .ptr d => uptoBulk d + 1
  | .slice elems spare => uptoBulkAll elems + uptoBulkAll spare + 1
  | .agg parts => uptoBulkAll parts + 1
  | .iface _ d => uptoBulk d + 1
  | .map entries => uptoBulkEntries entries + 1
  | .held _ => 1
def uptoBulkAll {H : Type} : List (DataW H) → Nat
  | [] => 0
  | d :: r => uptoBulk d + uptoBulkAll r
def uptoBulkEntries {H : Type} : List (Lit × DataW H) → Nat
  | [] => 0
  | x :: r => uptoBulkEntry x + uptoBulkEntries r
def uptoBulkEntry {H : Type} : Lit × DataW H → Nat
  | (.string bytes, d) => bytes.length + uptoBulk d + 1
  | (_, d) => uptoBulk d + 1
 end
def uptoSmall : (H : Type) → List (DataW H) → Bool := fun _ ds => decide (uptoBulkAll ds ≤ 1048576)
def OpenSpec.upto (s : _root_.Go.ChangeSpec) : _root_.Go.OpenSpec := { _root_.Go.OpenSpec.ofChange s with cond := some uptoSmall }

/-- 'mezzotintlaw.WaveBasis', WHERE WHAT IT READS IS OF BULK AT MOST 1048576: true; the input reads as it did. -/
def waveBasisUptoRow : OpenClaim := { program := "ytgnpjejjnhdejaadoor", sum := "2760fee5d444a5ef0b5f058a7b0f7771bf6bfbab2892605256111fe65100aaa2", func := "mezzotint/mezzotintlaw.WaveBasis", spec := "waveBasis", named := ["mezzotint/wave.quarter"], apart := false, laid := [("mezzotint/wave.quarter", laid_mezzotint_wave_quarter)], narrowed := true }
def WaveBasisUptoSaid : Prop := waveBasisUptoRow.holds Tryd.pinned (OpenSpec.upto waveBasisSpec)

/-- 'mezzotintlaw.WaveTo', WHERE WHAT IT READS IS OF BULK AT MOST 1048576: true; the input reads as it did. -/
def waveToUptoRow : OpenClaim := { program := "ytgnpjejjnhdejaadoor", sum := "2760fee5d444a5ef0b5f058a7b0f7771bf6bfbab2892605256111fe65100aaa2", func := "mezzotint/mezzotintlaw.WaveTo", spec := "waveTo", unfollowed := true, recurses := true, named := ["mezzotint/wave.quarter"], apart := false, laid := [("mezzotint/wave.quarter", laid_mezzotint_wave_quarter)], narrowed := true }
def WaveToUptoSaid : Prop := waveToUptoRow.holds Tryd.pinned (OpenSpec.upto waveToSpec)

/-- 'mezzotintlaw.WaveFrom', WHERE WHAT IT READS IS OF BULK AT MOST 1048576: true; the input reads as it did. -/
def waveFromUptoRow : OpenClaim := { program := "ytgnpjejjnhdejaadoor", sum := "2760fee5d444a5ef0b5f058a7b0f7771bf6bfbab2892605256111fe65100aaa2", func := "mezzotint/mezzotintlaw.WaveFrom", spec := "waveFrom", unfollowed := true, recurses := true, named := ["mezzotint/wave.quarter"], apart := false, laid := [("mezzotint/wave.quarter", laid_mezzotint_wave_quarter)], narrowed := true }
def WaveFromUptoSaid : Prop := waveFromUptoRow.holds Tryd.pinned (OpenSpec.upto waveFromSpec)

/-- 'mezzotintkeep.WaveFlat', WHERE WHAT IT READS IS OF BULK AT MOST 1048576: true; the input reads as it did. -/
def waveFlatUptoRow : OpenClaim := { program := "ytgnpjejjnhdejaadoor", sum := "2760fee5d444a5ef0b5f058a7b0f7771bf6bfbab2892605256111fe65100aaa2", func := "mezzotint/mezzotintkeep.WaveFlat", spec := "waveFlat", unfollowed := true, recurses := true, named := ["mezzotint/wave.quarter"], apart := false, laid := [("mezzotint/wave.quarter", laid_mezzotint_wave_quarter)], narrowed := true }
def WaveFlatUptoSaid : Prop := waveFlatUptoRow.holds Tryd.pinned (OpenSpec.upto waveFlatSpec)

/-- 'mezzotintkeep.WaveOdd', WHERE WHAT IT READS IS OF BULK AT MOST 1048576: true; the input reads as it did. -/
def waveOddUptoRow : OpenClaim := { program := "ytgnpjejjnhdejaadoor", sum := "2760fee5d444a5ef0b5f058a7b0f7771bf6bfbab2892605256111fe65100aaa2", func := "mezzotint/mezzotintkeep.WaveOdd", spec := "waveOdd", unfollowed := true, recurses := true, named := ["mezzotint/wave.quarter"], apart := false, laid := [("mezzotint/wave.quarter", laid_mezzotint_wave_quarter)], narrowed := true }
def WaveOddUptoSaid : Prop := waveOddUptoRow.holds Tryd.pinned (OpenSpec.upto waveOddSpec)

/-- 'mezzotintkeep.WaveAcross', WHERE WHAT IT READS IS OF BULK AT MOST 1048576: true; the input reads as it did. -/
def waveAcrossUptoRow : OpenClaim := { program := "ytgnpjejjnhdejaadoor", sum := "2760fee5d444a5ef0b5f058a7b0f7771bf6bfbab2892605256111fe65100aaa2", func := "mezzotint/mezzotintkeep.WaveAcross", spec := "waveAcross", unfollowed := true, recurses := true, named := ["mezzotint/wave.quarter"], apart := false, laid := [("mezzotint/wave.quarter", laid_mezzotint_wave_quarter)], narrowed := true }
def WaveAcrossUptoSaid : Prop := waveAcrossUptoRow.holds Tryd.pinned (OpenSpec.upto waveAcrossSpec)

/-- 'mezzotintkeep.WaveMirror', WHERE WHAT IT READS IS OF BULK AT MOST 1048576: true; the input reads as it did. -/
def waveMirrorUptoRow : OpenClaim := { program := "ytgnpjejjnhdejaadoor", sum := "2760fee5d444a5ef0b5f058a7b0f7771bf6bfbab2892605256111fe65100aaa2", func := "mezzotint/mezzotintkeep.WaveMirror", spec := "waveMirror", unfollowed := true, recurses := true, named := ["mezzotint/wave.quarter"], apart := false, laid := [("mezzotint/wave.quarter", laid_mezzotint_wave_quarter)], narrowed := true }
def WaveMirrorUptoSaid : Prop := waveMirrorUptoRow.holds Tryd.pinned (OpenSpec.upto waveMirrorSpec)

/-- 'mezzotintkeep.WaveApart', WHERE WHAT IT READS IS OF BULK AT MOST 1048576: true; the input reads as it did. -/
def waveApartUptoRow : OpenClaim := { program := "ytgnpjejjnhdejaadoor", sum := "2760fee5d444a5ef0b5f058a7b0f7771bf6bfbab2892605256111fe65100aaa2", func := "mezzotint/mezzotintkeep.WaveApart", spec := "waveApart", unfollowed := true, recurses := true, named := ["mezzotint/wave.quarter"], apart := false, laid := [("mezzotint/wave.quarter", laid_mezzotint_wave_quarter)], narrowed := true }
def WaveApartUptoSaid : Prop := waveApartUptoRow.holds Tryd.pinned (OpenSpec.upto waveApartSpec)

/-- 'mezzotintkeep.WaveNear', WHERE WHAT IT READS IS OF BULK AT MOST 1048576: true; the input reads as it did. -/
def waveNearUptoRow : OpenClaim := { program := "ytgnpjejjnhdejaadoor", sum := "2760fee5d444a5ef0b5f058a7b0f7771bf6bfbab2892605256111fe65100aaa2", func := "mezzotint/mezzotintkeep.WaveNear", spec := "waveNear", unfollowed := true, recurses := true, named := ["mezzotint/wave.quarter"], apart := false, laid := [("mezzotint/wave.quarter", laid_mezzotint_wave_quarter)], narrowed := true }
def WaveNearUptoSaid : Prop := waveNearUptoRow.holds Tryd.pinned (OpenSpec.upto waveNearSpec)

/-- 'mezzotintkeep.WaveAdds', WHERE WHAT IT READS IS OF BULK AT MOST 1048576: true; the input reads as it did. -/
def waveAddsUptoRow : OpenClaim := { program := "ytgnpjejjnhdejaadoor", sum := "2760fee5d444a5ef0b5f058a7b0f7771bf6bfbab2892605256111fe65100aaa2", func := "mezzotint/mezzotintkeep.WaveAdds", spec := "waveAdds", unfollowed := true, recurses := true, named := ["mezzotint/wave.quarter"], apart := false, laid := [("mezzotint/wave.quarter", laid_mezzotint_wave_quarter)], narrowed := true }
def WaveAddsUptoSaid : Prop := waveAddsUptoRow.holds Tryd.pinned (OpenSpec.upto waveAddsSpec)

/-- 'mezzotintkeep.WaveLine', WHERE WHAT IT READS IS OF BULK AT MOST 1048576: true; the input reads as it did. -/
def waveLineUptoRow : OpenClaim := { program := "ytgnpjejjnhdejaadoor", sum := "2760fee5d444a5ef0b5f058a7b0f7771bf6bfbab2892605256111fe65100aaa2", func := "mezzotint/mezzotintkeep.WaveLine", spec := "waveLine", unfollowed := true, recurses := true, named := ["mezzotint/wave.quarter"], apart := false, laid := [("mezzotint/wave.quarter", laid_mezzotint_wave_quarter)], narrowed := true }
def WaveLineUptoSaid : Prop := waveLineUptoRow.holds Tryd.pinned (OpenSpec.upto waveLineSpec)

/-- 'mezzotintkeep.WaveSingle', WHERE WHAT IT READS IS OF BULK AT MOST 1048576: true; the input reads as it did. -/
def waveSingleUptoRow : OpenClaim := { program := "ytgnpjejjnhdejaadoor", sum := "2760fee5d444a5ef0b5f058a7b0f7771bf6bfbab2892605256111fe65100aaa2", func := "mezzotint/mezzotintkeep.WaveSingle", spec := "waveSingle", unfollowed := true, recurses := true, named := ["mezzotint/wave.quarter"], apart := false, laid := [("mezzotint/wave.quarter", laid_mezzotint_wave_quarter)], narrowed := true }
def WaveSingleUptoSaid : Prop := waveSingleUptoRow.holds Tryd.pinned (OpenSpec.upto waveSingleSpec)

end Rows
end Go.Proofs.YtgnpjejjnhdejaaDoor
