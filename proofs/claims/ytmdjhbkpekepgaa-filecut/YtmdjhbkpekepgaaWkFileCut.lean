/- The law FileCut, walked. -/
import Derived.Test.YtmdjhbkpekepgaaLawFileCut
import Derived.Test.YtmdjhbkpekepgaaBd4
import Derived.Test.YtmdjhbkpekepgaaBd6
namespace Go.Proofs.Ytmdjhbkpekepgaa
open Go.RowKit
set_option linter.unusedVariables false
set_option linter.unusedSimpArgs false
set_option maxRecDepth 100000

theorem fileCut_walk (f : FileL) (A : Option Addr) (c : Nat) (A2 : Option Addr) (c2 : Nat) (A3 : Option Addr) (c3 : Nat) (at_ : Int) (w : World) (hf : FileIn f A c A2 c2 A3 c3 w.heap.size w) (hat : -9223372036854775808 ≤ at_ ∧ at_ ≤ 9223372036854775807) :
    Calls Try.prog 7 #[fileV f A c A2 c2 A3 c3, .int .i64 at_] w fun e w' => e = .returned (.bool true) ∧ Below w.heap.size w w' :=
  fileCut_by filePack_any fileParse_any f A c A2 c2 A3 c3 at_ w hf hat
end Go.Proofs.Ytmdjhbkpekepgaa
