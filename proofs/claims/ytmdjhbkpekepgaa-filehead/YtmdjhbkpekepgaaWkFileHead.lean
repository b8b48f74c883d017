/- The law FileHead, walked. -/
import Derived.Test.YtmdjhbkpekepgaaLawFileHead
import Derived.Test.YtmdjhbkpekepgaaBd3
namespace Go.Proofs.Ytmdjhbkpekepgaa
open Go.RowKit
set_option linter.unusedVariables false
set_option linter.unusedSimpArgs false
set_option maxRecDepth 100000

theorem fileHead_walk (f : FileL) (A : Option Addr) (c : Nat) (A2 : Option Addr) (c2 : Nat) (A3 : Option Addr) (c3 : Nat) (w : World) (hf : FileIn f A c A2 c2 A3 c3 w.heap.size w) :
    Calls Try.prog 8 #[fileV f A c A2 c2 A3 c3] w fun e w' => e = .returned (.bool true) ∧ Below w.heap.size w w' :=
  fileHead_by filePack_any f A c A2 c2 A3 c3 w hf
end Go.Proofs.Ytmdjhbkpekepgaa
