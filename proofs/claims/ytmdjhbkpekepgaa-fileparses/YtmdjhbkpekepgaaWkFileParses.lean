/- The law FileParses, walked. -/
import Derived.Test.YtmdjhbkpekepgaaLawFileParses
import Derived.Test.YtmdjhbkpekepgaaBd6
import Derived.Test.YtmdjhbkpekepgaaBd7
namespace Go.Proofs.Ytmdjhbkpekepgaa
open Go.RowKit
set_option linter.unusedVariables false
set_option linter.unusedSimpArgs false
set_option maxRecDepth 100000

theorem fileParses_walk (B : Option Addr) (cb : Nat) (bs : List Int) (w : World) (hs : Seen w w.heap.size B (ints .u8 bs)) (hbw : ∀ x ∈ bs, (Lit.int .u8 x).wf = true) (hm : bs.length ≤ maxLen) (hcap : bs.length ≤ cb) (hcm : cb ≤ maxLen) :
    Calls Try.prog 5 #[.slice B bs.length cb] w fun e w' => e = .returned (.bool true) ∧ Below w.heap.size w w' :=
  fileParses_by fileCheck_any fileParse_any B cb bs w hs (fun x hx => bounds_u8 (hbw x hx)) hm hcap
end Go.Proofs.Ytmdjhbkpekepgaa
