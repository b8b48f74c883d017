/- The law FileBack, walked. -/
import Derived.Test.YtmdjhbkpekepgaaLawFileBack
import Derived.Test.YtmdjhbkpekepgaaBd4
import Derived.Test.YtmdjhbkpekepgaaBd6
namespace Go.Proofs.Ytmdjhbkpekepgaa
open Go.RowKit
set_option linter.unusedVariables false
set_option linter.unusedSimpArgs false
set_option maxRecDepth 100000

theorem fileBack_walk (f : FileL) (A : Option Addr) (c : Nat) (A2 : Option Addr) (c2 : Nat) (A3 : Option Addr) (c3 : Nat) (B : Option Addr) (cb : Nat) (bs : List Int) (w : World) (hf : FileIn f A c A2 c2 A3 c3 w.heap.size w) (hs : Seen w w.heap.size B (ints .u8 bs)) (hbw : ∀ x ∈ bs, (Lit.int .u8 x).wf = true) (hm : bs.length ≤ maxLen) (hcap : bs.length ≤ cb) (hcm : cb ≤ maxLen) :
    Calls Try.prog 6 #[fileV f A c A2 c2 A3 c3, .slice B bs.length cb] w fun e w' => e = .returned (.bool true) ∧ Below w.heap.size w w' :=
  fileBack_by fileCheck_any filePack_any fileParse_any f A c A2 c2 A3 c3 B cb bs w hf hs (fun x hx => bounds_u8 (hbw x hx)) hm hcap
end Go.Proofs.Ytmdjhbkpekepgaa
