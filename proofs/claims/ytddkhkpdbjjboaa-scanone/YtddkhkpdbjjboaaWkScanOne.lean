/- The law on one segment for all, walked. -/
import Derived.Test.YtddkhkpdbjjboaaLawScanOne
import Derived.Test.YtddkhkpdbjjboaaBd18
import Derived.Test.YtddkhkpdbjjboaaBd19
namespace Go.Proofs.Ytddkhkpdbjjboaa
open Go.RowKit
set_option linter.unusedVariables false
set_option linter.unusedSimpArgs false
set_option maxRecDepth 100000

theorem scanOne_walk (A : Option Addr) (c : Nat) (L : List (List Int)) (every at_ : Int) (w : World)
    (hs : Seen w w.heap.size A (rowsC L)) (hl : ∀ r ∈ L, r.length = 64) (hm : L.length ≤ maxLen) (hcap : L.length ≤ c) (heb : -9223372036854775808 ≤ every ∧ every ≤ 9223372036854775807) (hab : -9223372036854775808 ≤ at_ ∧ at_ ≤ 9223372036854775807) :
    Calls Try.prog 5 #[.slice A L.length c, .int .i64 every, .int .i64 at_] w fun e w' => e = .returned (.bool true) ∧ Below w.heap.size w w' :=
  scanOne_by scanEncode_any scanDecode_any A c L every at_ w hs hl hm hcap heb hab
end Go.Proofs.Ytddkhkpdbjjboaa
