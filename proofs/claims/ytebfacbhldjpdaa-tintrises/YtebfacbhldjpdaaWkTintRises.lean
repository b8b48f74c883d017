/- The law TintRises, walked. -/
import Derived.Test.YtebfacbhldjpdaaLawTintRises
import Derived.Test.YtebfacbhldjpdaaBd1
namespace Go.Proofs.Ytebfacbhldjpdaa
open Go.RowKit
set_option linter.unusedVariables false
set_option linter.unusedSimpArgs false
set_option maxRecDepth 100000

theorem tintRises_walk (r g b m : Int) (w : World) (hr : -9223372036854775808 ≤ r ∧ r ≤ 9223372036854775807) (hg : -9223372036854775808 ≤ g ∧ g ≤ 9223372036854775807) (hb : -9223372036854775808 ≤ b ∧ b ≤ 9223372036854775807) (hm : -9223372036854775808 ≤ m ∧ m ≤ 9223372036854775807) :
    Calls Try.prog 7 #[.int .i64 r, .int .i64 g, .int .i64 b, .int .i64 m] w fun e w' => e = .returned (.bool true) ∧ Below w.heap.size w w' :=
  tintRises_by tnTo_any r g b m w hr hg hb hm
end Go.Proofs.Ytebfacbhldjpdaa
