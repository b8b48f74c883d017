/- The law TintBacks, walked. -/
import Derived.Test.YtebfacbhldjpdaaLawTintBacks
import Derived.Test.YtebfacbhldjpdaaBd1
namespace Go.Proofs.Ytebfacbhldjpdaa
open Go.RowKit
set_option linter.unusedVariables false
set_option linter.unusedSimpArgs false
set_option maxRecDepth 100000

theorem tintBacks_walk (r g b : Int) (w : World) (hr : -9223372036854775808 ≤ r ∧ r ≤ 9223372036854775807) (hg : -9223372036854775808 ≤ g ∧ g ≤ 9223372036854775807) (hb : -9223372036854775808 ≤ b ∧ b ≤ 9223372036854775807) :
    Calls Try.prog 4 #[.int .i64 r, .int .i64 g, .int .i64 b] w fun e w' => e = .returned (.bool true) ∧ Below w.heap.size w w' :=
  tintBacks_by tnFrom_any tnTo_any r g b w hr hg hb
end Go.Proofs.Ytebfacbhldjpdaa
