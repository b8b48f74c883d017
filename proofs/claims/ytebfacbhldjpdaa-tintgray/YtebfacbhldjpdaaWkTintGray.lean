/- The law TintGray, walked. -/
import Derived.Test.YtebfacbhldjpdaaLawTintGray
import Derived.Test.YtebfacbhldjpdaaBd1
namespace Go.Proofs.Ytebfacbhldjpdaa
open Go.RowKit
set_option linter.unusedVariables false
set_option linter.unusedSimpArgs false
set_option maxRecDepth 100000

theorem tintGray_walk (n : Int) (w : World) (hn : -9223372036854775808 ≤ n ∧ n ≤ 9223372036854775807) :
    Calls Try.prog 5 #[.int .i64 n] w fun e w' => e = .returned (.bool true) ∧ Below w.heap.size w w' :=
  tintGray_by tnTo_any tnFrom_any n w hn
end Go.Proofs.Ytebfacbhldjpdaa
