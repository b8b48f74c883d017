/- The law PlaneMany, walked. -/
import Derived.Test.YtgajlplmpbaanaaLawPlaneMany
import Derived.Test.YtgajlplmpbaanaaBd1
namespace Go.Proofs.Ytgajlplmpbaanaa
open Go.RowKit
set_option linter.unusedVariables false
set_option linter.unusedSimpArgs false
set_option maxRecDepth 100000

theorem planeMany_walk (x y : Int) (w : World) (hx : -9223372036854775808 ≤ x ∧ x ≤ 9223372036854775807) (hy : -9223372036854775808 ≤ y ∧ y ≤ 9223372036854775807) :
    Calls Try.prog 8 #[.int .i64 x, .int .i64 y] w fun e w' => e = .returned (.bool true) ∧ Below w.heap.size w w' :=
  planeMany_by plCut_any plMany_any x y w hx hy
end Go.Proofs.Ytgajlplmpbaanaa
