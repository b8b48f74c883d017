/- The law PlaneEdge, walked. -/
import Derived.Test.YtgajlplmpbaanaaLawPlaneEdge
import Derived.Test.YtgajlplmpbaanaaBd2
import Derived.Test.YtgajlplmpbaanaaBd1
namespace Go.Proofs.Ytgajlplmpbaanaa
open Go.RowKit
set_option linter.unusedVariables false
set_option linter.unusedSimpArgs false
set_option maxRecDepth 100000

theorem planeEdge_walk (A : Option Addr) (c : Nat) (l : List Int) (x y : Int) (w : World) (hs : Seen w w.heap.size A (ints .i64 l)) (hwf : ∀ z ∈ l, (Lit.int .i64 z).wf = true) (hl : l.length ≤ maxLen) (hx : -9223372036854775808 ≤ x ∧ x ≤ 9223372036854775807) (hy : -9223372036854775808 ≤ y ∧ y ≤ 9223372036854775807) :
    Calls Try.prog 6 #[.slice A l.length c, .int .i64 x, .int .i64 y] w fun e w' => e = .returned (.bool true) ∧ Below w.heap.size w w' :=
  planeEdge_by plCut_any plMany_any l A c x y w hs (fun z hz => bounds_i64 (hwf z hz)) hl hx hy
end Go.Proofs.Ytgajlplmpbaanaa
