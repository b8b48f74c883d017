/- The law PlaneClamp, walked. -/
import Derived.Test.YtgajlplmpbaanaaLawPlaneClamp
import Derived.Test.YtgajlplmpbaanaaBd2
import Derived.Test.YtgajlplmpbaanaaBd1
namespace Go.Proofs.Ytgajlplmpbaanaa
open Go.RowKit
set_option linter.unusedVariables false
set_option linter.unusedSimpArgs false
set_option maxRecDepth 100000

theorem planeClamp_walk (A : Option Addr) (c : Nat) (L : List (List Int)) (x y : Int) (w : World) (hs : Seen w w.heap.size A (rowsC L)) (hr : ∀ r ∈ L, r.length = 64) (hl : L.length ≤ maxLen) (hcap : L.length ≤ c) (hbd : ∀ r ∈ L, ∀ z ∈ r, -9223372036854775808 ≤ z ∧ z ≤ 9223372036854775807) (hx : -9223372036854775808 ≤ x ∧ x ≤ 9223372036854775807) (hy : -9223372036854775808 ≤ y ∧ y ≤ 9223372036854775807) :
    Calls Try.prog 7 #[.slice A L.length c, .int .i64 x, .int .i64 y] w fun e w' => e = .returned (.bool true) ∧ Below w.heap.size w w' :=
  planeClamp_by plCut_any plMany_any plJoin_any L A c x y w hr hbd hs hl hcap hx hy
end Go.Proofs.Ytgajlplmpbaanaa
