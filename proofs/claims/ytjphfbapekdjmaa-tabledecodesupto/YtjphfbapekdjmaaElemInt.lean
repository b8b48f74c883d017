/- Rows of numbers. -/
import Derived.Test.YtjphfbapekdjmaaOwn
import Derived.Test.YtjphfbapekdjmaaRows
namespace Go.Proofs.Ytjphfbapekdjmaa
open Go.RowKit

theorem elem_int : ElemOf Try.prog 23 3 1 8 := .mk' (z := .int .i64 0) Try.underlying23 (by kernel_rfl) rfl (by omega)
abbrev numRow (v : Value) (l : List Int) : Row := intRow 3 .i64 v l
end Go.Proofs.Ytjphfbapekdjmaa
