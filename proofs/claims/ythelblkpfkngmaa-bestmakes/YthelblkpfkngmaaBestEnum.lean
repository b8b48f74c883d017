/- Numbers with their places. No program is named here. -/
import Derived.Test.YthelblkpfkngmaaMem
namespace Go.Proofs.Ythelblkpfkngmaa
set_option linter.unusedVariables false
set_option linter.unusedSimpArgs false

/-- The numbers with their places. -/
def enumI (zs : List Int) : List (Int × Int) := zs.zipIdx.map fun p => ((p.2 : Int), p.1)
theorem enumI_length (zs : List Int) : (enumI zs).length = zs.length := by simp [enumI]
theorem enumI_at {zs : List Int} {k : Nat} {x : Int} (h : zs[k]? = some x) : (enumI zs)[k]? = some ((k : Int), x) := by
  simp [enumI, List.getElem?_zipIdx, h]
end Go.Proofs.Ythelblkpfkngmaa
