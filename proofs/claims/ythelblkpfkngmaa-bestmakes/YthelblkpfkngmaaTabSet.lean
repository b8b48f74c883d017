/- Cells of a table, written. -/
import Derived.Test.YthelblkpfkngmaaTabBase
namespace Go.Proofs.Ythelblkpfkngmaa
open Go.RowKit
set_option linter.unusedVariables false
set_option linter.unusedSimpArgs false

def upTo (n : Nat) : List Int := (List.range n).map Int.ofNat
theorem upTo_length (n : Nat) : (upTo n).length = n := by simp [upTo]
theorem upTo_succ (n : Nat) : upTo (n + 1) = upTo n ++ [(n : Int)] := by simp [upTo, List.range_succ]
theorem tab_set_count {cs : List Int} {A : Option Addr} {n c k : Nat} {x : Int} (hk : k < cs.length) : (tabCells cs A n c).set k (.int .i64 x) = tabCells (cs.set k x) A n c := by
  unfold tabCells
  rw [List.set_append_left _ _ (by rw [ints_length]; exact hk)]
  simp [ints, List.map_set]
theorem tab_set_syms {cs : List Int} {A A' : Option Addr} {n n' c c' : Nat} (h : cs.length = 16) : (tabCells cs A n c).set 16 (.slice A' n' c') = tabCells cs A' n' c' := by
  unfold tabCells; rw [List.set_append_right _ _ (by rw [ints_length]; omega), ints_length, h]; rfl
theorem tab_count {cs : List Int} {A : Option Addr} {n c k : Nat} {x : Int} (h : cs[k]? = some x) : (tabCells cs A n c)[k]? = some (.int .i64 x) := by
  unfold tabCells
  rw [List.getElem?_append_left (by rw [ints_length]; exact (List.getElem?_eq_some_iff.1 h).1)]
  exact ints_at h
end Go.Proofs.Ythelblkpfkngmaa
