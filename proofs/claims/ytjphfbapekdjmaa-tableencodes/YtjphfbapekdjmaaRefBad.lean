/- The table that may not be. -/
import Derived.Test.YtjphfbapekdjmaaTabWords
namespace Go.Proofs.Ytjphfbapekdjmaa
open Go.RowKit
set_option linter.unusedVariables false
set_option linter.unusedSimpArgs false
set_option maxRecDepth 100000

def cs0 : List Int := [0, 0, 0, 0, 0, 0, 0, 0, 0, 0, 0, 0, 0, 0, 0, 0]
theorem check0 : checkErr cs0 [1] = 4 := by decide
theorem cs0_b : ∀ x ∈ cs0, -9223372036854775808 ≤ x ∧ x ≤ 9223372036854775807 := by decide
/-- The table that may not be. -/
theorem bad_any (w : World) : Calls Try.prog 12 #[] w fun e w' => ∃ A, e = .returned (tabV cs0 A 1 1) ∧ Seen w' w'.heap.size A (ints .i64 [1]) ∧ Below w.heap.size w w' := by
  go_enter Try.func12, Try.ntmps12
  go_wp2
  have hg : ((w.alloc (Obj.cells (tabCells cs0 (some ⟨w.heap.size + 1, 0, none⟩) 1 1).toArray 25)).alloc (Obj.cells #[Value.int IntKind.i64 1] 3)).heap[w.heap.size]? = some (.cells (tabCells cs0 (some ⟨w.heap.size + 1, 0, none⟩) 1 1).toArray 25 (0, 0)) := by
    rw [Below.heap_alloc _ _ _ (by simp)]; exact heap_alloc_new w _
  have hsn : Seen ((w.alloc (Obj.cells (tabCells cs0 (some ⟨w.heap.size + 1, 0, none⟩) 1 1).toArray 25)).alloc (Obj.cells #[Value.int IntKind.i64 1] 3)) ((w.alloc (Obj.cells (tabCells cs0 (some ⟨w.heap.size + 1, 0, none⟩) 1 1).toArray 25)).alloc (Obj.cells #[Value.int IntKind.i64 1] 3)).heap.size (some ⟨w.heap.size + 1, 0, none⟩) (ints .i64 [1]) := by
    have h := Seen.new (w.alloc (Obj.cells (tabCells cs0 (some ⟨w.heap.size + 1, 0, none⟩) 1 1).toArray 25)) (ints .i64 [1]) 3 (w.heap.size + 2) (by simp)
    rw [World.size_alloc'] at h
    exact h.up (by simp)
  exact bodyPost_ret (v := tabV cs0 (some ⟨w.heap.size + 1, 0, none⟩) 1 1) (results_cell_row rfl _ _ w.heap.size 25 (tabCells cs0 (some ⟨w.heap.size + 1, 0, none⟩) 1 1).toArray (0, 0) _ rfl hg Try.underlying25 rfl info_tab) rfl ⟨_, rfl, hsn, below2 _ _ _⟩
end Go.Proofs.Ytjphfbapekdjmaa
