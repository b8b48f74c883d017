/- The law of the constants: its walk. -/
import Derived.Test.YtgongeblinomcaaEqInt
namespace Go.Proofs.Ytgongeblinomcaa
open Go.RowKit
set_option linter.unusedVariables false
set_option linter.unusedSimpArgs false

def lims : List Int := [24, 20000, 90000, 16, 256, 9999, 255, 255, 2047, 40000, 400, 64, 3, 100, 8, 20, 60, 300]
def limCells : Array Value := (ints .i64 lims).toArray
theorem limCells_eq : #[Value.int IntKind.i64 24, Value.int IntKind.i64 20000, Value.int IntKind.i64 90000, Value.int IntKind.i64 16, Value.int IntKind.i64 256, Value.int IntKind.i64 9999, Value.int IntKind.i64 255, Value.int IntKind.i64 255, Value.int IntKind.i64 2047, Value.int IntKind.i64 40000, Value.int IntKind.i64 400, Value.int IntKind.i64 64, Value.int IntKind.i64 3, Value.int IntKind.i64 100, Value.int IntKind.i64 8, Value.int IntKind.i64 20, Value.int IntKind.i64 60, Value.int IntKind.i64 300] = limCells := rfl
def errCells : Array Value := #[Value.int IntKind.i64 0, Value.int IntKind.i64 1, Value.int IntKind.i64 2, Value.int IntKind.i64 3, Value.int IntKind.i64 4, Value.int IntKind.i64 5, Value.int IntKind.i64 6]
theorem errCells_eq : #[Value.int IntKind.i64 0, Value.int IntKind.i64 1, Value.int IntKind.i64 2, Value.int IntKind.i64 3, Value.int IntKind.i64 4, Value.int IntKind.i64 5, Value.int IntKind.i64 6] = errCells := rfl
theorem err_at (w : World) (t : TypeId) (k : Nat) (hk : k < 7) : (w.alloc (Obj.cells errCells t)).cell? ⟨w.heap.size, k, none⟩ = some (.int .i64 k) := by
  rw [World.cell?_alloc_at _ _ _ _ rfl]
  rcases k with _ | _ | _ | _ | _ | _ | _ | k <;> first | rfl | omega
theorem names_eq (w : World) (o : Obj) : Calls Try.prog 11 #[.slice (some ⟨w.heap.size + 1, 0, none⟩) 18 18, .slice (some ⟨w.heap.size + 2, 0, none⟩) 18 18]
    (((w.alloc o).alloc (.cells limCells 3)).alloc (.cells limCells 3)) fun e w' => e = .returned (.bool true) ∧ (((w.alloc o).alloc (.cells limCells 3)).alloc (.cells limCells 3)) = w' := by
  have s1 := ((Seen.new (w.alloc o) (ints .i64 lims) 3 (w.heap.size + 2) (by simp)).alloc (by simp) (.cells limCells 3)).up (B' := w.heap.size + 3) (by omega)
  have s2 := Seen.new ((w.alloc o).alloc (.cells limCells 3)) (ints .i64 lims) 3 (w.heap.size + 3) (by simp)
  have e1 : (w.alloc o).heap.size = w.heap.size + 1 := by simp
  have e2 : ((w.alloc o).alloc (.cells limCells 3)).heap.size = w.heap.size + 2 := by simp
  rw [e1] at s1
  rw [e2] at s2
  have hc := eqInt _ _ 18 18 (w.heap.size + 3) lims lims _ s1 s2 (by decide) (by decide)
  rw [decide_eq_true rfl] at hc
  exact hc

set_option maxHeartbeats 1000000 in
set_option maxRecDepth 100000 in
theorem names_walk (w : World) : Calls Try.prog 3 #[] w fun e w' => e = .returned (.bool true) ∧ Below w.heap.size w w' := by
  go_enter Try.func3, Try.ntmps3
  go_wp2_with fail
  rw [errCells_eq]
  go_loop [1, 2, 5] (fun _ _ i => ∃ k : Nat, k ≤ 7 ∧ i = .int .i64 k) (fun _ _ i => 7 - (intOf i).toNat)
  case atStart => exact ⟨0, by omega, rfl⟩
  case round =>
    obtain ⟨k, hk, rfl⟩ := hrel
    by_cases hlt : k < 7
    · have h1 := err_at w 22 k hlt
      have hb : ((k : Int) != (k : Int)) = false := by simp
      go_wp2
      go_round
      case rel => exact ⟨k + 1, by omega, by go_num⟩
      case measure => simp [intOf]; omega
    · go_wp2_with fail
      rw [limCells_eq]
      refine (names_eq w _).mono ?_
      rintro e w' ⟨rfl, rfl⟩
      go_wp2
      go_ret
      exact ⟨rfl, below3 _ _ _ _⟩
end Go.Proofs.Ytgongeblinomcaa
