/- The closed fact on Write that the laws ask first. -/
import Derived.Test.YtgongeblinomcaaBitsWrite
import Derived.Test.YtgongeblinomcaaEqByte
namespace Go.Proofs.Ytgongeblinomcaa
open Go.RowKit
set_option linter.unusedVariables false
set_option linter.unusedSimpArgs false

theorem written_one (out : List Int) (h : Written [(3, 2)] out) : out = [95] := by
  have he : writeErr [(3, 2)] = 0 := by decide
  refine h.same ⟨fun e => absurd he e, fun _ => ⟨by intro x hx; simp at hx; omega, 5, by omega, by decide⟩⟩

set_option maxHeartbeats 400000 in
theorem written_any (w : World) : Calls Try.prog 17 #[] w fun e w' => e = .returned (.bool true) ∧ Below w.heap.size w w' := by
  go_enter Try.func17, Try.ntmps17
  go_wp2_with fail
  have s1 : Seen (w.alloc (Obj.cells #[.int .i64 3, .int .i64 2] 32)) (w.heap.size + 1) (some ⟨w.heap.size, 0, none⟩) (pairCells [(3, 2)]) := Seen.new w (pairCells [(3, 2)]) _ _ (by omega)
  refine (write_any _ 1 _ [(3, 2)] _ s1 (by simp) (by decide)).mono ?_
  rintro e w1 ⟨v, out, rfl, hown, hW, hb⟩
  obtain rfl := written_one out hW
  obtain ⟨A, c, rfl, hs⟩ := own_form hown
  have he : writeErr [(3, 2)] = 0 := by decide
  rw [he]
  go_wp2_with fail
  refine (eqByte A _ c 1 (w1.heap.size + 1) [95] [95] _ ((hs.alloc (Nat.le_refl _) _).up (by omega)) (Seen.new w1 (ints .u8 [95]) _ _ (by omega)) (by decide) (by decide)).mono ?_
  rintro e w2 ⟨rfl, rfl⟩
  go_wp2
  go_ret
  exact ⟨rfl, ((below1 _ _).trans (hb.mono (by simp))).trans ((below1 _ _).mono (by have := hb.size; simp at this; omega))⟩
end Go.Proofs.Ytgongeblinomcaa
