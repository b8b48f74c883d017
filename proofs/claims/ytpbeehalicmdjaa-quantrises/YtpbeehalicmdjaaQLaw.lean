/- Two blocks boxed; the zero block's check. -/
import Derived.Test.YtpbeehalicmdjaaQDown
namespace Go.Proofs.Ytpbeehalicmdjaa
open Go.RowKit
set_option linter.unusedVariables false
set_option linter.unusedSimpArgs false

theorem zero_bad : badB 1 255 zero64 = 1 := by decide +kernel
/-- Two blocks boxed. -/
def boxU (xs ys : List Value) (w : World) : World := (w.alloc (.cells xs.toArray 23)).alloc (.cells ys.toArray 23)
theorem boxU_is (xs ys : List Value) (w : World) : Below w.heap.size w (boxU xs ys w) ∧ Blk (boxU xs ys w) w.heap.size xs 23 ∧ Blk (boxU xs ys w) (w.heap.size + 1) ys 23 ∧ (boxU xs ys w).heap.size = w.heap.size + 2 := by
  have e1 := World.size_alloc w (.cells xs.toArray 23)
  have h0 := Blk.new w xs 23
  have h1 := Blk.new (w.alloc (.cells xs.toArray 23)) ys 23
  have b1 := below1 (w.alloc (.cells xs.toArray 23)) (.cells ys.toArray 23)
  refine ⟨below2 _ _ _, h0.below b1 (by omega), ?_, by simp [boxU]⟩
  rw [e1] at h1; exact h1
end Go.Proofs.Ytpbeehalicmdjaa
