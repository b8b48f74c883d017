/- The laws' zigged: the order begins as the document says. -/
import Derived.Test.YtemckjkdlbipcaaZigOrder
namespace Go.Proofs.Ytemckjkdlbipcaa
open Go.RowKit
set_option linter.unusedVariables false
set_option linter.unusedSimpArgs false
set_option maxRecDepth 100000

theorem zz_form {w : World} {B g c : Nat} {rs : List Row} (h : Owns B (intRow 3 .i64 (.slice (some ⟨g, 0, none⟩) 64 c) zz :: rs) w) : Seen w w.heap.size (some ⟨g, 0, none⟩) (ints .i64 zz) ∧ 64 ≤ c ∧ c ≤ maxLen := by
  obtain ⟨A, c', e, hs, h1, h2⟩ := h.seen (List.mem_cons_self ..)
  simp only [intRow, Value.slice.injEq] at e hs h1
  obtain ⟨e1, e2, e3⟩ := e
  rw [e1, e3]
  exact ⟨hs, by rw [e2]; exact h1, h2⟩
end Go.Proofs.Ytemckjkdlbipcaa
