/- The closed facts on tables that the laws ask first. -/
import Derived.Test.YtjphfbapekdjmaaTabWords
import Derived.Test.YtjphfbapekdjmaaEqWord
import Derived.Test.YtjphfbapekdjmaaRefBad
namespace Go.Proofs.Ytjphfbapekdjmaa
open Go.RowKit
set_option linter.unusedVariables false
set_option linter.unusedSimpArgs false
set_option maxRecDepth 100000

def cs1 : List Int := [1, 1, 0, 0, 0, 0, 0, 0, 0, 0, 0, 0, 0, 0, 0, 0]
def cs2 : List Int := [2, 0, 0, 0, 0, 0, 0, 0, 0, 0, 0, 0, 0, 0, 0, 0]
theorem check1 : checkErr cs1 [7, 4] = 0 := by decide
theorem check2 : checkErr cs2 [0, 1] = 4 := by decide
theorem words1 : outWords cs1 [7, 4] = [(7, 1, 0), (4, 2, 2)] := by decide
theorem cs1_b : ∀ x ∈ cs1, -9223372036854775808 ≤ x ∧ x ≤ 9223372036854775807 := by decide
theorem cs2_b : ∀ x ∈ cs2, -9223372036854775808 ≤ x ∧ x ≤ 9223372036854775807 := by decide

set_option maxRecDepth 100000 in
set_option maxHeartbeats 1000000 in
theorem tabled_any (w : World) : Calls Try.prog 16 #[] w fun e w' => e = .returned (.bool true) ∧ Below w.heap.size w w' := by
  go_enter Try.func16, Try.ntmps16
  go_wp2_with fail
  refine (words_any cs1 [7, 4] (some ⟨w.heap.size, 0, none⟩) 2 (w.heap.size + 1) _ rfl (by decide) cs1_b (Seen.new w (ints .i64 [7, 4]) _ _ (Nat.lt_succ_self _)) (by simp)).mono ?_
  rintro e w1 ⟨v, rfl, HO, hb1⟩
  rw [words1] at HO
  rw [check1]
  have hbel1 : Below w.heap.size w w1 := (below1 _ _).trans (hb1.mono (by simp))
  obtain ⟨A5, c5, e5, hs5, _, _⟩ := HO.seen (List.mem_cons_self ..)
  simp only [wordRow] at e5 hs5
  subst e5
  have hE := eqWord A5 (some ⟨w1.heap.size, 0, none⟩) c5 2 (w1.heap.size + 1) [(7, 1, 0), (4, 2, 2)] [(7, 1, 0), (4, 2, 2)] (w1.alloc (.cells (tripleCells [(7, 1, 0), (4, 2, 2)]).toArray 72)) ((hs5.alloc (Nat.le_refl _) _).up (by omega)) (Seen.new w1 _ _ _ (Nat.lt_succ_self _)) (by simp) (by decide) (by decide)
  go_wp2_with fail
  refine hE.mono ?_
  rintro e w2 ⟨rfl, hb2⟩
  have hbel2 : Below w.heap.size w w2 := hbel1.trans (((below1 _ _).trans (hb2.mono (by simp))).mono hbel1.size)
  clear hE HO hs5
  go_wp2_with fail
  refine (check_any cs2 [0, 1] (some ⟨w2.heap.size, 0, none⟩) 2 (w2.heap.size + 1) _ rfl (by decide) cs2_b (Seen.new w2 (ints .i64 [0, 1]) _ _ (Nat.lt_succ_self _)) (by simp)).mono ?_
  rintro e w3 ⟨rfl, hb3⟩
  rw [check2]
  have hbel3 : Below w.heap.size w w3 := hbel2.trans (((below1 _ _).trans (hb3.mono (by simp))).mono hbel2.size)
  go_wp2
  go_ret
  exact ⟨rfl, hbel3⟩
end Go.Proofs.Ytjphfbapekdjmaa
