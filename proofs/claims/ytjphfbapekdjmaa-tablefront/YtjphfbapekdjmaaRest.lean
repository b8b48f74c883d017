/- The reference's Rest: what is left of a division, never below zero. -/
import Derived.Test.YtjphfbapekdjmaaMem
import Derived.Test.YtjphfbapekdjmaaRows
namespace Go.Proofs.Ytjphfbapekdjmaa
open Go.RowKit
set_option linter.unusedVariables false
set_option linter.unusedSimpArgs false
set_option maxRecDepth 100000

theorem tmod_cases (n m : Int) (h : 0 < m) : n.tmod m < m ∧ -m < n.tmod m ∧ n % m = (n.tmod m) % m := by
  refine ⟨Int.tmod_lt_of_pos n h, ?_, ?_⟩
  · have := Int.lt_tmod_of_pos n h; omega
  · conv => lhs; rw [← Int.tmod_add_mul_tdiv n m]
    rw [Int.add_mul_emod_self_left]
theorem rest_neg (n m : Int) (h : 0 < m) (hm : m ≤ 9223372036854775807) (hn : n.tmod m < 0) : wrap64 (n.tmod m + m) = n % m := by
  obtain ⟨h1, h2, h3⟩ := tmod_cases n m h
  rw [h3]
  generalize n.tmod m = r at *
  have e : r % m = r + m := by
    rw [← Int.add_emod_right, Int.emod_eq_of_lt (by omega) (by omega)]
  rw [e]; unfold wrap64; omega
theorem rest_pos (n m : Int) (h : 0 < m) (hn : 0 ≤ n.tmod m) : n.tmod m = n % m := by
  obtain ⟨h1, h2, h3⟩ := tmod_cases n m h
  rw [h3, Int.emod_eq_of_lt hn h1]
theorem rest_any (n m : Int) (w : World) (h1 : 0 < m) (h2 : m ≤ 9223372036854775807) (hn : -9223372036854775808 ≤ n ∧ n ≤ 9223372036854775807) :
    Calls Try.prog 17 #[.int .i64 n, .int .i64 m] w fun e w' => e = .returned (.int .i64 (n % m)) ∧ w = w' := by
  go_enter Try.func17, Try.ntmps17
  go_wp2
  · go_ret
    exact ⟨congrArg (fun x => Ending.returned (.int .i64 x)) (rest_neg n m h1 h2 ‹_›), rfl⟩
  · go_ret
    exact ⟨congrArg (fun x => Ending.returned (.int .i64 x)) (rest_pos n m h1 ‹_›), rfl⟩
end Go.Proofs.Ytjphfbapekdjmaa
