/- The law on a number and its double, walked. -/
import Derived.Test.YtgnggdiiekhffaaSizeKeep
namespace Go.Proofs.Ytgnggdiiekhffaa
open Go.RowKit
set_option linter.unusedVariables false
set_option linter.unusedSimpArgs false

set_option maxHeartbeats 2000000 in
theorem sizeDoubles_walk (n : Int) (w : World) (hn : -9223372036854775808 ≤ n ∧ n ≤ 9223372036854775807) :
    Calls Try.prog 7 #[.int .i64 n] w fun e w' => e = .returned (.bool true) ∧ Below w.heap.size w w' := by
  have H0 := veil (sized_any w)
  have HR1 := veil (fun W => rest_any n 4095 W (by omega) (by omega) hn)
  have hA1 := Int.emod_nonneg n (show (4095 : Int) ≠ 0 by omega)
  have hA2 := Int.emod_lt_of_pos n (show (0 : Int) < 4095 by omega)
  generalize n % 4095 = A at *
  have H1 := veil (fun W => of_ok (A - 2047) W (by omega) (by omega))
  have H2 := veil (fun W => of_ok (2 * (A - 2047)) W (by omega) (by omega))
  by_cases h0 : A - 2047 = 0
  · obtain rfl : A = 2047 := by omega
    rw [show szZ (2047 - 2047) = 0 by decide] at H1
    rw [show szZ (2 * (2047 - 2047)) = 0 by decide] at H2
    go_enter Try.func7, Try.ntmps7
    go_wp2_with fail
    refine H0.out.mono ?_
    rintro e w1 ⟨rfl, q, rfl⟩
    go_wp2_with fail
    refine (HR1.out _).mono ?_
    rintro e w2 ⟨rfl, rfl⟩
    go_wp2_with fail
    refine (H1.out _).mono ?_
    rintro e w2 ⟨rfl, rfl⟩
    go_wp2_with fail
    refine (H2.out _).mono ?_
    rintro e w2 ⟨rfl, rfl⟩
    go_wp2
    go_ret
    exact ⟨ret_bool (by simp), (Below.refl _ _).drewN q⟩
  · have hs := sz_12 (n := A - 2047) (by omega) (by omega)
    rw [szZ_double h0] at H2
    generalize szZ (A - 2047) = s at *
    go_enter Try.func7, Try.ntmps7
    go_wp2_with fail
    refine H0.out.mono ?_
    rintro e w1 ⟨rfl, q, rfl⟩
    go_wp2_with fail
    refine (HR1.out _).mono ?_
    rintro e w2 ⟨rfl, rfl⟩
    go_wp2_with fail
    refine (H1.out _).mono ?_
    rintro e w2 ⟨rfl, rfl⟩
    go_wp2_with fail
    refine (H2.out _).mono ?_
    rintro e w2 ⟨rfl, rfl⟩
    go_wp2
    all_goals
      go_ret
      exact ⟨ret_bool (by simp [h0]), (Below.refl _ _).drewN q⟩
end Go.Proofs.Ytgnggdiiekhffaa
