/- The law on sizes and bits against the reference, walked. -/
import Derived.Test.YtgnggdiiekhffaaRefSize
namespace Go.Proofs.Ytgnggdiiekhffaa
open Go.RowKit
set_option linter.unusedVariables false
set_option linter.unusedSimpArgs false

theorem sizeTells_walk (n : Int) (w : World) (hn : -9223372036854775808 ≤ n ∧ n ≤ 9223372036854775807) :
    Calls Try.prog 3 #[.int .i64 n] w fun e w' => e = .returned (.bool true) ∧ Below w.heap.size w w' := by
  have H1 := veil (fun W => bits_any n W)
  have H2 := veil (fun W => refBits_any n W)
  have H3 := veil (fun W => of_any n W)
  have H4 := veil (fun W => of_hi 4096 W (by omega))
  generalize oS n = s at *
  generalize oV n = v at *
  generalize eS n = d at *
  go_enter Try.func3, Try.ntmps3
  go_wp2_with fail
  refine (H1.out _).mono ?_
  rintro e w1 ⟨rfl, q, rfl⟩
  go_wp2_with fail
  refine (H2.out _).mono ?_
  rintro e w2 ⟨rfl, rfl⟩
  go_wp2_with fail
  refine (H3.out _).mono ?_
  rintro e w3 ⟨rfl, rfl⟩
  go_wp2_with fail
  refine (H4.out _).mono ?_
  rintro e w4 ⟨rfl, rfl⟩
  go_wp2
  go_ret
  exact ⟨ret_bool (by simp), (Below.refl _ _).drewN q⟩
end Go.Proofs.Ytgnggdiiekhffaa
