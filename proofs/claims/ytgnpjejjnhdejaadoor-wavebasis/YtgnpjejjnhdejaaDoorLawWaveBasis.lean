/- The law WaveBasis: its walk. -/
import Derived.Test.YtgnpjejjnhdejaaDoorWVal
import Derived.Test.YtgnpjejjnhdejaaDoorRefBasis
namespace Go.Proofs.YtgnpjejjnhdejaaDoor
open Go.RowKit
set_option linter.unusedVariables false
set_option linter.unusedSimpArgs false

set_option maxHeartbeats 1000000 in
theorem waveBasis_walk (a b : Int) (w : World) (Q : Quart w) (ha : -9223372036854775808 ≤ a ∧ a ≤ 9223372036854775807) (hb : -9223372036854775808 ≤ b ∧ b ≤ 9223372036854775807) :
    Calls Tryd.prog 3 #[.int .i64 a, .int .i64 b] w fun e w' => e = .returned (.bool true) ∧ Below w.heap.size w w' := by
  have HB := veil (basis_out 8 0 w (by omega))
  by_cases h : a < 0 ∨ 8 ≤ a ∨ b < 0 ∨ 8 ≤ b
  · have HA := veil (basis_out a b w h)
    have hr := Below.refl w.heap.size w
    clear Q ha hb
    go_enter Tryd.func3, Tryd.ntmps3
    go_wp2_with fail
    refine HA.out.mono ?_
    rintro e w1 ⟨rfl, rfl⟩
    go_wp2_with fail
    refine HB.out.mono ?_
    rintro e w2 ⟨rfl, rfl⟩
    rcases h with h | h | h | h
    · go_wp2
      go_ret
      exact ⟨rfl, hr⟩
    · have h1 : ¬ a < 0 := by omega
      have h2 : 7 < a := by omega
      go_wp2
      go_ret
      exact ⟨rfl, hr⟩
    · by_cases h1 : a < 0
      · go_wp2
        go_ret
        exact ⟨rfl, hr⟩
      · by_cases h2 : 7 < a
        · go_wp2
          go_ret
          exact ⟨rfl, hr⟩
        · go_wp2
          go_ret
          exact ⟨rfl, hr⟩
    · have h4 : 7 < b := by omega
      by_cases h1 : a < 0
      · go_wp2
        go_ret
        exact ⟨rfl, hr⟩
      · by_cases h2 : 7 < a
        · go_wp2
          go_ret
          exact ⟨rfl, hr⟩
        · by_cases h3 : b < 0
          · go_wp2
            go_ret
            exact ⟨rfl, hr⟩
          · go_wp2
            go_ret
            exact ⟨rfl, hr⟩
  · obtain ⟨u, rfl⟩ := Int.eq_ofNat_of_zero_le (show 0 ≤ a by omega)
    obtain ⟨x, rfl⟩ := Int.eq_ofNat_of_zero_le (show 0 ≤ b by omega)
    have HA := veil (basis_in u x w (by omega) (by omega) Q)
    have HR := veil (refBasis_any u x w (by omega) (by omega))
    have h1 : ¬ (u : Int) < 0 := by omega
    have h2 : ¬ 7 < (u : Int) := by omega
    have h3 : ¬ (x : Int) < 0 := by omega
    have h4 : ¬ 7 < (x : Int) := by omega
    clear Q ha hb h
    generalize cW u x = R at *
    go_enter Tryd.func3, Tryd.ntmps3
    go_wp2_with fail
    refine HA.out.mono ?_
    rintro e w1 ⟨rfl, rfl⟩
    go_wp2_with fail
    refine HB.out.mono ?_
    rintro e w2 ⟨rfl, rfl⟩
    go_wp2_with fail
    refine HR.out.mono ?_
    rintro e w3 ⟨rfl, hb3⟩
    go_wp2
    go_ret
    exact ⟨rfl, hb3⟩
end Go.Proofs.YtgnpjejjnhdejaaDoor
