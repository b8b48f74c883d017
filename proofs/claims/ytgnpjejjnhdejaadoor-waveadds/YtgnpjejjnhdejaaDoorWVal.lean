/- The first quarter of a wave as the program lays it; wave.value, wave.From's own function and wave.Basis: their contracts. -/
import Derived.Test.YtgnpjejjnhdejaaDoorWaveL
import Derived.Test.YtgnpjejjnhdejaaDoorQBase
namespace Go.Proofs.YtgnpjejjnhdejaaDoor
open Go.RowKit
set_option linter.unusedVariables false
set_option linter.unusedSimpArgs false

def quart : List Int := [4096, 4017, 3784, 3406, 2896, 2276, 1567, 799, 0]
/-- The package's variable holds the first quarter of a wave. -/
def Quart (w : World) : Prop := ∀ (k : Nat) (x : Int), quart[k]? = some x → w.cell? ⟨0, k, none⟩ = some (.int .i64 x)
theorem Quart.pos {w : World} (h : Quart w) : 0 < w.heap.size := World.block_lt_of_cell? w ⟨0, 0, none⟩ (h 0 4096 rfl)
theorem Quart.below {B : Nat} {w w' : World} (h : Quart w) (hb : Below B w w') (hB : 0 < B) : Quart w' := fun k x hk => by
  rw [hb.cell (p := ⟨0, k, none⟩) hB]; exact h k x hk
theorem Quart.after {w w' : World} (h : Quart w) (hb : Below w.heap.size w w') : Quart w' := h.below hb h.pos
set_option maxHeartbeats 4000000 in
theorem value_any (u x : Nat) (w : World) (hu : u < 8) (hx : x < 8) (Q : Quart w) :
    Calls Tryd.prog 25 #[.int .i64 (u : Int), .int .i64 (x : Int)] w fun e w' => e = .returned (.int .i64 (cW u x)) ∧ w' = w := by
  have q0 := Q 0 _ rfl
  have q1 := Q 1 _ rfl
  have q2 := Q 2 _ rfl
  have q3 := Q 3 _ rfl
  have q4 := Q 4 _ rfl
  have q5 := Q 5 _ rfl
  have q6 := Q 6 _ rfl
  have q7 := Q 7 _ rfl
  have q8 := Q 8 _ rfl
  clear Q
  have hu' : u = 0 ∨ u = 1 ∨ u = 2 ∨ u = 3 ∨ u = 4 ∨ u = 5 ∨ u = 6 ∨ u = 7 := by omega
  have hx' : x = 0 ∨ x = 1 ∨ x = 2 ∨ x = 3 ∨ x = 4 ∨ x = 5 ∨ x = 6 ∨ x = 7 := by omega
  clear hu hx
  rcases hu' with rfl | rfl | rfl | rfl | rfl | rfl | rfl | rfl <;> rcases hx' with rfl | rfl | rfl | rfl | rfl | rfl | rfl | rfl <;>
    (go_enter Tryd.func25, Tryd.ntmps25
     go_wp2
     go_ret
     exact ⟨rfl, rfl⟩)
theorem turned_any (u x : Nat) (w : World) (hu : u < 8) (hx : x < 8) (Q : Quart w) :
    Calls Tryd.prog 30 #[.int .i64 (u : Int), .int .i64 (x : Int)] w fun e w' => e = .returned (.int .i64 (cW x u)) ∧ w' = w := by
  have H := veil (value_any x u w hx hu Q)
  generalize cW x u = R at *
  go_enter Tryd.func30, Tryd.ntmps30
  go_wp2_with fail
  refine H.out.mono ?_
  rintro e w1 ⟨rfl, rfl⟩
  go_wp2
  go_ret
  exact ⟨rfl, rfl⟩
theorem basis_in (u x : Nat) (w : World) (hu : u < 8) (hx : x < 8) (Q : Quart w) :
    Calls Tryd.prog 15 #[.int .i64 (u : Int), .int .i64 (x : Int)] w fun e w' => e = .returned (.tuple #[.int .i64 (cW u x), .int .i64 0]) ∧ w' = w := by
  have H := veil (value_any u x w hu hx Q)
  have h1 : (0 : Int) ≤ u := by omega
  have h2 : (u : Int) < 8 := by omega
  have h3 : (0 : Int) ≤ x := by omega
  have h4 : (x : Int) < 8 := by omega
  generalize cW u x = R at *
  go_enter Tryd.func15, Tryd.ntmps15
  go_wp2_with fail
  refine H.out.mono ?_
  rintro e w1 ⟨rfl, rfl⟩
  go_wp2
  go_ret2
  exact ⟨rfl, rfl⟩
theorem basis_out (u x : Int) (w : World) (h : u < 0 ∨ 8 ≤ u ∨ x < 0 ∨ 8 ≤ x) :
    Calls Tryd.prog 15 #[.int .i64 u, .int .i64 x] w fun e w' => e = .returned (.tuple #[.int .i64 0, .int .i64 1]) ∧ w' = w := by
  go_enter Tryd.func15, Tryd.ntmps15
  rcases h with h | h | h | h
  · go_wp2
    go_ret2
    exact ⟨rfl, rfl⟩
  · have h0 : ¬ u < 0 := by omega
    go_wp2
    go_ret2
    exact ⟨rfl, rfl⟩
  · by_cases h0 : u < 0
    · go_wp2
      go_ret2
      exact ⟨rfl, rfl⟩
    · by_cases h1 : 8 ≤ u
      · go_wp2
        go_ret2
        exact ⟨rfl, rfl⟩
      · go_wp2
        go_ret2
        exact ⟨rfl, rfl⟩
  · by_cases h0 : u < 0
    · go_wp2
      go_ret2
      exact ⟨rfl, rfl⟩
    · by_cases h1 : 8 ≤ u
      · go_wp2
        go_ret2
        exact ⟨rfl, rfl⟩
      · by_cases h2 : x < 0
        · go_wp2
          go_ret2
          exact ⟨rfl, rfl⟩
        · go_wp2
          go_ret2
          exact ⟨rfl, rfl⟩
end Go.Proofs.YtgnpjejjnhdejaaDoor
