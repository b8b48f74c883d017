/- There and back again: each number is off by four at most. -/
import Derived.Test.YtgnpjejjnhdejaaDoorWaveSums
namespace Go.Proofs.YtgnpjejjnhdejaaDoor
set_option linter.unusedVariables false
set_option linter.unusedSimpArgs false

theorem eW_sum : ∀ x : Fin 8, sumN 8 (fun z => absZ (eW x.1 z)) ≤ 17168 := by decide +kernel
theorem gW_is (x z : Nat) : gW x z = eW x z + if x = z then 67108864 else 0 := by unfold eW; omega
section
variable {h : Nat → Int} {f g : Nat → Nat → Int}
theorem bw_of_fw (x : Nat) : bw (fun u => fw h u) x = sumN 8 (fun z => gW x z * h z) := by
  unfold bw fw gW
  have e1 : ∀ u, u < 8 → cW u x * sumN 8 (fun z => cW u z * h z) = sumN 8 (fun z => cW u x * cW u z * h z) := fun u _ => by
    rw [← sumN_mul]; exact sumN_congr fun z _ => (Int.mul_assoc _ _ _).symm
  have e2 : ∀ z, z < 8 → sumN 8 (fun u => cW u x * cW u z) * h z = sumN 8 (fun u => cW u x * cW u z * h z) := fun z _ => (sumN_mulR 8 _ _).symm
  rw [sumN_congr e1, sumN_congr e2, sumN_swap]
/-- One row there and back: a multiple, but for little. -/
theorem row_near {x : Nat} (hx : x < 8) {M : Int} (hM : ∀ z, z < 8 → absZ (h z) ≤ M) : absZ (sumN 8 (fun z => gW x z * h z) - 67108864 * h x) ≤ 17168 * M := by
  have hM0 : 0 ≤ M := Int.le_trans (absZ_nonneg _) (hM 0 (by omega))
  have e1 : sumN 8 (fun z => gW x z * h z) = sumN 8 (fun z => eW x z * h z) + sumN 8 (fun z => (if x = z then 67108864 else 0) * h z) := by
    rw [← sumN_add]; exact sumN_congr fun z _ => by rw [gW_is, Int.add_mul]
  have e2 : sumN 8 (fun z => (if x = z then (67108864 : Int) else 0) * h z) = 67108864 * h x := by
    rw [sumN_one hx (f := fun z => (if x = z then (67108864 : Int) else 0) * h z) fun z _ hne => by
      show (if x = z then (67108864 : Int) else 0) * h z = 0
      rw [if_neg (fun e => hne e.symm), Int.zero_mul]]
    show (if x = x then (67108864 : Int) else 0) * h x = _
    rw [if_pos rfl]
  rw [e1, e2, show ∀ a b : Int, a + b - b = a from fun a b => by omega]
  refine Int.le_trans (sumN_abs 8 _) ?_
  refine Int.le_trans (sumN_le (g := fun z => absZ (eW x z) * M) fun z hz => ?_) ?_
  · rw [absZ_mul]; exact Int.mul_le_mul_of_nonneg_left (hM z hz) (absZ_nonneg _)
  · rw [sumN_mulR]; exact Int.mul_le_mul_of_nonneg_right (eW_sum ⟨x, hx⟩) hM0
theorem bw_abs {x : Nat} (hx : x < 8) {M : Int} (hM : ∀ z, z < 8 → absZ (h z) ≤ M) : absZ (bw h x) ≤ 21641 * M := by
  have hM0 : 0 ≤ M := Int.le_trans (absZ_nonneg _) (hM 0 (by omega))
  unfold bw
  refine Int.le_trans (sumN_abs 8 _) ?_
  refine Int.le_trans (sumN_le (g := fun u => absZ (cW u x) * M) fun z hz => ?_) ?_
  · rw [absZ_mul]; exact Int.mul_le_mul_of_nonneg_left (hM z hz) (absZ_nonneg _)
  · rw [sumN_mulR]; exact Int.mul_le_mul_of_nonneg_right (cW_size ⟨x, hx⟩) hM0
theorem frS_abs {y x : Nat} (hy : y < 8) (hx : x < 8) {M : Int} (hM : ∀ v u, v < 8 → u < 8 → absZ (g v u) ≤ M) : absZ (frS g y x) ≤ 21641 * (21641 * M) :=
  bw_abs hy fun v hv => bw_abs hx fun u hu => hM v u hv hu
/-- There and back without rounding. -/
theorem back_near {y x : Nat} (hy : y < 8) (hx : x < 8) (hf : ∀ v u, v < 8 → u < 8 → absZ (f v u) ≤ 255) : absZ (frS (toS f) y x - 4503599627370496 * f y x) ≤ 587660000000000 := by
  have e0 : frS (toS f) y x = bw (fun v => fw (fun z => bw (fun u => fw (f z) u) x) v) y := by
    unfold frS toS
    refine bw_congr (fun v _ => ?_) y
    exact bw_fw (f := fun z u => fw (f z) u) x v
  have e1 : frS (toS f) y x = sumN 8 (fun z => gW y z * sumN 8 (fun t => gW x t * f z t)) := by
    rw [e0, bw_of_fw]
    exact sumN_congr fun z _ => by rw [bw_of_fw]
  have h1 : ∀ z, z < 8 → absZ (sumN 8 (fun t => gW x t * f z t) - 67108864 * f z x) ≤ 17168 * 255 := fun z hz => row_near hx fun t ht => hf z t hz ht
  have h2 : ∀ z, z < 8 → absZ (sumN 8 (fun t => gW x t * f z t)) ≤ 17117138160 := fun z hz => by
    have a1 := absZ_le.1 (h1 z hz)
    have a2 := absZ_le.1 (hf z x hz hx)
    rw [absZ_le]; omega
  have h3 := row_near (h := fun z => sumN 8 (fun t => gW x t * f z t)) hy h2
  have a1 := absZ_le.1 (h1 y hy)
  have a3 := absZ_le.1 h3
  rw [e1, absZ_le]
  generalize sumN 8 (fun z => gW y z * sumN 8 (fun t => gW x t * f z t)) = A at *
  generalize sumN 8 (fun t => gW x t * f y t) = B at *
  omega
/-- There and back, rounded twice. -/
theorem near_four {y x : Nat} (hy : y < 8) (hx : x < 8) (hf : ∀ v u, v < 8 → u < 8 → absZ (f v u) ≤ 255) :
    absZ (f y x - rnd (frS (fun v u => rnd (toS f v u) 67108864) y x) 67108864) ≤ 4 := by
  have key : ∀ n, absZ (67108864 * rnd n 67108864 - n) ≤ 33554432 := fun n => by
    obtain ⟨h1, h2⟩ := rnd_spec n 67108864 (by omega)
    rw [absZ_le]
    by_cases h : 0 ≤ n
    · have := h1 h; omega
    · have := h2 (by omega); omega
  have e1 : 67108864 * frS (fun v u => rnd (toS f v u) 67108864) y x = frS (toS f) y x + frS (fun v u => 67108864 * rnd (toS f v u) 67108864 - toS f v u) y x := by
    rw [← frS_mul, ← frS_add]
    exact frS_congr (fun v u _ _ => by omega) y x
  have a1 := absZ_le.1 (frS_abs (g := fun v u => 67108864 * rnd (toS f v u) 67108864 - toS f v u) hy hx fun v u _ _ => key _)
  have a2 := absZ_le.1 (back_near hy hx hf)
  have a3 := absZ_le.1 (key (frS (fun v u => rnd (toS f v u) 67108864) y x))
  rw [absZ_le]
  generalize frS (fun v u => 67108864 * rnd (toS f v u) 67108864 - toS f v u) y x = R at *
  generalize frS (toS f) y x = B at *
  generalize rnd (frS (fun v u => rnd (toS f v u) 67108864) y x) 67108864 = c at *
  generalize frS (fun v u => rnd (toS f v u) 67108864) y x = S at *
  generalize f y x = n at *
  omega
end
end Go.Proofs.YtgnpjejjnhdejaaDoor
