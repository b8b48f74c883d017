/- Half a transform in numbers: rows turned over the diagonal, and both halves together. -/
import Derived.Test.YtgnpjejjnhdejaaDoorWaveL
namespace Go.Proofs.YtgnpjejjnhdejaaDoor
set_option linter.unusedVariables false
set_option linter.unusedSimpArgs false

/-- What is added at place p, the j-th of eight. -/
def adT (F : Nat → Nat → Int) (cs : List Int) (p j : Nat) : Int := cs.getD (8 * (p % 8) + j) 0 * F (p / 8) j
/-- The sums behind n steps. -/
def adK (F : Nat → Nat → Int) (cs : List Int) (n : Nat) : List Int := (List.range 64).map fun p => sumN (min 8 (n - 8 * p)) (adT F cs p)
def adL (F : Nat → Nat → Int) (cs : List Int) : List Int := (List.range 64).map fun p => sumN 8 (adT F cs p)
theorem adK_length (F : Nat → Nat → Int) (cs : List Int) (n : Nat) : (adK F cs n).length = 64 := by simp [adK]
theorem adL_length (F : Nat → Nat → Int) (cs : List Int) : (adL F cs).length = 64 := by simp [adL]
theorem adK_zero (F : Nat → Nat → Int) (cs : List Int) : adK F cs 0 = zero64 := by
  apply List.ext_getElem?
  intro i
  by_cases hi : i < 64
  · rw [adK, List.getElem?_map, List.getElem?_range hi, zero64, List.getElem?_replicate, if_pos hi]; simp [sumN_zero]
  · rw [List.getElem?_eq_none (by rw [adK_length]; omega), List.getElem?_eq_none (by rw [zero64_length]; omega)]
theorem adK_all (F : Nat → Nat → Int) (cs : List Int) : adK F cs 512 = adL F cs := by
  unfold adK adL
  refine List.map_congr_left fun p hp => ?_
  have := List.mem_range.1 hp
  rw [show min 8 (512 - 8 * p) = 8 by omega]
theorem adK_at (F : Nat → Nat → Int) (cs : List Int) {p i : Nat} (hp : p < 64) (hi : i ≤ 8) : (adK F cs (8 * p + i))[p]? = some (sumN i (adT F cs p)) := by
  rw [adK, List.getElem?_map, List.getElem?_range hp]
  simp only [Option.map_some]
  rw [show min 8 (8 * p + i - 8 * p) = i by omega]
theorem adK_next (F : Nat → Nat → Int) (cs : List Int) {p i : Nat} (hp : p < 64) (hi : i < 8) : (adK F cs (8 * p + i)).set p (sumN i (adT F cs p) + adT F cs p i) = adK F cs (8 * p + (i + 1)) := by
  apply List.ext_getElem?
  intro k
  by_cases hk : k < 64
  · by_cases e : p = k
    · subst e
      rw [List.getElem?_set_self (by rw [adK_length]; omega), adK_at F cs hp (show i + 1 ≤ 8 by omega), sumN_succ]
    · rw [List.getElem?_set_ne e]
      unfold adK
      rw [List.getElem?_map, List.getElem?_map, List.getElem?_range hk]
      simp only [Option.map_some]
      rw [show min 8 (8 * p + i - 8 * k) = min 8 (8 * p + (i + 1) - 8 * k) by omega]
  · rw [List.getElem?_eq_none (by rw [List.length_set, adK_length]; omega), List.getElem?_eq_none (by rw [adK_length]; omega)]
theorem adL_at (F : Nat → Nat → Int) (cs : List Int) {p : Nat} (hp : p < 64) : (adL F cs)[p]? = some (sumN 8 (adT F cs p)) := by
  rw [adL, List.getElem?_map, List.getElem?_range hp]; rfl
theorem adL_getD (F : Nat → Nat → Int) (cs : List Int) {p : Nat} (hp : p < 64) : (adL F cs).getD p 0 = sumN 8 (adT F cs p) := by
  rw [List.getD_eq_getElem?_getD, adL_at F cs hp]; rfl
theorem adT_small {F : Nat → Nat → Int} {cs : List Int} {M : Int} (hF : ∀ a b, -4096 ≤ F a b ∧ F a b ≤ 4096) (hM : 0 ≤ M) (hc : ∀ k, absZ (cs.getD k 0) ≤ M) (p j : Nat) : -(M * 4096) ≤ adT F cs p j ∧ adT F cs p j ≤ M * 4096 := by
  have h : absZ (adT F cs p j) ≤ M * 4096 := by
    unfold adT
    rw [absZ_mul]
    exact mul_le_mulZ (hc _) (absZ_le.2 ⟨(hF _ _).2, (hF _ _).1⟩) (absZ_nonneg _) (by omega)
  have := absZ_le.1 h
  omega
theorem adS_small {F : Nat → Nat → Int} {cs : List Int} {M : Int} (hF : ∀ a b, -4096 ≤ F a b ∧ F a b ≤ 4096) (hM : 0 ≤ M) (hc : ∀ k, absZ (cs.getD k 0) ≤ M) (p : Nat) : ∀ n : Nat, -(n * (M * 4096)) ≤ sumN n (adT F cs p) ∧ sumN n (adT F cs p) ≤ n * (M * 4096)
  | 0 => by simp [sumN_zero]
  | n + 1 => by
    have h1 := adS_small hF hM hc p n
    have h2 := adT_small hF hM hc p n
    have e : ((n + 1 : Nat) : Int) * (M * 4096) = (n : Int) * (M * 4096) + M * 4096 := by
      rw [show ((n + 1 : Nat) : Int) = (n : Int) + 1 by omega, Int.add_mul, Int.one_mul]
    rw [sumN_succ, e]
    generalize (n : Int) * (M * 4096) = q at *
    omega
/-- Behind half the work the numbers are still small. -/
theorem adL_small {F : Nat → Nat → Int} {cs : List Int} (hF : ∀ a b, -4096 ≤ F a b ∧ F a b ≤ 4096) (hc : ∀ k, absZ (cs.getD k 0) ≤ 40000) (k : Nat) : absZ ((adL F cs).getD k 0) ≤ 1310720000 := by
  by_cases hk : k < 64
  · rw [adL_getD F cs hk, absZ_le]
    have := adS_small hF (by omega) hc k 8
    omega
  · rw [List.getD_eq_getElem?_getD, List.getElem?_eq_none (by rw [adL_length]; omega)]
    show absZ 0 ≤ _
    unfold absZ; omega
theorem adL_adL (F : Nat → Nat → Int) (cs : List Int) {i : Nat} (hi : i < 64) : (adL F (adL F cs)).getD i 0 = sumN 8 (fun y => sumN 8 (fun x => cs.getD (8 * y + x) 0 * F (i % 8) x) * F (i / 8) y) := by
  rw [adL_getD F _ hi]
  refine sumN_congr fun y hy => ?_
  unfold adT
  rw [adL_getD F cs (show 8 * (i % 8) + y < 64 by omega)]
  congr 1
  refine sumN_congr fun x hx => ?_
  unfold adT
  rw [show (8 * (i % 8) + y) % 8 = y by omega, show (8 * (i % 8) + y) / 8 = i % 8 by omega]
theorem adL_to (cs : List Int) {i : Nat} (hi : i < 64) : (adL cW (adL cW cs)).getD i 0 = toN cs i := by
  rw [adL_adL cW cs hi]
  unfold toN toS fw at2
  refine sumN_congr fun y hy => ?_
  rw [Int.mul_comm (cW (i / 8) y)]
  congr 1
  refine sumN_congr fun x hx => ?_
  rw [Int.mul_comm]
theorem adL_fr (cs : List Int) {i : Nat} (hi : i < 64) : (adL (fun a b => cW b a) (adL (fun a b => cW b a) cs)).getD i 0 = frN cs i := by
  rw [adL_adL (fun a b => cW b a) cs hi]
  unfold frN frS bw at2
  refine sumN_congr fun y hy => ?_
  rw [Int.mul_comm (cW y (i / 8))]
  congr 1
  refine sumN_congr fun x hx => ?_
  rw [Int.mul_comm]
/-- Rounded as far as place k. -/
def rdK (ss : List Int) (k : Nat) : List Int := (List.range 64).map fun i => if i < k then rnd (ss.getD i 0) 67108864 else ss.getD i 0
theorem rdK_length (ss : List Int) (k : Nat) : (rdK ss k).length = 64 := by simp [rdK]
theorem rdK_zero {ss : List Int} (h : ss.length = 64) : rdK ss 0 = ss := by
  apply List.ext_getElem?
  intro i
  by_cases hi : i < 64
  · obtain ⟨x, hx⟩ : ∃ x, ss[i]? = some x := ⟨ss[i], List.getElem?_eq_getElem (by omega)⟩
    rw [rdK, List.getElem?_map, List.getElem?_range hi]; simp [List.getD_eq_getElem?_getD, hx]
  · rw [List.getElem?_eq_none (by rw [rdK_length]; omega), List.getElem?_eq_none (by omega)]
theorem rdK_next {ss : List Int} {k : Nat} (hk : k < 64) : rdK ss (k + 1) = (rdK ss k).set k (rnd (ss.getD k 0) 67108864) := by
  apply List.ext_getElem?
  intro i
  by_cases hi : i < 64
  · by_cases e : k = i
    · subst e
      rw [List.getElem?_set_self (by rw [rdK_length]; omega), rdK, List.getElem?_map, List.getElem?_range hi]
      simp
    · rw [List.getElem?_set_ne e]
      unfold rdK
      rw [List.getElem?_map, List.getElem?_map, List.getElem?_range hi]
      simp only [Option.map_some]
      by_cases h : i < k
      · rw [if_pos h, if_pos (by omega)]
      · rw [if_neg h, if_neg (by omega)]
  · rw [List.getElem?_eq_none (by rw [rdK_length]; omega), List.getElem?_eq_none (by rw [List.length_set, rdK_length]; omega)]
theorem rdK_to (cs : List Int) : rdK (adL cW (adL cW cs)) 64 = wTo cs := by
  unfold rdK wTo
  refine List.map_congr_left fun i hi => ?_
  have hi := List.mem_range.1 hi
  rw [if_pos hi, adL_to cs hi]
theorem rdK_fr (cs : List Int) : rdK (adL (fun a b => cW b a) (adL (fun a b => cW b a) cs)) 64 = wFr cs := by
  unfold rdK wFr
  refine List.map_congr_left fun i hi => ?_
  have hi := List.mem_range.1 hi
  rw [if_pos hi, adL_fr cs hi]
end Go.Proofs.YtgnpjejjnhdejaaDoor
