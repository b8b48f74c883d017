/- The transform of a list of 64 numbers, and what the laws ask of it, place by place. -/
import Derived.Test.YtgnpjejjnhdejaaDoorWaveNearMath
namespace Go.Proofs.YtgnpjejjnhdejaaDoor
set_option linter.unusedVariables false
set_option linter.unusedSimpArgs false

/-- The number at a row and a column. -/
def at2 (bs : List Int) (y x : Nat) : Int := bs.getD (8 * y + x) 0
def toN (bs : List Int) (i : Nat) : Int := toS (at2 bs) (i / 8) (i % 8)
def frN (bs : List Int) (i : Nat) : Int := frS (at2 bs) (i / 8) (i % 8)
/-- What is added at place k for place i. -/
def toC (i k : Nat) : Int := cW (i % 8) (k % 8) * cW (i / 8) (k / 8)
def frC (i k : Nat) : Int := cW (k % 8) (i % 8) * cW (k / 8) (i / 8)
def wTo (bs : List Int) : List Int := (List.range 64).map fun i => rnd (toN bs i) 67108864
def wFr (bs : List Int) : List Int := (List.range 64).map fun i => rnd (frN bs i) 67108864
def oTo (bs : List Int) : List Int := if badB (-40000) 40000 bs = 0 then wTo bs else zero64
def oFr (bs : List Int) : List Int := if badB (-40000) 40000 bs = 0 then wFr bs else zero64
theorem wTo_length (bs : List Int) : (wTo bs).length = 64 := by simp [wTo]
theorem wFr_length (bs : List Int) : (wFr bs).length = 64 := by simp [wFr]
theorem oTo_length (bs : List Int) : (oTo bs).length = 64 := by unfold oTo; split; exact wTo_length _; exact zero64_length
theorem oFr_length (bs : List Int) : (oFr bs).length = 64 := by unfold oFr; split; exact wFr_length _; exact zero64_length
theorem wTo_at (bs : List Int) {i : Nat} (hi : i < 64) : (wTo bs)[i]? = some (rnd (toN bs i) 67108864) := by
  rw [wTo, List.getElem?_map, List.getElem?_range hi]; rfl
theorem wFr_at (bs : List Int) {i : Nat} (hi : i < 64) : (wFr bs)[i]? = some (rnd (frN bs i) 67108864) := by
  rw [wFr, List.getElem?_map, List.getElem?_range hi]; rfl
theorem oTo_ok {bs : List Int} (h : badB (-40000) 40000 bs = 0) : oTo bs = wTo bs := by rw [oTo, if_pos h]
theorem oFr_ok {bs : List Int} (h : badB (-40000) 40000 bs = 0) : oFr bs = wFr bs := by rw [oFr, if_pos h]
theorem sum_rows8 (F : Nat → Int) : sumN 64 F = sumN 8 (fun y => sumN 8 (fun x => F (8 * y + x))) := sumN_rows 8 8 F
/-- The whole sum in one row of 64. -/
theorem toN_sum (bs : List Int) (i : Nat) : toN bs i = sumN 64 (fun k => bs.getD k 0 * toC i k) := by
  rw [sum_rows8]
  unfold toN toS fw toC at2
  refine sumN_congr fun y hy => ?_
  rw [← sumN_mul]
  refine sumN_congr fun x hx => ?_
  rw [show (8 * y + x) % 8 = x by omega, show (8 * y + x) / 8 = y by omega, Int.mul_comm (cW (i / 8) y), Int.mul_comm (cW (i % 8) x), Int.mul_assoc]
theorem frN_sum (bs : List Int) (i : Nat) : frN bs i = sumN 64 (fun k => bs.getD k 0 * frC i k) := by
  rw [sum_rows8]
  unfold frN frS bw frC at2
  refine sumN_congr fun y hy => ?_
  rw [← sumN_mul]
  refine sumN_congr fun x hx => ?_
  rw [show (8 * y + x) % 8 = x by omega, show (8 * y + x) / 8 = y by omega, Int.mul_comm (cW y (i / 8)), Int.mul_comm (cW x (i % 8)), Int.mul_assoc]
theorem cc_abs {a b : Int} (ha : -4096 ≤ a ∧ a ≤ 4096) (hb : -4096 ≤ b ∧ b ≤ 4096) : absZ (a * b) ≤ 16777216 := by
  rw [absZ_mul]
  exact mul_le_mulZ (b := 4096) (d := 4096) (absZ_le.2 ⟨ha.2, ha.1⟩) (absZ_le.2 ⟨hb.2, hb.1⟩) (absZ_nonneg _) (by omega)
theorem toC_abs (i k : Nat) : absZ (toC i k) ≤ 16777216 := cc_abs (cW_abs _ _) (cW_abs _ _)
theorem frC_abs (i k : Nat) : absZ (frC i k) ≤ 16777216 := cc_abs (cW_abs _ _) (cW_abs _ _)
theorem inB_getD {M : Int} {bs : List Int} (hM : 0 ≤ M) (h : inB (-M) M bs = true) (k : Nat) : absZ (bs.getD k 0) ≤ M := by
  rw [List.getD_eq_getElem?_getD]
  cases e : bs[k]? with
  | none => show absZ 0 ≤ M; unfold absZ; omega
  | some x => have := inB_at h e; exact absZ_le.2 ⟨this.2, this.1⟩
/-- How great a sum of n such numbers may be. -/
theorem part_abs {M : Int} {bs : List Int} (hM : 0 ≤ M) (h : inB (-M) M bs = true) (c : Nat → Int) (hc : ∀ k, absZ (c k) ≤ 16777216) : ∀ n : Nat, absZ (sumN n (fun k => bs.getD k 0 * c k)) ≤ n * (M * 16777216)
  | 0 => by show absZ 0 ≤ _; rw [show ((0 : Nat) : Int) = 0 from rfl, Int.zero_mul]; decide
  | n + 1 => by
    have h1 := absZ_le.1 (part_abs hM h c hc n)
    have h2 : absZ (bs.getD n 0 * c n) ≤ M * 16777216 := by
      rw [absZ_mul]; exact mul_le_mulZ (inB_getD hM h n) (hc n) (absZ_nonneg _) (by omega)
    have h3 := absZ_le.1 h2
    have e : ((n + 1 : Nat) : Int) * (M * 16777216) = (n : Int) * (M * 16777216) + M * 16777216 := by
      rw [show ((n + 1 : Nat) : Int) = (n : Int) + 1 by omega, Int.add_mul, Int.one_mul]
    rw [sumN_succ, absZ_le, e]
    generalize (n : Int) * (M * 16777216) = p at *
    generalize bs.getD n 0 * c n = q at *
    generalize sumN n (fun k => bs.getD k 0 * c k) = r at *
    omega
theorem part_small {bs : List Int} (h : inB (-40000) 40000 bs = true) (c : Nat → Int) (hc : ∀ k, absZ (c k) ≤ 16777216) {n : Nat} (hn : n ≤ 64) : -42949672960000 ≤ sumN n (fun k => bs.getD k 0 * c k) ∧ sumN n (fun k => bs.getD k 0 * c k) ≤ 42949672960000 := by
  have h1 := absZ_le.1 (part_abs (by omega) h c hc n)
  have h2 : (n : Int) * (40000 * 16777216) ≤ 42949672960000 := by omega
  omega
theorem term_small {bs : List Int} (h : inB (-40000) 40000 bs = true) {c : Int} (hc : absZ c ≤ 16777216) (k : Nat) : -671088640000 ≤ bs.getD k 0 * c ∧ bs.getD k 0 * c ≤ 671088640000 := by
  have h2 : absZ (bs.getD k 0 * c) ≤ 40000 * 16777216 := by
    rw [absZ_mul]; exact mul_le_mulZ (inB_getD (by omega) h k) hc (absZ_nonneg _) (by omega)
  have := absZ_le.1 h2
  omega
/-- Two lists of the same numbers at all places. -/
theorem toN_congr {bs cs : List Int} (e : ∀ k, k < 64 → bs.getD k 0 = cs.getD k 0) (i : Nat) : toN bs i = toN cs i :=
  toS_congr (fun y x hy hx => e _ (by omega)) _ _
theorem frN_congr {bs cs : List Int} (e : ∀ k, k < 64 → bs.getD k 0 = cs.getD k 0) (i : Nat) : frN bs i = frN cs i :=
  frS_congr (fun y x hy hx => e _ (by omega)) _ _
theorem toN_neg {bs cs : List Int} (e : ∀ k, k < 64 → cs.getD k 0 = - bs.getD k 0) (i : Nat) : toN cs i = - toN bs i := by
  unfold toN; rw [← toS_neg]; exact toS_congr (fun y x hy hx => e _ (by omega)) _ _
theorem frN_neg {bs cs : List Int} (e : ∀ k, k < 64 → cs.getD k 0 = - bs.getD k 0) (i : Nat) : frN cs i = - frN bs i := by
  unfold frN; rw [← frS_neg]; exact frS_congr (fun y x hy hx => e _ (by omega)) _ _
theorem toN_add {xs bs cs : List Int} (e : ∀ k, k < 64 → cs.getD k 0 = xs.getD k 0 + bs.getD k 0) (i : Nat) : toN cs i = toN xs i + toN bs i := by
  unfold toN; rw [← toS_add]; exact toS_congr (fun y x hy hx => e _ (by omega)) _ _
/-- Rows become columns. -/
theorem toN_across {bs cs : List Int} (e : ∀ k, k < 64 → cs.getD (k % 8 * 8 + k / 8) 0 = bs.getD k 0) {i : Nat} (hi : i < 64) : toN cs (i % 8 * 8 + i / 8) = toN bs i := by
  unfold toN
  rw [show (i % 8 * 8 + i / 8) / 8 = i % 8 by omega, show (i % 8 * 8 + i / 8) % 8 = i / 8 by omega, ← toS_across]
  refine toS_congr (fun y x hy hx => ?_) _ _
  have := e (8 * y + x) (by omega)
  rw [show (8 * y + x) % 8 * 8 + (8 * y + x) / 8 = 8 * x + y by omega] at this
  exact this
theorem frN_across {bs cs : List Int} (e : ∀ k, k < 64 → cs.getD (k % 8 * 8 + k / 8) 0 = bs.getD k 0) {i : Nat} (hi : i < 64) : frN cs (i % 8 * 8 + i / 8) = frN bs i := by
  unfold frN
  rw [show (i % 8 * 8 + i / 8) / 8 = i % 8 by omega, show (i % 8 * 8 + i / 8) % 8 = i / 8 by omega, ← frS_across]
  refine frS_congr (fun y x hy hx => ?_) _ _
  have := e (8 * y + x) (by omega)
  rw [show (8 * y + x) % 8 * 8 + (8 * y + x) / 8 = 8 * x + y by omega] at this
  exact this
/-- Seen in a mirror. -/
theorem toN_turn {bs cs : List Int} (e : ∀ k, k < 64 → cs.getD (k / 8 * 8 + 7 - k % 8) 0 = bs.getD k 0) (i : Nat) : toN cs i = if i % 2 = 0 then toN bs i else - toN bs i := by
  have h : toN cs i = toS (fun y x => at2 bs y (7 - x)) (i / 8) (i % 8) := by
    unfold toN
    refine toS_congr (fun y x hy hx => ?_) _ _
    have := e (8 * y + (7 - x)) (by omega)
    rw [show (8 * y + (7 - x)) / 8 * 8 + 7 - (8 * y + (7 - x)) % 8 = 8 * y + x by omega] at this
    exact this
  rw [h, toS_turn (Nat.mod_lt _ (by omega))]
  unfold toN
  rw [show i % 8 % 2 = i % 2 by omega]
theorem toN_line {bs : List Int} {l : Nat → Int} (e : ∀ k, k < 64 → bs.getD k 0 = l (k % 8)) {i : Nat} (h1 : 8 ≤ i) (h2 : i < 64) : toN bs i = 0 := by
  unfold toN
  rw [toS_congr (g := fun _ x => l x) (fun y x hy hx => ?_), toS_line (by omega) (by omega)]
  rw [at2, e _ (by omega), show (8 * y + x) % 8 = x by omega]
theorem toN_flat {bs : List Int} {n : Int} (e : ∀ k, k < 64 → bs.getD k 0 = n) {i : Nat} (hi : i < 64) : toN bs i = if i = 0 then 536756224 * n else 0 := by
  unfold toN
  rw [toS_congr (f := at2 bs) (g := fun _ _ => n) (fun y x hy hx => e _ (by omega)), toS_flat n (by omega) (by omega)]
  by_cases h : i = 0
  · rw [if_pos h, if_pos (by omega)]
  · rw [if_neg h, if_neg (by omega)]
theorem frN_one {bs : List Int} {a : Nat} (ha : a < 64) (e : ∀ k, k < 64 → k ≠ a → bs.getD k 0 = 0) (i : Nat) : frN bs i = bs.getD a 0 * (cW (a % 8) (i % 8) * cW (a / 8) (i / 8)) := by
  unfold frN
  rw [frS_one (f := at2 bs) (a := a / 8) (b := a % 8) (by omega) (by omega) (fun v u hv hu hne => e _ (by omega) (by omega))]
  rw [at2, show 8 * (a / 8) + a % 8 = a by omega, Int.mul_comm (cW (a / 8) (i / 8)), Int.mul_comm (cW (a % 8) (i % 8)) (bs.getD a 0), Int.mul_assoc]
theorem rnd_zero {d : Int} (hd : 0 < d) : rnd 0 d = 0 := by
  have := rnd_mul (n := 0) hd
  rwa [Int.zero_mul] at this
/-- A flat block's one number. -/
theorem flat_near {n : Int} (h1 : -1000 ≤ n) (h2 : n ≤ 1000) : -4 ≤ rnd (536756224 * n) 67108864 - 8 * n ∧ rnd (536756224 * n) 67108864 - 8 * n ≤ 4 := by
  obtain ⟨s1, s2⟩ := rnd_spec (536756224 * n) 67108864 (by omega)
  generalize rnd (536756224 * n) 67108864 = r at *
  by_cases h : 0 ≤ n
  · have := s1 (by omega); omega
  · have := s2 (by omega); omega
/-- There and back. -/
theorem near_at {bs : List Int} (h : inB (-255) 255 bs = true) {i : Nat} (hi : i < 64) : absZ (bs.getD i 0 - rnd (frN (wTo bs) i) 67108864) ≤ 4 := by
  have := near_four (f := at2 bs) (y := i / 8) (x := i % 8) (by omega) (by omega) (fun v u _ _ => inB_getD (by omega) h _)
  rw [at2, show 8 * (i / 8) + i % 8 = i by omega] at this
  have e : frN (wTo bs) i = frS (fun v u => rnd (toS (at2 bs) v u) 67108864) (i / 8) (i % 8) := by
    unfold frN
    refine frS_congr (fun v u hv hu => ?_) _ _
    rw [at2, List.getD_eq_getElem?_getD, wTo_at bs (by omega)]
    show rnd (toN bs (8 * v + u)) 67108864 = _
    unfold toN
    rw [show (8 * v + u) / 8 = v by omega, show (8 * v + u) % 8 = u by omega]
  rw [e]; exact this
/-- What comes of small numbers may be sent back. -/
theorem wTo_in {bs : List Int} (h : inB (-255) 255 bs = true) : badB (-40000) 40000 (wTo bs) = 0 := by
  unfold badB
  rw [if_pos]
  rw [inB_mem]
  intro x hx
  simp only [wTo, List.mem_map, List.mem_range] at hx
  obtain ⟨i, hi, rfl⟩ := hx
  have h1 := absZ_le.1 (part_abs (by omega) h (toC i) (toC_abs i) 64)
  rw [← toN_sum] at h1
  obtain ⟨s1, s2⟩ := rnd_spec (toN bs i) 67108864 (by omega)
  generalize rnd (toN bs i) 67108864 = r at *
  by_cases h0 : 0 ≤ toN bs i
  · have := s1 h0; omega
  · have := s2 (by omega); omega
end Go.Proofs.YtgnpjejjnhdejaaDoor
