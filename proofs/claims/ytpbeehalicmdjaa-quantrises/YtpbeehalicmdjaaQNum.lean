/- The zero block compared; what quantizing and dequantizing do, in numbers. -/
import Derived.Test.YtpbeehalicmdjaaQKeep
namespace Go.Proofs.Ytpbeehalicmdjaa
open Go.RowKit
set_option linter.unusedVariables false
set_option linter.unusedSimpArgs false

theorem zero_eql (u : World) : (binOp .eql 23 (.agg zeroB.toArray) (.agg #[.int .i64 0, .int .i64 0, .int .i64 0, .int .i64 0, .int .i64 0, .int .i64 0, .int .i64 0, .int .i64 0, .int .i64 0, .int .i64 0, .int .i64 0, .int .i64 0, .int .i64 0, .int .i64 0, .int .i64 0, .int .i64 0, .int .i64 0, .int .i64 0, .int .i64 0, .int .i64 0, .int .i64 0, .int .i64 0, .int .i64 0, .int .i64 0, .int .i64 0, .int .i64 0, .int .i64 0, .int .i64 0, .int .i64 0, .int .i64 0, .int .i64 0, .int .i64 0, .int .i64 0, .int .i64 0, .int .i64 0, .int .i64 0, .int .i64 0, .int .i64 0, .int .i64 0, .int .i64 0, .int .i64 0, .int .i64 0, .int .i64 0, .int .i64 0, .int .i64 0, .int .i64 0, .int .i64 0, .int .i64 0, .int .i64 0, .int .i64 0, .int .i64 0, .int .i64 0, .int .i64 0, .int .i64 0, .int .i64 0, .int .i64 0, .int .i64 0, .int .i64 0, .int .i64 0, .int .i64 0, .int .i64 0, .int .i64 0, .int .i64 0, .int .i64 0])).run Try.prog u = .ok (.bool true) u := blk_same zero64 zero64_length u
/-- Down's result where there is no error. -/
theorem oDown_ok {b q : List Int} (h : eBoth 40000 b q = 0) : oDown b q = mapL (fDown q) b := by rw [oDown, if_pos h]
theorem oUp_ok {b q : List Int} (h : eBoth 2047 b q = 0) : oUp b q = mapL (fUp q) b := by rw [oUp, if_pos h]
theorem oScale_ok {q : List Int} {p : Int} (h : eScale q p = 0) : oScale q p = mapL (fScale p) q := by rw [oScale, if_pos h]
theorem oDown_err {b q : List Int} (h : ¬ eBoth 40000 b q = 0) : ints .i64 (oDown b q) = zeroB := by rw [oDown, if_neg h]; rfl
theorem oUp_err {b q : List Int} (h : ¬ eBoth 2047 b q = 0) : ints .i64 (oUp b q) = zeroB := by rw [oUp, if_neg h]; rfl
theorem oScale_err {q : List Int} {p : Int} (h : ¬ eScale q p = 0) : ints .i64 (oScale q p) = zeroB := by rw [oScale, if_neg h]; rfl
theorem eBoth_of {M : Int} {b q : List Int} (h1 : inB 1 255 q = true) (h2 : inB (-M) M b = true) : eBoth M b q = 0 := by unfold eBoth; rw [if_pos ⟨h1, h2⟩]
theorem down_in {q b : List Int} : inB (-2047) 2047 (mapL (fDown q) b) = true := mapL_in fun i x => clampZ_in (by omega)
theorem up_in {q b : List Int} : inB (-40000) 40000 (mapL (fUp q) b) = true := mapL_in fun i x => clampZ_in (by omega)
theorem scale_in {q : List Int} {p : Int} : inB 1 255 (mapL (fScale p) q) = true := mapL_in fun i x => clampZ_in (by omega)
/-- What was multiplied and not cut off is the same again. -/
theorem back_num {x d : Int} (hd : 1 ≤ d) (h1 : -2047 ≤ x) (h2 : x ≤ 2047) (h3 : -40000 ≤ x * d) (h4 : x * d ≤ 40000) : clampZ (rnd (clampZ (x * d) (-40000) 40000) d) (-2047) 2047 = x := by
  rw [clampZ_of h3 h4, rnd_mul (by omega), clampZ_of h1 h2]
/-- Half a step at most, where nothing is cut off. -/
theorem near_num {x d : Int} (hd : 1 ≤ d) (h1 : -40000 ≤ x) (h2 : x ≤ 40000) (h3 : -2047 * d ≤ x) (h4 : x ≤ 2047 * d) :
    2 * (x - clampZ (clampZ (rnd x d) (-2047) 2047 * d) (-40000) 40000) ≤ d ∧ 2 * (clampZ (clampZ (rnd x d) (-2047) 2047 * d) (-40000) 40000 - x) ≤ d := by
  have hd0 : 0 < d := by omega
  have e1 : rnd x d ≤ 2047 := by have := rnd_mono hd0 h4; rwa [rnd_mul hd0] at this
  have e2 : -2047 ≤ rnd x d := by have := rnd_mono hd0 h3; rwa [rnd_mul hd0] at this
  obtain ⟨s1, s2⟩ := rnd_spec x d hd0
  rw [clampZ_of e2 e1]
  generalize rnd x d * d = m at *
  unfold clampZ
  by_cases h : 0 ≤ x
  · have := s1 h
    split
    · omega
    · split <;> omega
  · have := s2 (by omega)
    split
    · omega
    · split <;> omega
end Go.Proofs.Ytpbeehalicmdjaa
