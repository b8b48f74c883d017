/- Rounding and clamping in numbers; blocks made number by number. -/
import Derived.Test.YtemckjkdlbipcaaBlkBox
namespace Go.Proofs.Ytemckjkdlbipcaa
open Go.RowKit
set_option linter.unusedVariables false
set_option linter.unusedSimpArgs false
set_option maxRecDepth 100000

/-- The nearest whole number to n / d; of two, the one farther from zero. -/
def rnd (n d : Int) : Int :=
  if 0 < n.tmod d ∧ d - n.tmod d ≤ n.tmod d then n.tdiv d + 1 else if n.tmod d < 0 ∧ d + n.tmod d ≤ - n.tmod d then n.tdiv d - 1 else n.tdiv d
/-- n within bounds. -/
def clampZ (n lo hi : Int) : Int := if n < lo then lo else if hi < n then hi else n
theorem mul_step {a b d : Int} (hd : 0 < d) (h : a < b) : a * d + d ≤ b * d := by
  have := Int.mul_le_mul_of_nonneg_right (show a + 1 ≤ b by omega) (Int.le_of_lt hd)
  rw [Int.add_mul, Int.one_mul] at this
  exact this
theorem rnd_spec (n d : Int) (hd : 0 < d) : (0 ≤ n → 2 * (rnd n d * d) - d ≤ 2 * n ∧ 2 * n < 2 * (rnd n d * d) + d) ∧ (n ≤ 0 → 2 * (rnd n d * d) - d < 2 * n ∧ 2 * n ≤ 2 * (rnd n d * d) + d) := by
  have h1 := Int.tmod_lt_of_pos n hd
  have h2 := Int.lt_tmod_of_pos n hd
  have h3 := Int.tmod_add_mul_tdiv n d
  have h4 : 0 ≤ n → 0 ≤ n.tmod d := Int.tmod_nonneg d
  have h5 : n ≤ 0 → n.tmod d ≤ 0 := by
    intro h
    have := Int.tmod_nonneg (a := -n) d (by omega)
    rw [Int.neg_tmod] at this
    omega
  rw [Int.mul_comm] at h3
  have e1 : (n.tdiv d + 1) * d = n.tdiv d * d + d := by rw [Int.add_mul, Int.one_mul]
  have e2 : (n.tdiv d - 1) * d = n.tdiv d * d - d := by rw [Int.sub_mul, Int.one_mul]
  unfold rnd
  generalize n.tmod d = r at *
  obtain ⟨m, hm⟩ : ∃ m, n.tdiv d * d = m := ⟨_, rfl⟩
  rw [hm] at h3 e1 e2
  split
  · rw [e1]; exact ⟨fun h => by have := h4 h; omega, fun h => by have := h5 h; omega⟩
  · split
    · rw [e2]; exact ⟨fun h => by have := h4 h; omega, fun h => by have := h5 h; omega⟩
    · rw [hm]; exact ⟨fun h => by have := h4 h; omega, fun h => by have := h5 h; omega⟩
theorem rnd_only {n d r : Int} (hd : 0 < d) (h : (0 ≤ n ∧ 2 * (r * d) - d ≤ 2 * n ∧ 2 * n < 2 * (r * d) + d) ∨ (n ≤ 0 ∧ 2 * (r * d) - d < 2 * n ∧ 2 * n ≤ 2 * (r * d) + d)) : rnd n d = r := by
  obtain ⟨h1, h2⟩ := rnd_spec n d hd
  rcases Int.lt_trichotomy (rnd n d) r with h3 | h3 | h3
  · have := mul_step hd h3
    rcases h with ⟨h, h4, h5⟩ | ⟨h, h4, h5⟩
    · have := h1 h; omega
    · have := h2 h; omega
  · exact h3
  · have := mul_step hd h3
    rcases h with ⟨h, h4, h5⟩ | ⟨h, h4, h5⟩
    · have := h1 h; omega
    · have := h2 h; omega
theorem rnd_neg {n d : Int} (hd : 0 < d) : rnd (-n) d = - rnd n d := by
  obtain ⟨h1, h2⟩ := rnd_spec n d hd
  refine rnd_only hd ?_
  rw [Int.neg_mul]
  by_cases h : 0 ≤ n
  · have := h1 h; right; omega
  · have := h2 (by omega); left; omega
theorem rnd_mul {n d : Int} (hd : 0 < d) : rnd (n * d) d = n := by
  refine rnd_only hd ?_
  by_cases h : 0 ≤ n * d
  · left; omega
  · right; omega
theorem rnd_near {k d off : Int} (hd : 0 < d) (h1 : 2 * off < d) (h2 : -d < 2 * off) : rnd (k * d + off) d = k := by
  refine rnd_only hd ?_
  by_cases h : 0 ≤ k * d + off
  · left; omega
  · right; omega
theorem rnd_mono {n m d : Int} (hd : 0 < d) (h : n ≤ m) : rnd n d ≤ rnd m d := by
  obtain ⟨h1, h2⟩ := rnd_spec n d hd
  obtain ⟨h3, h4⟩ := rnd_spec m d hd
  refine Int.not_lt.1 fun h5 => ?_
  have := mul_step hd h5
  by_cases e1 : 0 ≤ n
  · have := h1 e1; have := h3 (by omega); omega
  · by_cases e2 : 0 ≤ m
    · have := h2 (by omega); have := h3 e2; omega
    · have := h2 (by omega); have := h4 (by omega); omega
theorem rnd_bound {n d M : Int} (hd : 0 < d) (hM : 0 ≤ M) (h1 : -M ≤ n) (h2 : n ≤ M) : -M - 1 ≤ rnd n d ∧ rnd n d ≤ M + 1 := by
  obtain ⟨h3, h4⟩ := rnd_spec n d hd
  constructor
  · refine Int.not_lt.1 fun h5 => ?_
    have h6 := mul_step hd h5
    have h7 := Int.mul_le_mul_of_nonneg_left (show 1 ≤ d by omega) (show 0 ≤ M + 1 by omega)
    have e : (-M - 1) * d = -((M + 1) * d) := by rw [← Int.neg_mul]; congr 1; omega
    rw [e] at h6
    by_cases h : 0 ≤ n
    · have := h3 h; omega
    · have := h4 (by omega); omega
  · refine Int.not_lt.1 fun h5 => ?_
    have h6 := mul_step hd h5
    have h7 := Int.mul_le_mul_of_nonneg_left (show 1 ≤ d by omega) (show 0 ≤ M + 1 by omega)
    by_cases h : 0 ≤ n
    · have := h3 h; omega
    · have := h4 (by omega); omega
theorem clampZ_in {n lo hi : Int} (h : lo ≤ hi) : lo ≤ clampZ n lo hi ∧ clampZ n lo hi ≤ hi := by unfold clampZ; split <;> (try split) <;> omega
theorem clampZ_of {n lo hi : Int} (h1 : lo ≤ n) (h2 : n ≤ hi) : clampZ n lo hi = n := by unfold clampZ; rw [if_neg (by omega), if_neg (by omega)]
theorem clampZ_neg {n m : Int} (h : 0 ≤ m) : clampZ (-n) (-m) m = - clampZ n (-m) m := by unfold clampZ; split <;> split <;> (try split) <;> (try split) <;> omega
theorem clampZ_mono {n m lo hi : Int} (h : n ≤ m) (hl : lo ≤ hi) : clampZ n lo hi ≤ clampZ m lo hi := by unfold clampZ; split <;> split <;> (try split) <;> (try split) <;> omega

/-- All numbers within bounds. -/
def inB (lo hi : Int) (cs : List Int) : Bool := cs.all fun x => decide (lo ≤ x) && decide (x ≤ hi)
theorem inB_mem {lo hi : Int} {cs : List Int} : inB lo hi cs = true ↔ ∀ x ∈ cs, lo ≤ x ∧ x ≤ hi := by simp [inB]
theorem inB_at {lo hi : Int} {cs : List Int} (h : inB lo hi cs = true) {i : Nat} {x : Int} (hx : cs[i]? = some x) : lo ≤ x ∧ x ≤ hi := inB_mem.1 h x (List.mem_of_getElem? hx)
def badB (lo hi : Int) (cs : List Int) : Int := if inB lo hi cs = true then 0 else 1
/-- The block made out of cs number by number, the first k of them. -/
def mapK (f : Nat → Int → Int) (cs : List Int) (k : Nat) : List Int := (List.range 64).map fun i => if i < k then f i (cs.getD i 0) else 0
def mapL (f : Nat → Int → Int) (cs : List Int) : List Int := mapK f cs 64
theorem mapK_length (f : Nat → Int → Int) (cs : List Int) (k : Nat) : (mapK f cs k).length = 64 := by simp [mapK]
theorem mapL_length (f : Nat → Int → Int) (cs : List Int) : (mapL f cs).length = 64 := mapK_length f cs 64
theorem mapK_zero (f : Nat → Int → Int) (cs : List Int) : mapK f cs 0 = List.replicate 64 0 := by
  apply List.ext_getElem?
  intro i
  by_cases hi : i < 64
  · rw [mapK, List.getElem?_map, List.getElem?_range hi, List.getElem?_replicate, if_pos hi]; simp
  · rw [List.getElem?_eq_none (by rw [mapK_length]; omega), List.getElem?_eq_none (by simp; omega)]
theorem mapK_next {f : Nat → Int → Int} {cs : List Int} {k : Nat} {x : Int} (hk : k < 64) (hx : cs[k]? = some x) : mapK f cs (k + 1) = (mapK f cs k).set k (f k x) := by
  apply List.ext_getElem?
  intro i
  rw [List.getElem?_set]
  by_cases hi : i < 64
  · simp only [mapK, List.getElem?_map, List.getElem?_range hi, List.length_map, List.length_range]
    by_cases e : k = i
    · subst e
      rw [if_pos rfl, if_pos hi]
      simp [List.getD_eq_getElem?_getD, hx]
    · rw [if_neg e]
      simp only [Option.map_some, show i < k + 1 ↔ i < k by omega]
  · rw [List.getElem?_eq_none (by rw [mapK_length]; omega), if_neg (by omega), List.getElem?_eq_none (by rw [mapK_length]; omega)]
theorem mapL_at {f : Nat → Int → Int} {cs : List Int} {i : Nat} {x : Int} (hi : i < 64) (hx : cs[i]? = some x) : (mapL f cs)[i]? = some (f i x) := by
  simp [mapL, mapK, List.getElem?_range hi, List.getD_eq_getElem?_getD, hx, hi]
theorem mapL_in {f : Nat → Int → Int} {cs : List Int} {lo hi : Int} (h : ∀ i x, lo ≤ f i x ∧ f i x ≤ hi) : inB lo hi (mapL f cs) = true := by
  rw [inB_mem]
  intro x hx
  simp only [mapL, mapK, List.mem_map, List.mem_range] at hx
  obtain ⟨i, hi, rfl⟩ := hx
  rw [if_pos hi]
  exact h _ _
/-- The same block overwritten in place: the first k numbers made, the others as they were. -/
def overK (f : Nat → Int → Int) (cs : List Int) (k : Nat) : List Int := (List.range 64).map fun i => if i < k then f i (cs.getD i 0) else cs.getD i 0
theorem overK_length (f : Nat → Int → Int) (cs : List Int) (k : Nat) : (overK f cs k).length = 64 := by simp [overK]
theorem overK_zero {f : Nat → Int → Int} {cs : List Int} (hc : cs.length = 64) : overK f cs 0 = cs := by
  apply List.ext_getElem?
  intro i
  by_cases hi : i < 64
  · obtain ⟨x, hx⟩ := some_at (xs := cs) (j := i) (by omega)
    rw [overK, List.getElem?_map, List.getElem?_range hi, hx]; simp [List.getD_eq_getElem?_getD, hx]
  · rw [List.getElem?_eq_none (by rw [overK_length]; omega), List.getElem?_eq_none (by omega)]
theorem overK_at {f : Nat → Int → Int} {cs : List Int} {k : Nat} {x : Int} (hk : k < 64) (hx : cs[k]? = some x) : (overK f cs k)[k]? = some x := by
  simp [overK, List.getElem?_range hk, List.getD_eq_getElem?_getD, hx]
theorem overK_next {f : Nat → Int → Int} {cs : List Int} {k : Nat} {x : Int} (hk : k < 64) (hx : cs[k]? = some x) : overK f cs (k + 1) = (overK f cs k).set k (f k x) := by
  apply List.ext_getElem?
  intro i
  rw [List.getElem?_set]
  by_cases hi : i < 64
  · simp only [overK, List.getElem?_map, List.getElem?_range hi, List.length_map, List.length_range]
    by_cases e : k = i
    · subst e
      rw [if_pos rfl, if_pos hi]
      simp [List.getD_eq_getElem?_getD, hx]
    · rw [if_neg e]
      simp only [Option.map_some, show i < k + 1 ↔ i < k by omega]
  · rw [List.getElem?_eq_none (by rw [overK_length]; omega), if_neg (by omega), List.getElem?_eq_none (by rw [overK_length]; omega)]
theorem overK_all (f : Nat → Int → Int) (cs : List Int) : overK f cs 64 = mapL f cs := by
  unfold overK mapL mapK
  apply List.map_congr_left
  intro i hi
  rw [if_pos (List.mem_range.1 hi), if_pos (List.mem_range.1 hi)]

def fDown (q : List Int) (i : Nat) (n : Int) : Int := clampZ (rnd n (q.getD i 1)) (-2047) 2047
def fUp (q : List Int) (i : Nat) (n : Int) : Int := clampZ (n * q.getD i 1) (-40000) 40000
def fScale (p : Int) (_ : Nat) (n : Int) : Int := clampZ (rnd (n * p) 100) 1 255
/-- The error of Down and Up, and of Scale. -/
def eBoth (M : Int) (b q : List Int) : Int := if inB 1 255 q = true ∧ inB (-M) M b = true then 0 else 1
def eScale (q : List Int) (p : Int) : Int := if inB 1 255 q = true ∧ 1 ≤ p ∧ p ≤ 1000 then 0 else 1
def oDown (b q : List Int) : List Int := if eBoth 40000 b q = 0 then mapL (fDown q) b else zero64
def oUp (b q : List Int) : List Int := if eBoth 2047 b q = 0 then mapL (fUp q) b else zero64
def oScale (q : List Int) (p : Int) : List Int := if eScale q p = 0 then mapL (fScale p) q else zero64
theorem oDown_length (b q : List Int) : (oDown b q).length = 64 := by unfold oDown; split; exact mapL_length _ _; exact zero64_length
theorem oUp_length (b q : List Int) : (oUp b q).length = 64 := by unfold oUp; split; exact mapL_length _ _; exact zero64_length
theorem oScale_length (q : List Int) (p : Int) : (oScale q p).length = 64 := by unfold oScale; split; exact mapL_length _ _; exact zero64_length
theorem eBoth_ok {M : Int} {b q : List Int} (h : eBoth M b q = 0) : inB 1 255 q = true ∧ inB (-M) M b = true := by unfold eBoth at h; split at h; assumption; cases h
theorem eBoth_bad {M : Int} {b q : List Int} (h : ¬ eBoth M b q = 0) : eBoth M b q = 1 := by unfold eBoth at h ⊢; split at h; exact absurd rfl h; rw [if_neg (by assumption)]
theorem eScale_ok {p : Int} {q : List Int} (h : eScale q p = 0) : inB 1 255 q = true ∧ 1 ≤ p ∧ p ≤ 1000 := by unfold eScale at h; split at h; assumption; cases h
theorem eScale_bad {p : Int} {q : List Int} (h : ¬ eScale q p = 0) : eScale q p = 1 := by unfold eScale at h ⊢; split at h; exact absurd rfl h; rw [if_neg (by assumption)]
theorem fDown_at {q : List Int} {i : Nat} {n d : Int} (hd : q[i]? = some d) : fDown q i n = clampZ (rnd n d) (-2047) 2047 := by simp [fDown, List.getD_eq_getElem?_getD, hd]
theorem fUp_at {q : List Int} {i : Nat} {n d : Int} (hd : q[i]? = some d) : fUp q i n = clampZ (n * d) (-40000) 40000 := by simp [fUp, List.getD_eq_getElem?_getD, hd]
end Go.Proofs.Ytemckjkdlbipcaa
