/- What the walks over the laws on the transform share; the laws in numbers. -/
import Derived.Test.YtgnpjejjnhdejaaDoorWKeep
import Derived.Test.YtgnpjejjnhdejaaDoorRest
namespace Go.Proofs.YtgnpjejjnhdejaaDoor
open Go.RowKit
set_option linter.unusedVariables false
set_option linter.unusedSimpArgs false

theorem Blk.step {W w1 : World} {b : Nat} {xs : List Value} {t : TypeId} (h : Blk W b xs t) (hb : Below W.heap.size W w1) (o : Obj) : Blk (w1.alloc o) b xs t :=
  (h.below hb h.lt).below (below1 w1 o) (h.below hb h.lt).lt
theorem below_step {n : Nat} {w W w1 : World} (h : Below n w W) (hn : n ≤ w.heap.size) (hb : Below W.heap.size W w1) (o : Obj) : Below n w (w1.alloc o) :=
  have h1 := h.trans (hb.mono (Nat.le_trans hn h.size))
  h1.trans ((below1 w1 o).mono (Nat.le_trans hn h1.size))
def vTo (bs : List Int) (i : Nat) : Int := if badB (-40000) 40000 bs = 0 then rnd (toN bs i) 67108864 else 0
def vFr (bs : List Int) (i : Nat) : Int := if badB (-40000) 40000 bs = 0 then rnd (frN bs i) 67108864 else 0
theorem oTo_at (bs : List Int) {i : Nat} (hi : i < 64) : (oTo bs)[i]? = some (vTo bs i) := by
  unfold oTo vTo
  by_cases h : badB (-40000) 40000 bs = 0
  · rw [if_pos h, if_pos h, wTo_at bs hi]
  · rw [if_neg h, if_neg h, zero64, List.getElem?_replicate, if_pos hi]
theorem oFr_at (bs : List Int) {i : Nat} (hi : i < 64) : (oFr bs)[i]? = some (vFr bs i) := by
  unfold oFr vFr
  by_cases h : badB (-40000) 40000 bs = 0
  · rw [if_pos h, if_pos h, wFr_at bs hi]
  · rw [if_neg h, if_neg h, zero64, List.getElem?_replicate, if_pos hi]
theorem rnd_small {n : Int} (h : -42949672960000 ≤ n ∧ n ≤ 42949672960000) : -700000 ≤ rnd n 67108864 ∧ rnd n 67108864 ≤ 700000 := by
  obtain ⟨s1, s2⟩ := rnd_spec n 67108864 (by omega)
  generalize rnd n 67108864 = r at *
  by_cases h0 : 0 ≤ n
  · have := s1 h0; omega
  · have := s2 (by omega); omega
theorem vTo_small (bs : List Int) (i : Nat) : -700000 ≤ vTo bs i ∧ vTo bs i ≤ 700000 := by
  unfold vTo
  by_cases h : badB (-40000) 40000 bs = 0
  · rw [if_pos h]
    have := part_small (bad_in h) (toC i) (toC_abs i) (show 64 ≤ 64 by omega)
    rw [← toN_sum] at this
    exact rnd_small this
  · rw [if_neg h]; omega
theorem vFr_small (bs : List Int) (i : Nat) : -700000 ≤ vFr bs i ∧ vFr bs i ≤ 700000 := by
  unfold vFr
  by_cases h : badB (-40000) 40000 bs = 0
  · rw [if_pos h]
    have := part_small (bad_in h) (frC i) (frC_abs i) (show 64 ≤ 64 by omega)
    rw [← frN_sum] at this
    exact rnd_small this
  · rw [if_neg h]; omega
/-- The other side. -/
def fNeg (_ : Nat) (x : Int) : Int := wrap64 (-x)
theorem neg_in {bs : List Int} (hb : bs.length = 64) (hw : ∀ x ∈ bs, -9223372036854775808 ≤ x ∧ x ≤ 9223372036854775807) : inB (-40000) 40000 (mapL fNeg bs) = inB (-40000) 40000 bs := by
  rw [Bool.eq_iff_iff]
  constructor
  · intro h
    rw [inB_mem]
    intro x hx
    obtain ⟨i, hi, e⟩ := List.getElem_of_mem hx
    have hx' : bs[i]? = some x := by rw [List.getElem?_eq_some_iff]; exact ⟨hi, e⟩
    have h1 := inB_at h (mapL_at (f := fNeg) (by omega) hx')
    have h2 := hw x hx
    unfold fNeg wrap64 at h1
    omega
  · intro h
    rw [inB_mem]
    intro y hy
    simp only [mapL, mapK, List.mem_map, List.mem_range] at hy
    obtain ⟨i, hi, rfl⟩ := hy
    rw [if_pos hi]
    obtain ⟨x, hx⟩ := some_at (xs := bs) (j := i) (by omega)
    have h1 := inB_at h hx
    rw [show bs.getD i 0 = x by simp [List.getD_eq_getElem?_getD, hx]]
    unfold fNeg wrap64
    omega
theorem neg_bad {bs : List Int} (hb : bs.length = 64) (hw : ∀ x ∈ bs, -9223372036854775808 ≤ x ∧ x ≤ 9223372036854775807) : badB (-40000) 40000 (mapL fNeg bs) = badB (-40000) 40000 bs := by
  unfold badB; rw [neg_in hb hw]
theorem neg_getD {bs : List Int} (hb : bs.length = 64) (h : badB (-40000) 40000 bs = 0) (k : Nat) (hk : k < 64) : (mapL fNeg bs).getD k 0 = - bs.getD k 0 := by
  obtain ⟨x, hx⟩ := some_at (xs := bs) (j := k) (by omega)
  have h1 := inB_at (bad_in h) hx
  rw [List.getD_eq_getElem?_getD, mapL_at hk hx, List.getD_eq_getElem?_getD, hx]
  show fNeg k x = -x
  unfold fNeg wrap64; omega
theorem vTo_odd {bs : List Int} (hb : bs.length = 64) (hw : ∀ x ∈ bs, -9223372036854775808 ≤ x ∧ x ≤ 9223372036854775807) (i : Nat) : vTo bs i = - vTo (mapL fNeg bs) i := by
  unfold vTo
  rw [neg_bad hb hw]
  by_cases h : badB (-40000) 40000 bs = 0
  · rw [if_pos h, if_pos h, toN_neg (neg_getD hb h), rnd_neg (by omega), Int.neg_neg]
  · rw [if_neg h, if_neg h]; rfl
theorem vFr_odd {bs : List Int} (hb : bs.length = 64) (hw : ∀ x ∈ bs, -9223372036854775808 ≤ x ∧ x ≤ 9223372036854775807) (i : Nat) : vFr bs i = - vFr (mapL fNeg bs) i := by
  unfold vFr
  rw [neg_bad hb hw]
  by_cases h : badB (-40000) 40000 bs = 0
  · rw [if_pos h, if_pos h, frN_neg (neg_getD hb h), rnd_neg (by omega), Int.neg_neg]
  · rw [if_neg h, if_neg h]; rfl
/-- Rows become columns. -/
theorem getD_mem {bs : List Int} {lo hi : Int} (hb : bs.length = 64) : inB lo hi bs = true ↔ ∀ k, k < 64 → lo ≤ bs.getD k 0 ∧ bs.getD k 0 ≤ hi := by
  rw [inB_mem]
  constructor
  · intro h k hk
    obtain ⟨x, hx⟩ := some_at (xs := bs) (j := k) (by omega)
    rw [List.getD_eq_getElem?_getD, hx]
    exact h x (List.mem_of_getElem? hx)
  · intro h x hx
    obtain ⟨i, hi, e⟩ := List.getElem_of_mem hx
    have := h i (by omega)
    rw [List.getD_eq_getElem?_getD, List.getElem?_eq_getElem hi, e] at this
    exact this
theorem ac_bad {bs : List Int} (hb : bs.length = 64) : badB (-40000) 40000 (acL bs) = badB (-40000) 40000 bs := by
  have : inB (-40000) 40000 (acL bs) = inB (-40000) 40000 bs := by
    rw [Bool.eq_iff_iff, getD_mem (acL_length bs), getD_mem hb]
    constructor
    · intro h k hk
      have := h (k % 8 * 8 + k / 8) (by omega)
      rwa [acL_getD bs hk] at this
    · intro h k hk
      have := h (k % 8 * 8 + k / 8) (by omega)
      rwa [← acL_getD bs (show k % 8 * 8 + k / 8 < 64 by omega), show (k % 8 * 8 + k / 8) % 8 * 8 + (k % 8 * 8 + k / 8) / 8 = k by omega] at this
  unfold badB; rw [this]
theorem ac_to {bs : List Int} (hb : bs.length = 64) : acL (oTo bs) = oTo (acL bs) := by
  apply List.ext_getElem?
  intro i
  by_cases hi : i < 64
  · rw [acL_at hi, oTo_at _ hi, List.getD_eq_getElem?_getD, oTo_at _ (show i % 8 * 8 + i / 8 < 64 by omega)]
    unfold vTo
    rw [ac_bad hb]
    have := toN_across (bs := bs) (cs := acL bs) (fun k hk => acL_getD bs hk) (i := i % 8 * 8 + i / 8) (by omega)
    rw [show (i % 8 * 8 + i / 8) % 8 * 8 + (i % 8 * 8 + i / 8) / 8 = i by omega] at this
    rw [this]; rfl
  · rw [List.getElem?_eq_none (by rw [acL_length]; omega), List.getElem?_eq_none (by rw [oTo_length]; omega)]
theorem ac_fr {bs : List Int} (hb : bs.length = 64) : acL (oFr bs) = oFr (acL bs) := by
  apply List.ext_getElem?
  intro i
  by_cases hi : i < 64
  · rw [acL_at hi, oFr_at _ hi, List.getD_eq_getElem?_getD, oFr_at _ (show i % 8 * 8 + i / 8 < 64 by omega)]
    unfold vFr
    rw [ac_bad hb]
    have := frN_across (bs := bs) (cs := acL bs) (fun k hk => acL_getD bs hk) (i := i % 8 * 8 + i / 8) (by omega)
    rw [show (i % 8 * 8 + i / 8) % 8 * 8 + (i % 8 * 8 + i / 8) / 8 = i by omega] at this
    rw [this]; rfl
  · rw [List.getElem?_eq_none (by rw [acL_length]; omega), List.getElem?_eq_none (by rw [oFr_length]; omega)]
/-- Seen in a mirror, as far as place k. -/
def miK (cs : List Int) (k : Nat) : List Int := (List.range 64).map fun p => if p / 8 * 8 + 7 - p % 8 < k then cs.getD (p / 8 * 8 + 7 - p % 8) 0 else 0
def miL (cs : List Int) : List Int := miK cs 64
theorem miK_length (cs : List Int) (k : Nat) : (miK cs k).length = 64 := by simp [miK]
theorem miL_length (cs : List Int) : (miL cs).length = 64 := miK_length cs 64
theorem miK_zero (cs : List Int) : miK cs 0 = zero64 := by
  apply List.ext_getElem?
  intro i
  by_cases hi : i < 64
  · rw [miK, List.getElem?_map, List.getElem?_range hi, zero64, List.getElem?_replicate, if_pos hi]; simp
  · rw [List.getElem?_eq_none (by rw [miK_length]; omega), List.getElem?_eq_none (by rw [zero64_length]; omega)]
theorem miK_next {cs : List Int} {k : Nat} {x : Int} (hk : k < 64) (hx : cs[k]? = some x) : (miK cs k).set (k / 8 * 8 + 7 - k % 8) x = miK cs (k + 1) := by
  apply List.ext_getElem?
  intro i
  by_cases hi : i < 64
  · by_cases e : k / 8 * 8 + 7 - k % 8 = i
    · rw [e, List.getElem?_set_self (by rw [miK_length]; omega), miK, List.getElem?_map, List.getElem?_range hi]
      simp only [Option.map_some]
      rw [show i / 8 * 8 + 7 - i % 8 = k by omega, if_pos (by omega), List.getD_eq_getElem?_getD, hx]; rfl
    · rw [List.getElem?_set_ne e]
      unfold miK
      rw [List.getElem?_map, List.getElem?_map, List.getElem?_range hi]
      simp only [Option.map_some]
      by_cases h : i / 8 * 8 + 7 - i % 8 < k
      · rw [if_pos h, if_pos (by omega)]
      · rw [if_neg h, if_neg (by omega)]
  · rw [List.getElem?_eq_none (by rw [List.length_set, miK_length]; omega), List.getElem?_eq_none (by rw [miK_length]; omega)]
theorem miL_at {cs : List Int} {p : Nat} (hp : p < 64) : (miL cs)[p]? = some (cs.getD (p / 8 * 8 + 7 - p % 8) 0) := by
  rw [miL, miK, List.getElem?_map, List.getElem?_range hp]
  simp only [Option.map_some]
  rw [if_pos (by omega)]
theorem miL_getD (cs : List Int) {k : Nat} (hk : k < 64) : (miL cs).getD (k / 8 * 8 + 7 - k % 8) 0 = cs.getD k 0 := by
  rw [List.getD_eq_getElem?_getD, miL_at (by omega), show (k / 8 * 8 + 7 - k % 8) / 8 * 8 + 7 - (k / 8 * 8 + 7 - k % 8) % 8 = k by omega]; rfl
theorem mi_bad {bs : List Int} (hb : bs.length = 64) : badB (-40000) 40000 (miL bs) = badB (-40000) 40000 bs := by
  have : inB (-40000) 40000 (miL bs) = inB (-40000) 40000 bs := by
    rw [Bool.eq_iff_iff, getD_mem (miL_length bs), getD_mem hb]
    constructor
    · intro h k hk
      have := h (k / 8 * 8 + 7 - k % 8) (by omega)
      rwa [miL_getD bs hk] at this
    · intro h k hk
      have := h (k / 8 * 8 + 7 - k % 8) (by omega)
      rwa [← miL_getD bs (show k / 8 * 8 + 7 - k % 8 < 64 by omega), show (k / 8 * 8 + 7 - k % 8) / 8 * 8 + 7 - (k / 8 * 8 + 7 - k % 8) % 8 = k by omega] at this
  unfold badB; rw [this]
theorem vTo_mi {bs : List Int} (hb : bs.length = 64) {i : Nat} : vTo bs i = if i % 2 = 0 then vTo (miL bs) i else - vTo (miL bs) i := by
  unfold vTo
  rw [mi_bad hb]
  by_cases h : badB (-40000) 40000 bs = 0
  · rw [if_pos h, if_pos h, toN_turn (bs := bs) (cs := miL bs) (fun k hk => miL_getD bs hk)]
    by_cases h2 : i % 2 = 0
    · rw [if_pos h2, if_pos h2]
    · rw [if_neg h2, if_neg h2, rnd_neg (by omega), Int.neg_neg]
  · rw [if_neg h, if_neg h]
    by_cases h2 : i % 2 = 0
    · rw [if_pos h2]
    · rw [if_neg h2]; rfl
end Go.Proofs.YtgnpjejjnhdejaaDoor
