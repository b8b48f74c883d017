/- Codes of least cost, in numbers: what sixteen rounds of merging give, as lengths of the symbols that occur. -/
import Derived.Test.YthelblkpfkngmaaPMath
import Derived.Test.YthelblkpfkngmaaBestEnum
import Derived.Test.YthelblkpfkngmaaBestCount
import Derived.Test.YthelblkpfkngmaaBestCheck
namespace Go.Proofs.Ythelblkpfkngmaa
open Go.RowKit
set_option linter.unusedVariables false
set_option linter.unusedSimpArgs false

/-- The symbols that occur. -/
def used (zs : List Int) : List Int := ((enumI zs).filter fun p => decide (0 < p.2)).map (·.1)
/-- How often a symbol occurs. -/
def cntZ (zs : List Int) (i : Int) : Nat := if i < 0 then 0 else (zs[i.toNat]?.getD 0).toNat
/-- The symbols that occur, the last one first, behind the spare one. -/
def idxB (zs : List Int) : List Int := -1 :: (used zs).reverse
theorem enumI_get {zs : List Int} {p : Int × Int} (h : p ∈ enumI zs) : ∃ k : Nat, p.1 = (k : Int) ∧ zs[k]? = some p.2 := by
  obtain ⟨k, hk⟩ := List.mem_iff_getElem?.1 h
  have hl := (List.getElem?_eq_some_iff.1 hk).1
  rw [enumI_length] at hl
  obtain ⟨x, hx⟩ := some_at hl
  rw [enumI_at hx] at hk
  injection hk with hk
  subst hk
  exact ⟨k, rfl, hx⟩
theorem enumI_fst (zs : List Int) : (enumI zs).map (·.1) = (List.range zs.length).map Int.ofNat := by
  apply List.ext_getElem?
  intro i
  by_cases hi : i < zs.length
  · obtain ⟨x, hx⟩ := some_at hi
    rw [List.getElem?_map, enumI_at hx]; simp [hi]
  · rw [List.getElem?_eq_none (by simp [enumI_length]; omega), List.getElem?_eq_none (by simp; omega)]
theorem cntZ_at {zs : List Int} {k : Nat} {x : Int} (h : zs[k]? = some x) : cntZ zs (k : Int) = x.toNat := by
  unfold cntZ; rw [if_neg (by omega)]; simp [h]
theorem nodup_upTo (n : Nat) : ((List.range n).map Int.ofNat).Nodup := by
  rw [List.nodup_iff_pairwise_ne, List.pairwise_map]
  refine (List.nodup_iff_pairwise_ne.1 List.nodup_range).imp fun hab e => hab ?_
  exact Int.ofNat.inj e
theorem used_sub (zs : List Int) : (used zs).Sublist ((enumI zs).map (·.1)) := List.filter_sublist.map _
theorem used_nodup (zs : List Int) : (used zs).Nodup := (used_sub zs).nodup (by rw [enumI_fst]; exact nodup_upTo _)
theorem used_mem {zs : List Int} {i : Int} : i ∈ used zs ↔ ∃ (k : Nat) (x : Int), i = (k : Int) ∧ zs[k]? = some x ∧ 0 < x := by
  constructor
  · intro h
    simp only [used, List.mem_map, List.mem_filter] at h
    obtain ⟨p, ⟨hp, hx⟩, rfl⟩ := h
    obtain ⟨k, h1, h2⟩ := enumI_get hp
    exact ⟨k, p.2, h1, h2, by simpa using hx⟩
  · rintro ⟨k, x, rfl, h1, h2⟩
    simp only [used, List.mem_map, List.mem_filter]
    exact ⟨((k : Int), x), ⟨List.mem_of_getElem? (enumI_at h1), by simpa using h2⟩, rfl⟩
theorem used_len (zs : List Int) : (used zs).length ≤ zs.length := by
  have := (used_sub zs).length_le; rw [List.length_map, enumI_length] at this; exact this
theorem used_pos {zs : List Int} {i : Int} (h : i ∈ used zs) : 0 ≤ i ∧ i < zs.length ∧ 1 ≤ cntZ zs i := by
  obtain ⟨k, x, rfl, h1, h2⟩ := used_mem.1 h
  have := (List.getElem?_eq_some_iff.1 h1).1
  exact ⟨by omega, by omega, by rw [cntZ_at h1]; omega⟩
theorem idxB_nodup (zs : List Int) : (idxB zs).Nodup := by
  refine List.nodup_cons.2 ⟨fun h => ?_, (List.reverse_perm _).nodup_iff.2 (used_nodup zs)⟩
  have := (used_pos (List.mem_reverse.1 h)).1
  omega
theorem cntZ_max {zs : List Int} (h : ∀ x ∈ zs, 0 ≤ x ∧ x ≤ 9999) (i : Int) : cntZ zs i ≤ 9999 := by
  unfold cntZ
  split
  · omega
  · cases hz : zs[i.toNat]? with
    | none => simp
    | some x => have := h x (List.mem_of_getElem? hz); simp; omega
/-- Lengths of a code for the symbols that occur. -/
def CodeL (zs : List Int) (L : Int → Nat) : Prop := (∀ i ∈ used zs, 1 ≤ L i ∧ L i ≤ 16) ∧ sumF (used zs) (fun i => 2 ^ (16 - L i)) ≤ 65535
def costL (zs : List Int) (L : Int → Nat) : Nat := sumF (used zs) fun i => cntZ zs i * L i
/-- .. of least cost. -/
structure BestL (zs : List Int) (L : Int → Nat) : Prop where
  code : CodeL zs L
  none : ∀ i, i ∉ used zs → L i = 0
  least : ∀ L', CodeL zs L' → costL zs L ≤ costL zs L'
/-- The lengths that sixteen rounds give. -/
def lensB (zs : List Int) (l : List Bun) (i : Int) : Nat := if i ∈ used zs then (flatB (l.take (2 * (idxB zs).length - 2))).count i else 0
theorem sumF_rev (l : List Int) (f : Int → Nat) : sumF l.reverse f = sumF l f := sumF_perm (List.reverse_perm l) f
theorem lensB_best {zs : List Int} (h : zs.length ≤ 256) {l : List Bun} (hc : Chain (cntZ zs) (idxB zs) 16 l) : BestL zs (lensB zs l) := by
  have hlen : (idxB zs).length ≤ 512 := by have := used_len zs; simp [idxB]; omega
  obtain ⟨h1, h2, h3⟩ := hc.best (idxB_nodup zs) (by simp [idxB]) hlen
  obtain ⟨N, hN⟩ : ∃ N, N = 2 * (idxB zs).length - 2 := ⟨_, rfl⟩
  rw [← hN] at h1 h2 h3
  have hu : ∀ i ∈ used zs, lensB zs l i = (flatB (l.take N)).count i := fun i hi => by unfold lensB; rw [if_pos hi, ← hN]
  have hsum : sumF (used zs) (fun i => 2 ^ (16 - lensB zs l i)) ≤ 65535 := by
    have h4 := h2.2
    unfold idxB at h4
    rw [sumF_cons, sumF_rev] at h4
    simp only at h4
    have h5 : sumF (used zs) (fun i => 2 ^ (16 - lensB zs l i)) = sumF (used zs) (fun i => 2 ^ (16 - (flatB (l.take N)).count i)) := sumF_congr fun i hi => by rw [hu i hi]
    have h6 := Nat.two_pow_pos (16 - (flatB (l.take N)).count (-1))
    rw [h5]; omega
  refine ⟨⟨fun i hi => ⟨?_, ?_⟩, hsum⟩, fun i hi => by unfold lensB; rw [if_neg hi], fun L' hL' => ?_⟩
  · rcases Nat.eq_zero_or_pos (lensB zs l i) with h0 | h0
    · have := sumF_pos (f := fun i => 2 ^ (16 - lensB zs l i)) i hi
      simp only [h0] at this
      have e : 2 ^ (16 - 0) = 65536 := by decide
      omega
    · exact h0
  · rw [hu i hi]; exact h2.1 i (by simp [idxB, hi])
  · have hne : ∀ i ∈ used zs, i ≠ -1 := fun i hi => by have := (used_pos hi).1; omega
    have h4 := h3 (fun i => if i = -1 then 16 else L' i) ⟨fun i hi => by
      by_cases e : i = -1
      · simp [e]
      · simp only [if_neg e]
        have : i ∈ used zs := by simpa [idxB, e] using hi
        exact (hL'.1 i this).2, by
      unfold idxB
      rw [sumF_cons, sumF_rev]
      simp only [if_true]
      have h5 : sumF (used zs) (fun i => 2 ^ (16 - if i = -1 then 16 else L' i)) = sumF (used zs) (fun i => 2 ^ (16 - L' i)) := sumF_congr fun i hi => by rw [if_neg (hne i hi)]
      rw [h5]
      have := hL'.2
      simp; omega⟩
    unfold idxB at h4
    rw [sumF_cons, sumF_cons, sumF_rev, sumF_rev, show cntZ zs (-1) = 0 from rfl, Nat.zero_mul, Nat.zero_mul, Nat.zero_add, Nat.zero_add] at h4
    unfold costL
    rw [sumF_congr (g := fun i => cntZ zs i * (flatB (l.take N)).count i) fun i hi => by rw [hu i hi]]
    refine Nat.le_trans h4 (Nat.le_of_eq (sumF_congr fun i hi => ?_))
    rw [if_neg (hne i hi)]
theorem lensB_map {zs : List Int} {l : List Bun} (hc : Chain (cntZ zs) (idxB zs) 16 l) (s : Nat) : (cntF (flatB (l.take (2 * (idxB zs).length - 2))) (s : Int)).getD 0 = (lensB zs l (s : Int) : Int) := by
  rw [cntF_getD]
  unfold lensB
  by_cases h : (s : Int) ∈ used zs
  · rw [if_pos h]
  · rw [if_neg h]
    have : (s : Int) ∉ flatB (l.take (2 * (idxB zs).length - 2)) := by
      intro hm
      simp only [flatB, List.mem_flatMap] at hm
      obtain ⟨b, hb, hs⟩ := hm
      have := (hc.each b (List.mem_of_mem_take hb)).2.2 _ hs
      simp only [idxB, List.mem_cons, List.mem_reverse] at this
      rcases this with h1 | h1
      · omega
      · exact h h1
    rw [List.count_eq_zero_of_not_mem this]
/-! ### lengths that serve another list of counts -/
theorem BestL.le_of {zs ys : List Int} {L : Int → Nat} (h : BestL zs L) {L' : Int → Nat} (hc : CodeL zs L') {n : Nat} (hn : costL zs L' ≤ n) : costL zs L ≤ n := Nat.le_trans (h.least L' hc) hn
theorem sumF_sub {α : Type} [BEq α] [LawfulBEq α] {l m : List α} (hl : l.Nodup) (h : ∀ x ∈ l, x ∈ m) (f : α → Nat) : sumF l f ≤ sumF m f := by
  induction l generalizing m with
  | nil => simp [sumF]
  | cons a l ih =>
    obtain ⟨h1, h2⟩ := List.nodup_cons.1 hl
    have ha := h a (by simp)
    rw [sumF_cons, sumF_perm (List.perm_cons_erase ha) f, sumF_cons]
    have := ih (m := m.erase a) h2 fun x hx => (List.mem_erase_of_ne (fun e => by subst e; exact h1 hx)).2 (h x (by simp [hx]))
    omega
end Go.Proofs.Ythelblkpfkngmaa
