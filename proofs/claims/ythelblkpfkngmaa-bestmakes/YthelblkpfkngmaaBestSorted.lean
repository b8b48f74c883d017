/- slices.SortStableFunc over a row of bundles of the call's own: the same bundles, by cost. -/
import Derived.Test.YthelblkpfkngmaaBestPairs
import Derived.Test.YthelblkpfkngmaaSortStab
namespace Go.Proofs.Ythelblkpfkngmaa
open Go.Shelf Go.RowKit Go.Lib Go.Sort
set_option linter.unusedVariables false
set_option linter.unusedSimpArgs false

theorem row_of {w : World} {B g c : Nat} {xs : List Hd} (h : w.ownsRow B 68 2 (.slice (some ⟨g, 0, none⟩) xs.length c) xs.length (hCells xs)) : RowK encH 2 w g 0 xs.toArray := by
  refine ⟨fun x => rfl, fun x => encH_one x, ?_, (h.lt g rfl).2⟩
  intro j hj
  simp only [size_flatK, List.size_toArray] at hj
  refine ⟨?_, by rw [Nat.zero_add]; exact h.frozenAt j⟩
  rw [Nat.zero_add, h.cellAt j hj, get_flatK _ _ _ _ (by simpa using hj)]
  obtain ⟨x, hx⟩ := some_at (xs := xs) (j := j / 2) (by omega)
  obtain ⟨h1, h2⟩ := hCells_at xs (j / 2) x hx
  have hx' : xs.toArray[j / 2]! = x := by simp [hx]
  rw [hx']
  rcases Nat.mod_two_eq_zero_or_one j with e | e
  · rw [show j / 2 * 2 = j by omega] at h1
    rw [h1, e]; rfl
  · rw [show j / 2 * 2 + 1 = j by omega] at h2
    rw [h2, e]; rfl
theorem seen_of {w : World} {g : Nat} {ys : List Hd} (h : HoldsK encH 2 w g 0 ys.toArray) (hg : g < w.heap.size) : Seen w w.heap.size (some ⟨g, 0, none⟩) (hCells ys) := by
  refine .inr ⟨_, _, rfl, hg, fun j u hu => ?_⟩
  have hj := (List.getElem?_eq_some_iff.1 hu).1
  rw [hCells_length] at hj
  obtain ⟨x, hx⟩ := some_at (xs := ys) (j := j / 2) (by omega)
  obtain ⟨h1, h2⟩ := hCells_at ys (j / 2) x hx
  have hx' : ys.toArray[j / 2]! = x := by simp [hx]
  have := (h j (by simp; omega)).1
  rw [get_flatK _ _ _ _ (by simpa using hj), hx'] at this
  rw [this]
  rcases Nat.mod_two_eq_zero_or_one j with e | e
  · rw [show j / 2 * 2 = j by omega] at h1
    rw [e, ← hu, h1]; rfl
  · rw [show j / 2 * 2 + 1 = j by omega] at h2
    rw [e, ← hu, h2]; rfl
theorem swk_below {w W : World} {g : Nat} {d : Array Hd} (h : SWK encH 2 w g 0 d W) (hg : g < w.heap.size) : Go.RowKit.Below g w W := by
  obtain ⟨n, os, rfl⟩ := h
  unfold sortWorldK putRowK putRow mapBlock Sort.ahead grow
  refine ⟨rfl, rfl, rfl, by simp, fun k hk => ?_⟩
  simp only
  rw [Array.getElem?_append_left (by simp; omega), Array.getElem?_modify, if_neg (by omega)]
set_option maxHeartbeats 1000000 in
theorem sorted_any (B : Nat) (v : Value) (xs : List Hd) (w : World) (HO : Owns B [hRow v xs] w) (h1 : 1 ≤ xs.length) (hn : xs.length ≤ 1048576) :
    Calls Try.prog 41 #[v, .func (.func 42) #[] #[]] w fun e w' => ∃ A c ys, e = .returned (.tuple #[]) ∧ v = .slice A ys.length c ∧ xs.Perm ys ∧ ys.Pairwise (fun x y => x.1 ≤ y.1) ∧ Seen w' w'.heap.size A (hCells ys) ∧ ys.length ≤ c ∧ c ≤ maxLen ∧ Go.RowKit.Below B w w' := by
  have hown : w.ownsRow B 68 2 v xs.length (hCells xs) := HO.head
  rcases hown.2 with ⟨_, h0⟩ | ⟨g, cap, cur, rfl, hBg, _, hcap, hcm, _⟩
  · omega
  · have R := row_of hown
    refine (sortStable_any g 0 cap xs.toArray w R (by simp; omega)).mono ?_
    rintro e w' ⟨rfl, d, hp, hs, S⟩
    have hd : d = d.toList.toArray := rfl
    have hsz : d.toList.length = xs.length := by have := hp.1; simpa using this
    have hlt := (hown.lt g rfl).2
    have hb := swk_below S hlt
    refine ⟨_, cap, d.toList, rfl, by rw [hsz], ?_, ?_, seen_of (S.holds hlt R.hH hp.1) (Nat.lt_of_lt_of_le hlt hb.size), by omega, hcm, hb.mono hBg⟩
    · have := hp.2.2
      have h2 : xs.toArray.size = d.size := hp.1.symm
      rw [Array.extract_eq_self_of_le (by omega), Array.extract_eq_self_of_le (by omega)] at this
      exact this.symm
    · rw [List.pairwise_iff_getElem]
      intro i j hi hj hij
      have := hs i j (by omega) hij (by rw [hp.1.symm]; simpa using hj)
      have e1 : d[i]! = d.toList[i] := by simp at hi; simp [hi]
      have e2 : d[j]! = d.toList[j] := by simp at hj; simp [hj]
      rw [e1, e2] at this
      exact this
end Go.Proofs.Ythelblkpfkngmaa
