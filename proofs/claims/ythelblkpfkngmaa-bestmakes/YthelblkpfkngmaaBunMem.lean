/- Bundles in memory: what a row of them reads as. No program is named here but by the comparison's text. -/
import Derived.Test.YthelblkpfkngmaaConcat
import Derived.Test.YthelblkpfkngmaaPMath
import Derived.Test.YthelblkpfkngmaaSortCmp
namespace Go.Proofs.Ythelblkpfkngmaa
open Go.RowKit
set_option linter.unusedVariables false
set_option linter.unusedSimpArgs false

def hCells (xs : List Hd) : List Value := xs.flatMap encH
theorem hCells_length (xs : List Hd) : (hCells xs).length = xs.length * 2 := by
  induction xs with
  | nil => rfl
  | cons x xs ih => simp [hCells, encH] at ih ⊢; omega
theorem hCells_append (xs ys : List Hd) : hCells (xs ++ ys) = hCells xs ++ hCells ys := by simp [hCells]
theorem hCells_one {xs : List Hd} : ∀ u ∈ hCells xs, u.oneCell' = true := by
  intro u hu
  simp only [hCells, List.mem_flatMap] at hu
  obtain ⟨x, _, hu⟩ := hu
  exact encH_one x u hu
theorem hCells_at (xs : List Hd) (j : Nat) (x : Hd) (h : xs[j]? = some x) : (hCells xs)[j * 2]? = some (.int .i64 x.1) ∧ (hCells xs)[j * 2 + 1]? = some (.slice x.2.1 x.2.2.1 x.2.2.2) := by
  induction xs generalizing j with
  | nil => simp at h
  | cons y xs ih =>
    cases j with
    | zero => simp at h; subst h; simp [hCells, encH]
    | succ j =>
      rw [List.getElem?_cons_succ] at h
      have := ih j h
      have e : hCells (y :: xs) = encH y ++ hCells xs := by simp [hCells]
      rw [e, List.getElem?_append_right (by simp [encH]; omega), List.getElem?_append_right (by simp [encH]; omega)]
      simp only [encH, List.length_cons, List.length_nil, Nat.zero_add, Nat.reduceAdd]
      rw [show (j + 1) * 2 - 2 = j * 2 by omega, show (j + 1) * 2 + 1 - 2 = j * 2 + 1 by omega]
      exact this
/-- One bundle behind its header. -/
def BunIs (w : World) (G : Nat) (b : Bun) (x : Hd) : Prop := x.1 = (b.1 : Int) ∧ x.2.2.1 = b.2.length ∧ Seen w G x.2.1 (ints .i64 b.2)
def BunsAre (w : World) (G : Nat) (l : List Bun) (xs : List Hd) : Prop := l.length = xs.length ∧ ∀ (j : Nat) (b : Bun) (x : Hd), l[j]? = some b → xs[j]? = some x → BunIs w G b x
section
variable {w w' : World} {G G' C : Nat} {l m : List Bun} {xs ys : List Hd}
theorem BunIs.below {b : Bun} {x : Hd} (h : BunIs w G b x) (hb : Below C w w') (hG : G ≤ C) : BunIs w' G b x := ⟨h.1, h.2.1, h.2.2.below hb hG⟩
theorem BunIs.up {b : Bun} {x : Hd} (h : BunIs w G b x) (hG : G ≤ G') : BunIs w G' b x := ⟨h.1, h.2.1, h.2.2.up hG⟩
theorem BunsAre.below (h : BunsAre w G l xs) (hb : Below C w w') (hG : G ≤ C) : BunsAre w' G l xs := ⟨h.1, fun j b x h1 h2 => (h.2 j b x h1 h2).below hb hG⟩
theorem BunsAre.up (h : BunsAre w G l xs) (hG : G ≤ G') : BunsAre w G' l xs := ⟨h.1, fun j b x h1 h2 => (h.2 j b x h1 h2).up hG⟩
theorem BunsAre.nil (w : World) (G : Nat) : BunsAre w G [] [] := ⟨rfl, by simp⟩
theorem BunsAre.append (h : BunsAre w G l xs) (h2 : BunsAre w G m ys) : BunsAre w G (l ++ m) (xs ++ ys) := by
  refine ⟨by simp [h.1, h2.1], fun j b x hb hx => ?_⟩
  by_cases hj : j < l.length
  · rw [List.getElem?_append_left hj] at hb
    rw [List.getElem?_append_left (by rw [← h.1]; exact hj)] at hx
    exact h.2 j b x hb hx
  · rw [List.getElem?_append_right (by omega)] at hb
    rw [List.getElem?_append_right (by rw [← h.1]; omega), ← h.1] at hx
    exact h2.2 _ b x hb hx
theorem BunsAre.take (h : BunsAre w G l xs) (n : Nat) : BunsAre w G (l.take n) (xs.take n) := by
  refine ⟨by simp [h.1], fun j b x hb hx => ?_⟩
  rw [List.getElem?_take] at hb hx
  by_cases hj : j < n
  · rw [if_pos hj] at hb hx; exact h.2 j b x hb hx
  · rw [if_neg hj] at hb; cases hb
theorem BunsAre.at (h : BunsAre w G l xs) {j : Nat} (hj : j < l.length) : ∃ b A c, l[j]? = some b ∧ xs[j]? = some ((b.1 : Int), A, b.2.length, c) ∧ Seen w G A (ints .i64 b.2) := by
  obtain ⟨b, hb⟩ := some_at hj
  obtain ⟨⟨x1, xA, xn, xc⟩, hx⟩ := some_at (xs := xs) (j := j) (by rw [← h.1]; exact hj)
  obtain ⟨h1, h2, h3⟩ := h.2 j b _ hb hx
  simp only at h1 h2 h3
  subst h1 h2
  exact ⟨b, xA, xc, hb, hx, h3⟩
/-- The same headers in another order: the same bundles in that order. -/
theorem BunsAre.perm (h : BunsAre w G l xs) (hp : xs.Perm ys) : ∃ m, l.Perm m ∧ BunsAre w G m ys := by
  induction hp generalizing l with
  | nil => exact ⟨l, .refl _, h⟩
  | @cons x xs ys hp ih =>
    cases l with
    | nil => have := h.1; simp at this
    | cons b l =>
      obtain ⟨m, h1, h2⟩ := ih (l := l) ⟨by have := h.1; simpa using this, fun j b' x' hb hx => h.2 (j + 1) b' x' (by simpa using hb) (by simpa using hx)⟩
      refine ⟨b :: m, h1.cons b, by simp [h2.1], fun j b' x' hb hx => ?_⟩
      cases j with
      | zero => exact h.2 0 b' x' hb hx
      | succ j => exact h2.2 j b' x' (by simpa using hb) (by simpa using hx)
  | swap x y xs =>
    match l, h with
    | [], h => have := h.1; simp at this
    | [_], h => have := h.1; simp at this
    | b :: c :: l, h =>
      refine ⟨c :: b :: l, .swap _ _ _, by have := h.1; simpa using this, fun j b' x' hb hx => ?_⟩
      match j with
      | 0 => exact h.2 1 b' x' (by simpa using hb) (by simpa using hx)
      | 1 => exact h.2 0 b' x' (by simpa using hb) (by simpa using hx)
      | j + 2 => exact h.2 (j + 2) b' x' (by simpa using hb) (by simpa using hx)
  | trans _ _ ih1 ih2 =>
    obtain ⟨m1, h1, h2⟩ := ih1 h
    obtain ⟨m2, h3, h4⟩ := ih2 h2
    exact ⟨m2, h1.trans h3, h4⟩
end
/-- One header of a row, with its two cells. -/
theorem Seen.hd {w : World} {B : Nat} {A : Option Addr} {xs : List Hd} (h : Seen w B A (hCells xs)) {k : Nat} {x : Hd} (hx : xs[k]? = some x) :
    ∃ g o, A = some ⟨g, o, none⟩ ∧ g < B ∧ w.cell? ⟨g, o + k * 2, none⟩ = some (.int .i64 x.1) ∧ w.cell? ⟨g, o + k * 2 + 1, none⟩ = some (.slice x.2.1 x.2.2.1 x.2.2.2) := by
  obtain ⟨h1, h2⟩ := hCells_at xs k x hx
  obtain ⟨g, o, e, hg, hc⟩ := h.at (by have := (List.getElem?_eq_some_iff.1 h1).1; omega)
  exact ⟨g, o, e, hg, hc _ _ h1, hc _ _ h2⟩
end Go.Proofs.Ythelblkpfkngmaa
