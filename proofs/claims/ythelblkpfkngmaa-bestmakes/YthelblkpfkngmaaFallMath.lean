/- Sorting by insertion, falling: one exchange. No program is named here. -/
import Derived.Test.YthelblkpfkngmaaMem
namespace Go.Proofs.Ythelblkpfkngmaa
set_option linter.unusedVariables false
set_option linter.unusedSimpArgs false

/-- The first i fall. -/
def Falls (l : List Int) (i : Nat) : Prop := ∀ (a b : Nat) (x y : Int), a < b → b < i → l[a]? = some x → l[b]? = some y → y ≤ x
/-- The first i + 1 fall but for what stands at k, which may be greater than what stands ahead. -/
def FallIns (l : List Int) (k i : Nat) : Prop := ∀ (a b : Nat) (x y : Int), a < b → b ≤ i → b ≠ k → l[a]? = some x → l[b]? = some y → y ≤ x
theorem FallIns.start {l : List Int} {i : Nat} (h : Falls l i) : FallIns l i i := fun a b x y h1 h2 h3 h4 h5 => h a b x y h1 (by omega) h4 h5
theorem swap_parts {l : List Int} {k : Nat} {x y : Int} (hy : l[k]? = some y) (hx : l[k + 1]? = some x) : ∃ p q, l = p ++ y :: x :: q ∧ p.length = k ∧ (l.set (k + 1) y).set k x = p ++ x :: y :: q := by
  have hk := (List.getElem?_eq_some_iff.1 hx).1
  have e1 : l = l.take k ++ l.drop k := (List.take_append_drop k l).symm
  have e2 : l.drop k = y :: l.drop (k + 1) := by
    rw [List.drop_eq_getElem_cons (by omega), (List.getElem?_eq_some_iff.1 hy).2]
  have e3 : l.drop (k + 1) = x :: l.drop (k + 2) := by
    rw [List.drop_eq_getElem_cons hk, (List.getElem?_eq_some_iff.1 hx).2]
  have hl : (l.take k).length = k := by rw [List.length_take]; omega
  have e : l = l.take k ++ y :: x :: l.drop (k + 2) := by
    conv => lhs; rw [e1, e2, e3]
  refine ⟨l.take k, l.drop (k + 2), e, hl, ?_⟩
  generalize l.take k = p at *
  generalize l.drop (k + 2) = q at *
  subst hl
  rw [e]
  simp [List.set_append]
theorem swap_perm {l : List Int} {k : Nat} {x y : Int} (hy : l[k]? = some y) (hx : l[k + 1]? = some x) : ((l.set (k + 1) y).set k x).Perm l := by
  obtain ⟨p, q, e, _, e2⟩ := swap_parts hy hx
  rw [e2, e]
  exact (List.Perm.swap y x q).append_left p
theorem swap_at {l : List Int} {k : Nat} {x y : Int} (hy : l[k]? = some y) (hx : l[k + 1]? = some x) (j : Nat) : ((l.set (k + 1) y).set k x)[j]? = if j = k then some x else if j = k + 1 then some y else l[j]? := by
  have hk := (List.getElem?_eq_some_iff.1 hx).1
  by_cases h1 : j = k
  · subst h1; rw [if_pos rfl, List.getElem?_set_self (by simp; omega)]
  · rw [if_neg h1, List.getElem?_set_ne (fun e => h1 e.symm)]
    by_cases h2 : j = k + 1
    · subst h2; rw [if_pos rfl, List.getElem?_set_self hk]
    · rw [if_neg h2, List.getElem?_set_ne (fun e => h2 e.symm)]
theorem FallIns.swap {l : List Int} {k i : Nat} {x y : Int} (h : FallIns l (k + 1) i) (hi : k + 1 ≤ i) (hy : l[k]? = some y) (hx : l[k + 1]? = some x) (hlt : y < x) : FallIns ((l.set (k + 1) y).set k x) k i := by
  intro a b u v hab hb hbk ha hv
  rw [swap_at hy hx] at ha hv
  rw [if_neg hbk] at hv
  by_cases hb1 : b = k + 1
  · rw [if_pos hb1] at hv
    injection hv with hv
    subst hv
    by_cases ha1 : a = k
    · rw [if_pos ha1] at ha; injection ha with ha; omega
    · rw [if_neg ha1, if_neg (by omega)] at ha
      exact h a k u y (by omega) (by omega) (by omega) ha hy
  · rw [if_neg hb1] at hv
    by_cases ha1 : a = k
    · rw [if_pos ha1] at ha
      injection ha with ha; subst ha
      exact h (k + 1) b x v (by omega) hb hb1 hx hv
    · rw [if_neg ha1] at ha
      by_cases ha2 : a = k + 1
      · rw [if_pos ha2] at ha
        injection ha with ha; subst ha
        exact h k b y v (by omega) hb hb1 hy hv
      · rw [if_neg ha2] at ha
        exact h a b u v hab hb hb1 ha hv
theorem FallIns.zero {l : List Int} {i : Nat} (h : FallIns l 0 i) : Falls l (i + 1) := fun a b x y h1 h2 h3 h4 => h a b x y h1 (by omega) (by omega) h3 h4
theorem FallIns.stop {l : List Int} {k i : Nat} {x y : Int} (h : FallIns l (k + 1) i) (hi : k + 1 ≤ i) (hy : l[k]? = some y) (hx : l[k + 1]? = some x) (hle : x ≤ y) : Falls l (i + 1) := by
  intro a b u v hab hb ha hv
  by_cases hb1 : b = k + 1
  · subst hb1
    rw [hx] at hv; injection hv with hv; subst hv
    by_cases ha1 : a = k
    · subst ha1; rw [hy] at ha; injection ha with ha; omega
    · have := h a k u y (by omega) (by omega) (by omega) ha hy
      omega
  · exact h a b u v hab (by omega) hb1 ha hv
theorem Falls.pairwise {l : List Int} (h : Falls l l.length) : l.Pairwise (fun x y => y ≤ x) := by
  rw [List.pairwise_iff_getElem]
  intro i j hi hj hij
  exact h i j _ _ hij hj (List.getElem?_eq_getElem hi) (List.getElem?_eq_getElem hj)
end Go.Proofs.Ythelblkpfkngmaa
