/- Canonical prefix codes in numbers: which counts have codewords, what these are, that none begins another. No program is named here. -/
import Derived.Test.YtjphfbapekdjmaaBitMath
namespace Go.Proofs.Ytjphfbapekdjmaa
set_option linter.unusedVariables false
set_option linter.unusedSimpArgs false
set_option maxRecDepth 100000

/-- From words of k + 1 bits on, c being the next code: the lengths and codes. -/
def codesFrom : Nat → Nat → List Nat → Option (List (Nat × Nat))
  | _, _, [] => some []
  | k, c, n :: ns => if c + n ≤ 2 ^ (k + 1) - 1 then (codesFrom (k + 1) (2 * (c + n)) ns).map ((List.range n).map (fun i => (k + 1, c + i)) ++ ·) else none
def codes (ns : List Nat) : Option (List (Nat × Nat)) := codesFrom 0 0 ns

/-- What has been handed out, and what is to come. -/
def CInv (ns : List Nat) (k c : Nat) (acc : List (Nat × Nat)) : Prop := codes ns = (codesFrom k c (ns.drop k)).map (acc ++ ·) ∧ c < 2 ^ (k + 1) - 1 ∧ acc.length = (ns.take k).sum
theorem CInv.start (ns : List Nat) : CInv ns 0 0 [] := ⟨by show codesFrom 0 0 ns = _; rw [List.drop_zero]; cases h : codesFrom 0 0 ns <;> simp, by decide, rfl⟩
def wordsTo (k c i : Nat) : List (Nat × Nat) := (List.range i).map fun j => (k + 1, c + j)
theorem wordsTo_length (k c i : Nat) : (wordsTo k c i).length = i := by simp [wordsTo]
theorem wordsTo_snoc (k c i : Nat) : wordsTo k c (i + 1) = wordsTo k c i ++ [(k + 1, c + i)] := by simp [wordsTo, List.range_succ]
theorem drop_nat {ns : List Nat} {k n : Nat} (h : ns[k]? = some n) : ns.drop k = n :: ns.drop (k + 1) := by
  obtain ⟨hk, e⟩ := List.getElem?_eq_some_iff.1 h
  rw [List.drop_eq_getElem_cons hk, e]
theorem CInv.fail {ns : List Nat} {k c n : Nat} {acc : List (Nat × Nat)} (h : CInv ns k c acc) (hn : ns[k]? = some n) {i : Nat} (hi : i < n) (hc : 2 ^ (k + 1) - 1 ≤ c + i) : codes ns = none := by
  rw [h.1, drop_nat hn]
  unfold codesFrom
  rw [if_neg (by omega)]
  rfl
theorem take_sum {ns : List Nat} {k n : Nat} (h : ns[k]? = some n) : (ns.take (k + 1)).sum = (ns.take k).sum + n := by
  rw [List.take_add_one, h]; simp [List.sum_append]
theorem CInv.next {ns : List Nat} {k c n : Nat} {acc : List (Nat × Nat)} (h : CInv ns k c acc) (hn : ns[k]? = some n) (hc : c + n ≤ 2 ^ (k + 1) - 1) : CInv ns (k + 1) (2 * (c + n)) (acc ++ wordsTo k c n) := by
  refine ⟨?_, ?_, ?_⟩
  · rw [h.1, drop_nat hn]
    conv => lhs; unfold codesFrom
    rw [if_pos hc]
    cases codesFrom (k + 1) (2 * (c + n)) (ns.drop (k + 1)) <;> simp [wordsTo]
  · have : 2 ^ (k + 1 + 1) = 2 * 2 ^ (k + 1) := by rw [Nat.pow_succ]; omega
    have h2 : 0 < 2 ^ (k + 1) := Nat.pow_pos (by omega)
    omega
  · rw [List.length_append, h.2.2, wordsTo_length, take_sum hn]
theorem CInv.done {ns : List Nat} {c : Nat} {acc : List (Nat × Nat)} (h : CInv ns ns.length c acc) : codes ns = some acc := by
  rw [h.1, List.drop_length]
  simp [codesFrom]
theorem codes_length {ns : List Nat} {l : List (Nat × Nat)} (h : codes ns = some l) : l.length = ns.sum := by
  have key : ∀ (ns : List Nat) (k c : Nat) (l : List (Nat × Nat)), codesFrom k c ns = some l → l.length = ns.sum := by
    intro ns
    induction ns with
    | nil => intro k c l h; simp [codesFrom] at h; subst h; rfl
    | cons n ns ih =>
      intro k c l h
      unfold codesFrom at h
      split at h
      · cases hq : codesFrom (k + 1) (2 * (c + n)) ns with
        | none => simp [hq] at h
        | some m => simp [hq] at h; subst h; simp [ih _ _ _ hq]
      · cases h
  exact key ns 0 0 l h

/-- Each word lies right behind the one ahead; all of them leave room. -/
def Kr : Nat → List (Nat × Nat) → Prop
  | R, [] => R < 65536
  | R, p :: l => 1 ≤ p.1 ∧ p.1 ≤ 16 ∧ p.2 * 2 ^ (16 - p.1) = R ∧ (∀ q ∈ l, p.1 ≤ q.1) ∧ Kr (R + 2 ^ (16 - p.1)) l
theorem Kr.level {k : Nat} (hk : k < 16) (rest : List (Nat × Nat)) (hlong : ∀ q ∈ rest, k + 1 ≤ q.1) : ∀ (n c : Nat), Kr ((c + n) * 2 ^ (15 - k)) rest → Kr (c * 2 ^ (15 - k)) (wordsTo k c n ++ rest) := by
  intro n
  induction n with
  | zero => intro c h; simpa [wordsTo] using h
  | succ n ih =>
    intro c h
    have e : wordsTo k c (n + 1) = (k + 1, c) :: wordsTo k (c + 1) n := by
      simp only [wordsTo, List.range_succ_eq_map, List.map_cons, List.map_map, Nat.add_zero]
      congr 1
      apply List.map_congr_left
      intro j _
      simp only [Function.comp_apply, Prod.mk.injEq, true_and]
      omega
    rw [e, List.cons_append]
    refine ⟨by simp, by simp; omega, by show c * 2 ^ (16 - (k + 1)) = _; rw [show 16 - (k + 1) = 15 - k by omega], ?_, ?_⟩
    · intro q hq
      rcases List.mem_append.1 hq with hq | hq
      · simp [wordsTo] at hq
        obtain ⟨_, _, rfl⟩ := hq
        simp
      · exact hlong q hq
    · have h2 := ih (c + 1) (by rw [show c + 1 + n = c + (n + 1) by omega]; exact h)
      have e2 : c * 2 ^ (15 - k) + 2 ^ (16 - (k + 1)) = (c + 1) * 2 ^ (15 - k) := by rw [Nat.add_mul, Nat.one_mul, show 16 - (k + 1) = 15 - k by omega]
      simp only
      rw [e2]
      exact h2
def roomOf : Nat → List Nat → Nat
  | _, [] => 0
  | k, n :: ns => n * 2 ^ (15 - k) + roomOf (k + 1) ns
theorem codesFrom_kr : ∀ (ns : List Nat) (k c : Nat) (l : List (Nat × Nat)), k + ns.length = 16 → c < 2 ^ (k + 1) - 1 → codesFrom k c ns = some l → Kr (if k < 16 then c * 2 ^ (15 - k) else c / 2) l ∧ (∀ q ∈ l, k + 1 ≤ q.1) := by
  intro ns
  induction ns with
  | nil =>
    intro k c l hk hc h
    simp at hk
    subst hk
    simp [codesFrom] at h
    subst h
    refine ⟨?_, by simp⟩
    show _ < 65536
    simp only [Nat.lt_irrefl, if_false]
    have : 2 ^ (16 + 1) = 131072 := by decide
    omega
  | cons n ns ih =>
    intro k c l hk hc h
    simp at hk
    have hk16 : k < 16 := by omega
    unfold codesFrom at h
    split at h
    · rename_i hcn
      cases hq : codesFrom (k + 1) (2 * (c + n)) ns with
      | none => simp [hq] at h
      | some m =>
        simp [hq] at h
        subst h
        have hp : 2 ^ (k + 1 + 1) = 2 * 2 ^ (k + 1) := by rw [Nat.pow_succ]; omega
        have h0 : 0 < 2 ^ (k + 1) := Nat.pow_pos (by omega)
        obtain ⟨h1, h2⟩ := ih (k + 1) (2 * (c + n)) m (by omega) (by omega) hq
        have hR : (if k + 1 < 16 then 2 * (c + n) * 2 ^ (15 - (k + 1)) else 2 * (c + n) / 2) = (c + n) * 2 ^ (15 - k) := by
          split
          · rename_i h15
            rw [show 15 - k = (15 - (k + 1)) + 1 by omega, Nat.pow_succ]
            rw [Nat.mul_comm 2, Nat.mul_assoc, Nat.mul_comm 2]
          · have : k = 15 := by omega
            subst this
            simp
        rw [hR] at h1
        rw [if_pos hk16]
        refine ⟨Kr.level hk16 m (fun q hq' => by have := h2 q hq'; omega) n c h1, ?_⟩
        intro q hq'
        rcases List.mem_append.1 hq' with hq' | hq'
        · simp at hq'
          obtain ⟨_, _, rfl⟩ := hq'
          simp
        · have := h2 q hq'; omega
    · cases h
theorem codes_kr {ns : List Nat} {l : List (Nat × Nat)} (hn : ns.length = 16) (h : codes ns = some l) : Kr 0 l := by
  have := (codesFrom_kr ns 0 0 l (by omega) (by decide) h).1
  simpa using this
/-- Lengths may be just where they leave room. -/
theorem codesFrom_room : ∀ (ns : List Nat) (k c : Nat), k + ns.length = 16 → c < 2 ^ (k + 1) - 1 → ((codesFrom k c ns).isSome = true ↔ (if k < 16 then c * 2 ^ (15 - k) else c / 2) + roomOf k ns < 65536) := by
  intro ns
  induction ns with
  | nil =>
    intro k c hk hc
    simp at hk
    subst hk
    have : 2 ^ (16 + 1) = 131072 := by decide
    simp [codesFrom, roomOf]
    omega
  | cons n ns ih =>
    intro k c hk hc
    simp at hk
    have hk16 : k < 16 := by omega
    have hpp : 2 ^ (k + 1) * 2 ^ (15 - k) = 65536 := by rw [← Nat.pow_add, show k + 1 + (15 - k) = 16 by omega]
    have h0 : 0 < 2 ^ (k + 1) := Nat.pow_pos (by omega)
    rw [if_pos hk16]
    unfold codesFrom roomOf
    by_cases hcn : c + n ≤ 2 ^ (k + 1) - 1
    · rw [if_pos hcn, Option.isSome_map]
      have hp : 2 ^ (k + 1 + 1) = 2 * 2 ^ (k + 1) := by rw [Nat.pow_succ]; omega
      rw [ih (k + 1) (2 * (c + n)) (by omega) (by omega)]
      have hR : (if k + 1 < 16 then 2 * (c + n) * 2 ^ (15 - (k + 1)) else 2 * (c + n) / 2) = (c + n) * 2 ^ (15 - k) := by
        split
        · rename_i h15
          rw [show 15 - k = (15 - (k + 1)) + 1 by omega, Nat.pow_succ]
          rw [Nat.mul_comm 2, Nat.mul_assoc, Nat.mul_comm 2]
        · have : k = 15 := by omega
          subst this
          simp
      rw [hR, Nat.add_mul, Nat.add_assoc]
    · rw [if_neg hcn]
      have h1 : 2 ^ (k + 1) * 2 ^ (15 - k) ≤ (c + n) * 2 ^ (15 - k) := Nat.mul_le_mul_right _ (by omega)
      rw [Nat.add_mul] at h1
      simp
      omega
theorem codes_room {ns : List Nat} (hn : ns.length = 16) : (codes ns).isSome = true ↔ roomOf 0 ns < 65536 := by
  have := codesFrom_room ns 0 0 (by omega) (by decide)
  simpa [codes] using this

/-! ### no word begins another one -/
theorem Kr.lt {R : Nat} {l : List (Nat × Nat)} (h : Kr R l) : R < 65536 := by
  induction l generalizing R with
  | nil => exact h
  | cons p l ih => exact Nat.lt_of_le_of_lt (Nat.le_add_right _ _) (ih h.2.2.2.2)
theorem Kr.ge {R : Nat} {l : List (Nat × Nat)} (h : Kr R l) : ∀ p ∈ l, 1 ≤ p.1 ∧ p.1 ≤ 16 ∧ R ≤ p.2 * 2 ^ (16 - p.1) ∧ p.2 * 2 ^ (16 - p.1) + 2 ^ (16 - p.1) < 65536 := by
  induction l generalizing R with
  | nil => simp
  | cons q l ih =>
    obtain ⟨h1, h2, h3, h4, h5⟩ := h
    intro p hp
    rcases List.mem_cons.1 hp with rfl | hp
    · exact ⟨h1, h2, by omega, by have := h5.lt; omega⟩
    · have := ih h5 p hp
      exact ⟨this.1, this.2.1, Nat.le_trans (Nat.le_add_right _ _) this.2.2.1, this.2.2.2⟩
theorem Kr.small {R : Nat} {l : List (Nat × Nat)} (h : Kr R l) {p : Nat × Nat} (hp : p ∈ l) : p.2 + 1 < 2 ^ p.1 := by
  obtain ⟨h1, h2, h3, h4⟩ := h.ge p hp
  have e : 2 ^ p.1 * 2 ^ (16 - p.1) = 65536 := by rw [← Nat.pow_add, show p.1 + (16 - p.1) = 16 by omega]
  rcases Nat.lt_or_ge (p.2 + 1) (2 ^ p.1) with h5 | h5
  · exact h5
  · have := Nat.mul_le_mul_right (2 ^ (16 - p.1)) h5
    rw [Nat.add_mul, e] at this
    omega
/-- Of two words the later one lies behind the earlier one. -/
theorem Kr.apart {R : Nat} {l : List (Nat × Nat)} (h : Kr R l) : l.Pairwise fun p q => p.1 ≤ q.1 ∧ p.2 * 2 ^ (16 - p.1) + 2 ^ (16 - p.1) ≤ q.2 * 2 ^ (16 - q.1) := by
  induction l generalizing R with
  | nil => exact .nil
  | cons p l ih =>
    obtain ⟨h1, h2, h3, h4, h5⟩ := h
    refine List.pairwise_cons.2 ⟨fun q hq => ⟨h4 q hq, ?_⟩, ih h5⟩
    have := (h5.ge q hq).2.2.1
    omega
theorem shift_ne {a b c d : Nat} (hab : a ≤ b) (hb : b ≤ 16) (h : c * 2 ^ (16 - a) + 2 ^ (16 - a) ≤ d * 2 ^ (16 - b)) : c < d / 2 ^ (b - a) := by
  have e : 2 ^ (16 - a) = 2 ^ (b - a) * 2 ^ (16 - b) := by rw [← Nat.pow_add]; congr 1; omega
  have h0 : 0 < 2 ^ (16 - b) := Nat.pow_pos (by omega)
  have h1 : 0 < 2 ^ (b - a) := Nat.pow_pos (by omega)
  rw [e] at h
  have h2 : (c + 1) * 2 ^ (b - a) * 2 ^ (16 - b) ≤ d * 2 ^ (16 - b) := by
    rw [Nat.add_mul, Nat.add_mul, Nat.one_mul, Nat.mul_assoc]; exact h
  have h3 := Nat.le_of_mul_le_mul_right h2 h0
  have := (Nat.le_div_iff_mul_le h1).2 h3
  omega
/-- No word begins another one. -/
theorem Kr.noFront {R : Nat} {l : List (Nat × Nat)} (h : Kr R l) {i k : Nat} {p q : Nat × Nat} (hp : l[i]? = some p) (hq : l[k]? = some q) (hne : i ≠ k) (hle : p.1 ≤ q.1) : q.2 / 2 ^ (q.1 - p.1) ≠ p.2 := by
  have ha := List.pairwise_iff_getElem.1 h.apart
  obtain ⟨hi, rfl⟩ := List.getElem?_eq_some_iff.1 hp
  obtain ⟨hk, rfl⟩ := List.getElem?_eq_some_iff.1 hq
  rcases Nat.lt_or_gt_of_ne hne with hlt | hlt
  · have h1 := ha i k hi hk hlt
    have h2 := (h.ge _ (List.getElem_mem hk)).2.1
    have := shift_ne h1.1 h2 h1.2
    omega
  · have h1 := ha k i hk hi hlt
    have h2 := (h.ge _ (List.getElem_mem hi)).2.1
    have h3 : (l[i]).1 = (l[k]).1 := by omega
    have := shift_ne h1.1 h2 h1.2
    rw [h3] at this ⊢
    simp at this ⊢
    omega
/-- The bits of one begin those of another: they are one. -/
theorem Kr.bits {R : Nat} {l : List (Nat × Nat)} (h : Kr R l) {i k : Nat} {p q : Nat × Nat} (hp : l[i]? = some p) (hq : l[k]? = some q) {b : List Bool} (h1 : bitsN p.1 p.2 <+: b) (h2 : bitsN q.1 q.2 <+: b) : i = k := by
  have key : ∀ {i k : Nat} {p q : Nat × Nat}, l[i]? = some p → l[k]? = some q → bitsN p.1 p.2 <+: b → bitsN q.1 q.2 <+: b → p.1 ≤ q.1 → i = k := by
    intro i k p q hp hq h1 h2 hle
    refine Classical.byContradiction fun hne => h.noFront hp hq hne hle ?_
    have h3 : bitsN p.1 p.2 <+: bitsN q.1 q.2 := List.prefix_of_prefix_length_le h1 h2 (by rw [bitsN_length, bitsN_length]; exact hle)
    have e : bitsN q.1 q.2 = bitsN p.1 (q.2 / 2 ^ (q.1 - p.1)) ++ bitsN (q.1 - p.1) q.2 := by
      rw [← bitsN_add]; congr 1; omega
    rw [e] at h3
    have h4 := List.prefix_iff_eq_take.1 h3
    rw [List.take_left' (by rw [bitsN_length, bitsN_length])] at h4
    have hpm := h.small (List.mem_of_getElem? hp)
    have hqm := h.small (List.mem_of_getElem? hq)
    refine (bitsN_inj (by omega) ?_ h4).symm
    have h0 : 0 < 2 ^ (q.1 - p.1) := Nat.pow_pos (by omega)
    rw [Nat.div_lt_iff_lt_mul h0, ← Nat.pow_add, show p.1 + (q.1 - p.1) = q.1 by omega]
    omega
  rcases Nat.le_total p.1 q.1 with hle | hle
  · exact key hp hq h1 h2 hle
  · exact (key hq hp h2 h1 hle).symm
end Go.Proofs.Ytjphfbapekdjmaa
