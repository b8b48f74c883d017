/- Packages that are merged (Larmore, Hirschberg), in numbers: the lengths that they give leave room, and no lengths that leave room cost less. No program is named here. -/
namespace Go.Proofs.Ythelblkpfkngmaa
set_option linter.unusedVariables false
set_option linter.unusedSimpArgs false

/-- A bundle: its cost and its symbols. -/
abbrev Bun : Type := Nat × List Int
def mergeB (a b : Bun) : Bun := (a.1 + b.1, a.2 ++ b.2)
def pairsOf : List Bun → List Bun
  | a :: b :: l => mergeB a b :: pairsOf l
  | _ => []
def Asc (l : List Bun) : Prop := l.Pairwise fun a b => a.1 ≤ b.1
def sumC (l : List Bun) : Nat := (l.map (·.1)).sum
def flatB (l : List Bun) : List Int := l.flatMap (·.2)
/-- A sum over symbols. -/
def sumF {α : Type} (l : List α) (f : α → Nat) : Nat := (l.map f).sum
/-- How much room a symbol takes that is longer t times, in units of which 65536 are one place of the last round. -/
def wid (t : Nat) : Nat := 131072 - 2 ^ (17 - t)
def single1 (w : Int → Nat) (i : Int) : Bun := (w i, [i])
def singlesOf (w : Int → Nat) (idx : List Int) : List Bun := idx.map (single1 w)
/-- j rounds of merging. -/
inductive Chain (w : Int → Nat) (idx : List Int) : Nat → List Bun → Prop
  | zero : Chain w idx 0 []
  | succ {j : Nat} {l q : List Bun} : Chain w idx j l → q.Perm (singlesOf w idx ++ pairsOf l) → Asc q → Chain w idx (j + 1) q

section
variable {α : Type} {l m : List α} {f g : α → Nat}
theorem sumF_nil (f : α → Nat) : sumF [] f = 0 := rfl
theorem sumF_cons (a : α) (l : List α) (f : α → Nat) : sumF (a :: l) f = f a + sumF l f := by simp [sumF]
theorem sumF_append (l m : List α) (f : α → Nat) : sumF (l ++ m) f = sumF l f + sumF m f := by simp [sumF, List.sum_append]
theorem sumF_add (l : List α) (f g : α → Nat) : sumF l (fun x => f x + g x) = sumF l f + sumF l g := by
  induction l with
  | nil => rfl
  | cons a l ih => simp only [sumF_cons, ih]; omega
theorem sumF_mul (l : List α) (f : α → Nat) (c : Nat) : sumF l (fun x => c * f x) = c * sumF l f := by
  induction l with
  | nil => rfl
  | cons a l ih => simp only [sumF_cons, ih, Nat.mul_add]
theorem sumF_le (h : ∀ x ∈ l, f x ≤ g x) : sumF l f ≤ sumF l g := by
  induction l with
  | nil => exact Nat.le_refl _
  | cons a l ih =>
    have h1 := h a (by simp)
    have h2 := ih fun x hx => h x (by simp [hx])
    simp only [sumF_cons]; omega
theorem sumF_congr (h : ∀ x ∈ l, f x = g x) : sumF l f = sumF l g := by
  unfold sumF; rw [List.map_congr_left h]
theorem sumF_perm (h : l.Perm m) (f : α → Nat) : sumF l f = sumF m f := (h.map f).sum_nat
theorem sumF_const (l : List α) (c : Nat) : sumF l (fun _ => c) = c * l.length := by
  induction l with
  | nil => rfl
  | cons a l ih => simp only [sumF_cons, ih, List.length_cons, Nat.mul_add]; omega
theorem sumF_filter (l : List α) (p : α → Bool) (f : α → Nat) : sumF (l.filter p) f = sumF l fun x => if p x then f x else 0 := by
  induction l with
  | nil => rfl
  | cons a l ih =>
    rw [sumF_cons]
    cases h : p a with
    | false => rw [List.filter_cons_of_neg (by simp [h]), ih]; simp
    | true => rw [List.filter_cons_of_pos h, sumF_cons, ih]; simp
theorem sumF_pos (x : α) (hx : x ∈ l) : f x ≤ sumF l f := by
  induction l with
  | nil => cases hx
  | cons a l ih =>
    rw [sumF_cons]
    rcases List.mem_cons.1 hx with rfl | hx
    · omega
    · have := ih hx; omega
end

theorem sumC_eq (l : List Bun) : sumC l = sumF l (·.1) := rfl
theorem sumC_append (l m : List Bun) : sumC (l ++ m) = sumC l + sumC m := sumF_append _ _ _
theorem sumC_cons (a : Bun) (l : List Bun) : sumC (a :: l) = a.1 + sumC l := sumF_cons _ _ _
theorem sumC_perm {l m : List Bun} (h : l.Perm m) : sumC l = sumC m := sumF_perm h _
theorem flatB_append (l m : List Bun) : flatB (l ++ m) = flatB l ++ flatB m := by simp [flatB]
theorem flatB_cons (a : Bun) (l : List Bun) : flatB (a :: l) = a.2 ++ flatB l := by simp [flatB]
theorem flatB_perm {l m : List Bun} (h : l.Perm m) : (flatB l).Perm (flatB m) := h.flatMap_right _

/-- Two steps at a time. -/
theorem two_ind {α : Type} {P : List α → Prop} (h0 : P []) (h1 : ∀ a, P [a]) (h2 : ∀ a b l, P l → P (a :: b :: l)) : ∀ l, P l
  | [] => h0
  | [a] => h1 a
  | a :: b :: l => h2 a b l (two_ind h0 h1 h2 l)
theorem pairsOf_length (l : List Bun) : (pairsOf l).length = l.length / 2 := by
  induction l using two_ind with
  | h0 => rfl
  | h1 a => simp [pairsOf]
  | h2 a b l ih => simp [pairsOf, ih]; omega
theorem pairsOf_take (l : List Bun) : ∀ q, sumC ((pairsOf l).take q) = sumC (l.take (2 * (min q (l.length / 2)))) := by
  induction l using two_ind with
  | h0 => intro q; simp [pairsOf]
  | h1 a => intro q; simp [pairsOf]
  | h2 a b l ih =>
    intro q
    cases q with
    | zero => simp
    | succ q =>
      have e : 2 * min (q + 1) ((a :: b :: l).length / 2) = 2 * min q (l.length / 2) + 1 + 1 := by simp; omega
      rw [e]
      simp only [pairsOf, List.take_succ_cons, sumC_cons, ih q, mergeB]
      omega
theorem mem_perm {α : Type} {a : α} {l : List α} (h : a ∈ l) : ∃ m, l.Perm (a :: m) := by
  obtain ⟨s, t, rfl⟩ := List.append_of_mem h
  exact ⟨s ++ t, List.perm_middle⟩
/-- Of a sorted list the first ones cost least. -/
theorem least {q : List Bun} (hq : Asc q) : ∀ (m : Nat) (x y : List Bun), q.Perm (x ++ y) → m ≤ x.length → sumC (q.take m) ≤ sumC x := by
  induction q with
  | nil => intro m x y h hm; simp [sumC]
  | cons a q ih =>
    intro m x y h hm
    cases m with
    | zero => simp [sumC]
    | succ m =>
      obtain ⟨ha, hq'⟩ := List.pairwise_cons.1 hq
      rw [List.take_succ_cons, sumC_cons]
      have hmem : a ∈ x ++ y := h.mem_iff.1 (by simp)
      rcases List.mem_append.1 hmem with hx | hy
      · obtain ⟨x', hp⟩ := mem_perm hx
        have h2 : q.Perm (x' ++ y) := by
          have : (a :: q).Perm (a :: (x' ++ y)) := h.trans (hp.append_right y)
          exact this.cons_inv
        have h3 := ih hq' m _ _ h2 (by have := hp.length_eq; simp at this; omega)
        have h4 := sumC_perm hp
        rw [sumC_cons] at h4
        omega
      · cases x with
        | nil => simp at hm
        | cons b x =>
          obtain ⟨y', hp⟩ := mem_perm hy
          have h2 : q.Perm (x ++ (b :: y')) := by
            have h5 : (a :: q).Perm (a :: (b :: x ++ y')) := by
              refine h.trans ((hp.append_left (b :: x)).trans ?_)
              exact List.perm_middle
            exact h5.cons_inv.trans List.perm_middle.symm
          have h3 := ih hq' m _ _ h2 (by simp at hm; omega)
          have h6 : a.1 ≤ b.1 := ha b (h2.mem_iff.2 (by simp))
          rw [sumC_cons]
          omega

theorem wid_zero : wid 0 = 0 := by decide
theorem wid_succ {t : Nat} (h : t ≤ 16) : 2 * wid (t + 1) = 131072 + wid t := by
  have e : 2 ^ (17 - t) = 2 * 2 ^ (17 - (t + 1)) := by rw [show 17 - t = (17 - (t + 1)) + 1 by omega, Nat.pow_succ]; omega
  have h1 : 2 ^ (17 - t) ≤ 2 ^ 17 := Nat.pow_le_pow_right (by omega) (by omega)
  have : 2 ^ 17 = 131072 := by decide
  unfold wid
  omega
theorem perm_filter {α : Type} (p : α → Bool) (l : List α) : (l.filter p ++ l.filter fun x => !p x).Perm l := List.filter_append_perm p l
theorem cross {α : Type} (a b c : List α) (n : Nat) : (a ++ b ++ c).Perm (a ++ c.take n ++ (b ++ c.drop n)) := by
  have h : (b ++ (c.take n ++ c.drop n)).Perm (c.take n ++ (b ++ c.drop n)) := by
    rw [← List.append_assoc, ← List.append_assoc]
    exact List.perm_append_comm.append_right _
  rw [List.take_append_drop] at h
  rw [List.append_assoc, List.append_assoc]
  exact h.append_left a
theorem arith0 {c m k X Y : Nat} (h1 : m * c ≤ X) (h2 : 2 * X = 2 * c * k + Y) : 2 * (m - k) * c ≤ Y := by
  rcases Nat.le_total m k with h | h
  · rw [Nat.sub_eq_zero_of_le h]; simp
  · obtain ⟨d, rfl⟩ : ∃ d, m = k + d := ⟨m - k, by omega⟩
    rw [Nat.add_sub_cancel_left]
    have e : 2 * ((k + d) * c) = 2 * c * k + 2 * d * c := by
      rw [Nat.add_mul, Nat.mul_add, ← Nat.mul_assoc 2 d c, Nat.mul_comm k c, ← Nat.mul_assoc]
    have h3 := Nat.mul_le_mul_left 2 h1
    rw [e, h2] at h3
    exact Nat.le_of_add_le_add_left h3
theorem arith1 {m k X Y : Nat} (h1 : m * 65536 ≤ X) (h2 : 2 * X = 131072 * k + Y) : 2 * (m - k) * 65536 ≤ Y := arith0 h1 (h2.trans (by rw [show 2 * 65536 = 131072 by rfl]))
/-- No lengths that leave room cost less. -/
theorem Chain.least {w : Int → Nat} {idx : List Int} {j : Nat} {l : List Bun} (h : Chain w idx j l) : j ≤ 16 → ∀ (t : Int → Nat) (m : Nat), (∀ i ∈ idx, t i ≤ j) → m * 65536 ≤ sumF idx (fun i => wid (t i)) → m ≤ l.length ∧ sumC (l.take m) ≤ sumF idx fun i => w i * t i := by
  induction h with
  | zero =>
    intro _ t m ht hm
    have : sumF idx (fun i => wid (t i)) = sumF idx fun _ => 0 := sumF_congr fun i hi => by have := ht i hi; rw [show t i = 0 by omega]; rfl
    rw [this, sumF_const] at hm
    have : m = 0 := by omega
    subst this
    exact ⟨Nat.le_refl _, by simp [sumC]⟩
  | @succ j l q h hp hq ih =>
    intro hj t m ht hm
    have e1 : 2 * sumF idx (fun i => wid (t i)) = 131072 * (idx.filter fun i => decide (1 ≤ t i)).length + sumF idx fun i => wid (t i - 1) := by
      rw [← sumF_mul, ← sumF_const, sumF_filter, ← sumF_add]
      refine sumF_congr fun i hi => ?_
      have := ht i hi
      by_cases h1 : 1 ≤ t i
      · have h2 := wid_succ (t := t i - 1) (by omega)
        rw [show t i - 1 + 1 = t i by omega] at h2
        simp [h1, h2]
      · rw [show t i = 0 by omega]; decide
    obtain ⟨k, hk⟩ : ∃ k, k = (idx.filter fun i => decide (1 ≤ t i)).length := ⟨_, rfl⟩
    rw [← hk] at e1
    have hh : 2 * (m - k) * 65536 ≤ sumF idx (fun i => wid (t i - 1)) := by
      exact arith1 hm e1
    have hh2 : ∀ i ∈ idx, t i - 1 ≤ j := fun i hi => by have := ht i hi; omega
    obtain ⟨h3, h4⟩ := ih (by omega) (fun i => t i - 1) (2 * (m - k)) hh2 hh
    have hpl := pairsOf_length l
    have hx := Go.Proofs.Ythelblkpfkngmaa.least hq m (singlesOf w (idx.filter fun i => decide (1 ≤ t i)) ++ (pairsOf l).take (m - k)) (singlesOf w (idx.filter fun i => !decide (1 ≤ t i)) ++ (pairsOf l).drop (m - k)) (by
      have p1 : (singlesOf w (idx.filter fun i => decide (1 ≤ t i)) ++ singlesOf w (idx.filter fun i => !decide (1 ≤ t i))).Perm (singlesOf w idx) := by
        rw [singlesOf, singlesOf, ← List.map_append]; exact (perm_filter _ _).map _
      refine hp.trans ((p1.symm.append_right _).trans ?_)
      exact cross _ _ (pairsOf l) (m - k)) (by
      simp [singlesOf, ← hk]; omega)
    refine ⟨?_, ?_⟩
    · have := hp.length_eq
      simp only [List.length_append, singlesOf, List.length_map] at this
      have h5 : k ≤ idx.length := by rw [hk]; exact List.length_filter_le _ _
      omega
    · refine Nat.le_trans hx ?_
      rw [sumC_append, pairsOf_take, show min (m - k) (l.length / 2) = m - k by omega]
      have e2 : sumC (singlesOf w (idx.filter fun i => decide (1 ≤ t i))) = sumF idx fun i => if decide (1 ≤ t i) then w i else 0 := by
        rw [← sumF_filter]; simp [sumC, singlesOf, sumF, single1, Function.comp_def]
      have e3 : sumF idx (fun i => w i * t i) = sumF idx (fun i => if decide (1 ≤ t i) then w i else 0) + sumF idx fun i => w i * (t i - 1) := by
        rw [← sumF_add]
        refine sumF_congr fun i _ => ?_
        by_cases h1 : 1 ≤ t i
        · simp only [h1, decide_true, if_true]
          obtain ⟨u, hu⟩ : ∃ u, t i = u + 1 := ⟨t i - 1, by omega⟩
          rw [hu, Nat.mul_add]; simp; omega
        · rw [show t i = 0 by omega]; simp
      rw [e2, e3]
      omega

/-! ### what is chosen leaves room -/
theorem pairsOf_unpack (l : List Bun) : ∀ x y : List Bun, (x ++ y).Perm (pairsOf l) → ∃ t r, (t ++ r).Perm l ∧ t.length = 2 * x.length ∧ (flatB t).Perm (flatB x) := by
  induction l using two_ind with
  | h0 =>
    intro x y h
    have := List.Perm.eq_nil h
    simp at this
    obtain ⟨rfl, rfl⟩ := this
    exact ⟨[], [], .refl _, rfl, .refl _⟩
  | h1 a =>
    intro x y h
    have : x ++ y = [] := List.Perm.eq_nil (by simpa [pairsOf] using h)
    simp at this
    obtain ⟨rfl, rfl⟩ := this
    exact ⟨[], [a], .refl _, rfl, .refl _⟩
  | h2 a b l ih =>
    intro x y h
    simp only [pairsOf] at h
    have hmem : mergeB a b ∈ x ++ y := h.mem_iff.2 (by simp)
    rcases List.mem_append.1 hmem with hx | hy
    · obtain ⟨x', hp⟩ := mem_perm hx
      have h2 : (x' ++ y).Perm (pairsOf l) := ((hp.append_right y).symm.trans h).cons_inv
      obtain ⟨t, r, h3, h4, h5⟩ := ih x' y h2
      refine ⟨a :: b :: t, r, (h3.cons b).cons a, ?_, ?_⟩
      · have := hp.length_eq; simp at this ⊢; omega
      · refine List.Perm.trans ?_ (flatB_perm hp).symm
        simp only [flatB_cons, mergeB, List.append_assoc]
        exact (h5.append_left _).append_left _
    · obtain ⟨y', hp⟩ := mem_perm hy
      have h2 : (x ++ y').Perm (pairsOf l) := by
        have : (mergeB a b :: (x ++ y')).Perm (mergeB a b :: pairsOf l) := (List.perm_middle.symm.trans (hp.append_left x).symm).trans h
        exact this.cons_inv
      obtain ⟨t, r, h3, h4, h5⟩ := ih x y' h2
      refine ⟨t, a :: b :: r, ?_, h4, h5⟩
      refine List.perm_middle.trans ((List.perm_middle.cons a).trans ?_)
      exact (h3.cons b).cons a
theorem Chain.each {w : Int → Nat} {idx : List Int} {j : Nat} {l : List Bun} (h : Chain w idx j l) : ∀ b ∈ l, b.1 = sumF b.2 w ∧ b.2 ≠ [] ∧ ∀ s ∈ b.2, s ∈ idx := by
  induction h with
  | zero => simp
  | @succ j l q h hp hq ih =>
    have hpair : ∀ l : List Bun, (∀ b ∈ l, b.1 = sumF b.2 w ∧ b.2 ≠ [] ∧ ∀ s ∈ b.2, s ∈ idx) → ∀ b ∈ pairsOf l, b.1 = sumF b.2 w ∧ b.2 ≠ [] ∧ ∀ s ∈ b.2, s ∈ idx := by
      intro l
      induction l using two_ind with
      | h0 => intro _ b hb; simp [pairsOf] at hb
      | h1 a => intro _ b hb; simp [pairsOf] at hb
      | h2 a b l ih =>
        intro hl c hc
        simp only [pairsOf, List.mem_cons] at hc
        rcases hc with rfl | hc
        · have ha := hl a (by simp)
          have hb := hl b (by simp)
          refine ⟨?_, ?_, ?_⟩
          · simp only [mergeB, sumF_append, ← ha.1, ← hb.1]
          · simp [mergeB, ha.2.1]
          · intro s hs
            simp only [mergeB, List.mem_append] at hs
            rcases hs with hs | hs
            · exact ha.2.2 s hs
            · exact hb.2.2 s hs
        · exact ih (fun x hx => hl x (by simp [hx])) c hc
    intro b hb
    rcases List.mem_append.1 (hp.mem_iff.1 hb) with hb | hb
    · simp only [singlesOf, List.mem_map] at hb
      obtain ⟨i, hi, rfl⟩ := hb
      exact ⟨by simp [single1, sumF], by simp [single1], by simpa [single1] using hi⟩
    · exact hpair l ih b hb
theorem pairs_long {w : Int → Nat} {idx : List Int} {l : List Bun} (h : ∀ b ∈ l, b.2 ≠ []) : ∀ b ∈ pairsOf l, 2 ≤ b.2.length := by
  induction l using two_ind with
  | h0 => intro b hb; simp [pairsOf] at hb
  | h1 a => intro b hb; simp [pairsOf] at hb
  | h2 a b l ih =>
    intro c hc
    simp only [pairsOf, List.mem_cons] at hc
    rcases hc with rfl | hc
    · have h1 := List.length_pos_iff.2 (h a (by simp))
      have h2 := List.length_pos_iff.2 (h b (by simp))
      simp [mergeB]; omega
    · exact ih (fun x hx => h x (by simp [hx])) c hc
/-- Over symbols that are apart, the symbols of a list by their counts. -/
theorem sum_counts {idx f : List Int} (hn : idx.Nodup) (w : Int → Nat) (hf : ∀ s ∈ f, s ∈ idx) : sumF f w = sumF idx fun i => w i * f.count i := by
  induction f with
  | nil => simp only [List.count_nil, Nat.mul_zero]; rw [sumF_const]; simp [sumF]
  | cons s f ih =>
    rw [sumF_cons, ih fun x hx => hf x (by simp [hx])]
    have key : ∀ idx : List Int, idx.Nodup → s ∈ idx → sumF idx (fun i => w i * (s :: f).count i) = w s + sumF idx fun i => w i * f.count i := by
      intro idx
      induction idx with
      | nil => intro _ h; cases h
      | cons i idx ih2 =>
        intro hn hs
        obtain ⟨h1, h2⟩ := List.nodup_cons.1 hn
        rw [sumF_cons, sumF_cons]
        by_cases e : s = i
        · subst e
          have : sumF idx (fun i => w i * (s :: f).count i) = sumF idx fun i => w i * f.count i := sumF_congr fun x hx => by
            rw [List.count_cons_of_ne (by rintro rfl; exact h1 hx)]
          rw [this, List.count_cons_self, Nat.mul_add]; omega
        · rw [ih2 h2 (by simpa [e] using hs), List.count_cons_of_ne e]; omega
    rw [key idx hn (hf s (by simp))]
theorem flat_single (w : Int → Nat) (idx : List Int) : flatB (singlesOf w idx) = idx := by
  induction idx with
  | nil => rfl
  | cons i idx ih => simp only [singlesOf, List.map_cons, flatB_cons, single1] at ih ⊢; simp [ih]
theorem Chain.room {w : Int → Nat} {idx : List Int} (hn : idx.Nodup) {j : Nat} {l : List Bun} (h : Chain w idx j l) : j ≤ 16 → ∀ t r : List Bun, (t ++ r).Perm l → (∀ i ∈ idx, (flatB t).count i ≤ j) ∧ t.length * 65536 ≤ sumF idx fun i => wid ((flatB t).count i) := by
  induction h with
  | zero =>
    intro _ t r h
    have := List.Perm.eq_nil h
    simp at this
    obtain ⟨rfl, rfl⟩ := this
    exact ⟨by simp [flatB], by simp⟩
  | @succ j l q h hp hq ih =>
    intro hj t r htr
    have hlong := pairs_long (w := w) (idx := idx) fun b hb => (h.each b hb).2.1
    have hall : (t ++ r).Perm (singlesOf w idx ++ pairsOf l) := htr.trans hp
    have f1 : (singlesOf w idx).filter (fun b => b.2.length == 1) = singlesOf w idx := List.filter_eq_self.2 fun b hb => by
      simp only [singlesOf, List.mem_map] at hb; obtain ⟨i, _, rfl⟩ := hb; rfl
    have f2 : (pairsOf l).filter (fun b => b.2.length == 1) = [] := List.filter_eq_nil_iff.2 fun b hb => by have := hlong b hb; simp; omega
    have f3 : (singlesOf w idx).filter (fun b => !(b.2.length == 1)) = [] := List.filter_eq_nil_iff.2 fun b hb => by
      simp only [singlesOf, List.mem_map] at hb; obtain ⟨i, _, rfl⟩ := hb; simp [single1]
    have f4 : (pairsOf l).filter (fun b => !(b.2.length == 1)) = pairsOf l := List.filter_eq_self.2 fun b hb => by have := hlong b hb; simp; omega
    have hs := hall.filter (fun b => b.2.length == 1)
    have hpr := hall.filter (fun b => !(b.2.length == 1))
    rw [List.filter_append, List.filter_append, f1, f2, List.append_nil] at hs
    rw [List.filter_append, List.filter_append, f3, f4, List.nil_append] at hpr
    obtain ⟨t', r', g1, g2, g3⟩ := pairsOf_unpack l _ _ hpr
    obtain ⟨i1, i2⟩ := ih (by omega) t' r' g1
    have hcnt : ∀ i, (flatB t).count i = (flatB (t.filter fun b => b.2.length == 1)).count i + (flatB t').count i := by
      intro i
      rw [(flatB_perm (perm_filter (fun b : Bun => b.2.length == 1) t)).symm.count_eq i, flatB_append, List.count_append, g3.count_eq i]
    have hle : ∀ i, (flatB (t.filter fun b => b.2.length == 1)).count i ≤ 1 := by
      intro i
      have h1 := (flatB_perm hs).count_eq i
      rw [flatB_append, List.count_append, flat_single] at h1
      have h2 := List.nodup_iff_count.1 hn i
      omega
    have hlen : (t.filter fun b => b.2.length == 1).length = sumF idx fun i => (flatB (t.filter fun b => b.2.length == 1)).count i := by
      have h1 : ∀ s ∈ flatB (t.filter fun b => b.2.length == 1), s ∈ idx := by
        intro s hs'
        have := (flatB_perm hs).mem_iff (a := s)
        rw [flatB_append, flat_single] at this
        exact this.1 (List.mem_append_left _ hs')
      have h2 := sum_counts hn (fun _ => 1) h1
      rw [sumF_const] at h2
      simp only [Nat.one_mul] at h2
      rw [← h2]
      have : ∀ m : List Bun, (∀ b ∈ m, b.2.length = 1) → m.length = (flatB m).length := by
        intro m
        induction m with
        | nil => intro _; rfl
        | cons b m ih3 => intro hm; rw [flatB_cons, List.length_append, ← ih3 fun x hx => hm x (by simp [hx]), hm b (by simp)]; simp; omega
      exact this _ fun b hb => by simpa using (List.mem_filter.1 hb).2
    refine ⟨fun i hi => by rw [hcnt]; have := hle i; have := i1 i hi; omega, ?_⟩
    have hsum : 131072 * (t.filter fun b => b.2.length == 1).length + t'.length * 65536 ≤ 2 * sumF idx fun i => wid ((flatB t).count i) := by
      rw [hlen, ← sumF_mul, ← sumF_mul]
      refine Nat.le_trans (Nat.add_le_add_left i2 _) ?_
      rw [← sumF_add]
      refine sumF_le fun i hi => ?_
      rw [hcnt]
      have h1 := hle i
      have h2 := i1 i hi
      rcases Nat.eq_zero_or_pos ((flatB (t.filter fun b => b.2.length == 1)).count i) with h3 | h3
      · rw [h3]; simp; omega
      · rw [show (flatB (t.filter fun b => b.2.length == 1)).count i = 1 by omega]
        have := wid_succ (t := (flatB t').count i) (by omega)
        rw [Nat.add_comm 1, this]
        omega
    have hl2 := (perm_filter (fun b : Bun => b.2.length == 1) t).length_eq
    rw [List.length_append] at hl2
    clear i2 ih hlen
    generalize sumF idx (fun i => wid ((flatB t).count i)) = X at hsum ⊢
    omega

/-- Lengths that leave room. -/
def Room (idx : List Int) (t : Int → Nat) : Prop := (∀ i ∈ idx, t i ≤ 16) ∧ sumF idx (fun i => 2 ^ (16 - t i)) ≤ 65536
theorem wid_pow {t : Nat} (h : t ≤ 16) : wid t + 2 * 2 ^ (16 - t) = 131072 := by
  have e : 2 ^ (17 - t) = 2 * 2 ^ (16 - t) := by rw [show 17 - t = (16 - t) + 1 by omega, Nat.pow_succ]; omega
  have h1 : 2 ^ (17 - t) ≤ 2 ^ 17 := Nat.pow_le_pow_right (by omega) (by omega)
  have : 2 ^ 17 = 131072 := by decide
  unfold wid
  omega
theorem sum_wid {idx : List Int} {t : Int → Nat} (h : ∀ i ∈ idx, t i ≤ 16) : sumF idx (fun i => wid (t i)) + 2 * sumF idx (fun i => 2 ^ (16 - t i)) = 131072 * idx.length := by
  rw [← sumF_mul, ← sumF_add, ← sumF_const]
  exact sumF_congr fun i hi => wid_pow (h i hi)
/-- The lengths that sixteen rounds give: they leave room, and none that leave room cost less. -/
theorem Chain.best {w : Int → Nat} {idx : List Int} (hn : idx.Nodup) (h0 : 1 ≤ idx.length) (h256 : idx.length ≤ 512) {l : List Bun} (h : Chain w idx 16 l) :
    2 * idx.length - 2 ≤ l.length ∧ Room idx (fun i => (flatB (l.take (2 * idx.length - 2))).count i) ∧
    ∀ t, Room idx t → sumF idx (fun i => w i * (flatB (l.take (2 * idx.length - 2))).count i) ≤ sumF idx fun i => w i * t i := by
  obtain ⟨N, hN⟩ : ∃ N, N = idx.length := ⟨_, rfl⟩
  have hlen : 2 * idx.length - 2 ≤ l.length := by
    refine (h.least (Nat.le_refl _) (fun _ => 9) (2 * idx.length - 2) (fun i _ => by omega) ?_).1
    rw [sumF_const, show wid 9 = 130816 by decide]
    omega
  have hroom := h.room hn (Nat.le_refl _) (l.take (2 * idx.length - 2)) (l.drop (2 * idx.length - 2)) (by rw [List.take_append_drop])
  have hT : (l.take (2 * idx.length - 2)).length = 2 * idx.length - 2 := by rw [List.length_take]; omega
  refine ⟨hlen, ⟨hroom.1, ?_⟩, fun t ht => ?_⟩
  · have h1 := sum_wid (t := fun i => (flatB (l.take (2 * idx.length - 2))).count i) hroom.1
    have h2 := hroom.2
    rw [hT] at h2
    generalize sumF idx (fun i => wid ((flatB (l.take (2 * idx.length - 2))).count i)) = X at h1 h2
    generalize sumF idx (fun i => 2 ^ (16 - (flatB (l.take (2 * idx.length - 2))).count i)) = Y at h1 ⊢
    omega
  · have h1 := sum_wid ht.1
    have h2 := ht.2
    have h5 : (2 * idx.length - 2) * 65536 ≤ sumF idx (fun i => wid (t i)) := by
      generalize sumF idx (fun i => wid (t i)) = X at h1 ⊢
      generalize sumF idx (fun i => 2 ^ (16 - t i)) = Y at h1 h2
      omega
    have h3 := (h.least (Nat.le_refl _) t (2 * idx.length - 2) ht.1 h5).2
    refine Nat.le_trans (Nat.le_of_eq ?_) h3
    have h4 : ∀ s ∈ flatB (l.take (2 * idx.length - 2)), s ∈ idx := by
      intro s hs
      simp only [flatB, List.mem_flatMap] at hs
      obtain ⟨b, hb, hs⟩ := hs
      exact (h.each b (List.mem_of_mem_take hb)).2.2 s hs
    rw [← sum_counts hn w h4]
    have : ∀ m : List Bun, (∀ b ∈ m, b.1 = sumF b.2 w) → sumF (flatB m) w = sumC m := by
      intro m
      induction m with
      | nil => intro _; rfl
      | cons b m ih => intro hm; rw [flatB_cons, sumF_append, sumC_cons, ih fun x hx => hm x (by simp [hx]), ← hm b (by simp)]
    exact this _ fun b hb => (h.each b (List.mem_of_mem_take hb)).1
end Go.Proofs.Ythelblkpfkngmaa
