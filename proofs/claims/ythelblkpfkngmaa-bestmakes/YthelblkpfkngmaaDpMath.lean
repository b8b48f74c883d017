/- The reference's table of least costs, in numbers: what it holds is what no lengths undercut. No program is named here. -/
import Derived.Test.YthelblkpfkngmaaPMath
namespace Go.Proofs.Ythelblkpfkngmaa
set_option linter.unusedVariables false
set_option linter.unusedSimpArgs false

def far : Nat := 1099511627776
/-- One way more: c words of this length. -/
def dpStep (T : List Nat → Nat → Nat) (vs : List Nat) (m b c : Nat) : Nat := min b ((vs.drop c).sum + T (vs.drop c) (min (2 * (m - c)) (vs.length - c)))
/-- What these symbols take beyond a length, m words of it being free, r lengths more to come. -/
def dpT : Nat → List Nat → Nat → Nat
  | 0, vs, m => if vs.length ≤ m then 0 else far
  | r + 1, vs, m => if vs.length ≤ m then 0 else (List.range (m + 1)).foldl (dpStep (dpT r) vs m) far
theorem dpStep_le (T : List Nat → Nat → Nat) (vs : List Nat) (m b c : Nat) : dpStep T vs m b c ≤ b := Nat.min_le_left _ _
theorem foldl_le (T : List Nat → Nat → Nat) (vs : List Nat) (m : Nat) : ∀ (l : List Nat) (b : Nat), l.foldl (dpStep T vs m) b ≤ b
  | [], b => Nat.le_refl _
  | c :: l, b => Nat.le_trans (foldl_le T vs m l _) (dpStep_le T vs m b c)
theorem foldl_way (T : List Nat → Nat → Nat) (vs : List Nat) (m : Nat) : ∀ (l : List Nat) (b c : Nat), c ∈ l → l.foldl (dpStep T vs m) b ≤ (vs.drop c).sum + T (vs.drop c) (min (2 * (m - c)) (vs.length - c))
  | [], b, c, h => by cases h
  | d :: l, b, c, h => by
    rcases List.mem_cons.1 h with rfl | h
    · exact Nat.le_trans (foldl_le T vs m l _) (Nat.min_le_right _ _)
    · exact foldl_way T vs m l _ c h
theorem foldl_hit (T : List Nat → Nat → Nat) (vs : List Nat) (m : Nat) : ∀ (l : List Nat) (b : Nat), l.foldl (dpStep T vs m) b = b ∨ ∃ c ∈ l, l.foldl (dpStep T vs m) b = (vs.drop c).sum + T (vs.drop c) (min (2 * (m - c)) (vs.length - c))
  | [], b => .inl rfl
  | d :: l, b => by
    rcases foldl_hit T vs m l (dpStep T vs m b d) with h | ⟨c, hc, h⟩
    · rw [List.foldl_cons, h]
      unfold dpStep
      rcases Nat.le_total b ((vs.drop d).sum + T (vs.drop d) (min (2 * (m - d)) (vs.length - d))) with h2 | h2
      · exact .inl (Nat.min_eq_left h2)
      · exact .inr ⟨d, by simp, Nat.min_eq_right h2⟩
    · exact .inr ⟨c, by simp [hc], by rw [List.foldl_cons, h]⟩
theorem dpT_far : ∀ (r : Nat) (vs : List Nat) (m : Nat), dpT r vs m ≤ far
  | 0, vs, m => by unfold dpT; split <;> simp [far]
  | r + 1, vs, m => by
    unfold dpT
    split
    · exact Nat.zero_le _
    · exact foldl_le _ _ _ _ _
/-- What lengths take beyond one of them. -/
def costV' (vs ls : List Nat) (b : Nat) : Nat := (List.zipWith (fun v l => v * (l - b)) vs ls).sum
def roomL' (ls : List Nat) : Nat := (ls.map fun l => 2 ^ (16 - l)).sum
theorem sum_ge_mem {l : List Nat} {x : Nat} (h : x ∈ l) : x ≤ l.sum := by
  induction l with
  | nil => cases h
  | cons a l ih =>
    rw [List.sum_cons]
    rcases List.mem_cons.1 h with rfl | h
    · omega
    · have := ih h; omega
/-- Falling weights: what is kept, moved behind what is struck, takes no more. -/
theorem keep_le (b : Nat) : ∀ (vs ls : List Nat), vs.length = ls.length → vs.Pairwise (fun x y => y ≤ x) → costV' (vs.drop (ls.countP (· == b))) (ls.filter (fun l => !(l == b))) b ≤ costV' vs ls b
  | [], [], _, _ => Nat.le_refl _
  | [], _ :: _, h, _ => by simp at h
  | _ :: _, [], h, _ => by simp at h
  | v :: vs, l :: ls, h, hp => by
    obtain ⟨hp1, hp2⟩ := List.pairwise_cons.1 hp
    have ih := keep_le b vs ls (by simpa using h) hp2
    by_cases e : (l == b) = true
    · rw [List.countP_cons_of_pos (by simpa using e), List.filter_cons_of_neg (by simp [e]), List.drop_succ_cons]
      refine Nat.le_trans ih ?_
      simp [costV']
    · have e' : (l == b) = false := by simpa using e
      rw [List.countP_cons_of_neg (by simpa using e), List.filter_cons_of_pos (by simp [e'])]
      have hc : ls.countP (· == b) ≤ vs.length := by
        have := List.countP_le_length (p := (· == b)) (l := ls); simp at h; omega
      have hlen : ls.countP (· == b) < (v :: vs).length := by simp; omega
      have hd : (v :: vs).drop (ls.countP (· == b)) = (v :: vs)[ls.countP (· == b)] :: vs.drop (ls.countP (· == b)) := by
        rw [List.drop_eq_getElem_cons hlen, List.drop_succ_cons]
      rw [hd]
      have hle : (v :: vs)[ls.countP (· == b)] ≤ v := by
        rcases List.mem_cons.1 (List.getElem_mem hlen) with h1 | h1
        · rw [h1]; exact Nat.le_refl _
        · exact hp1 _ h1
      have := Nat.mul_le_mul_right (l - b) hle
      simp only [costV', List.zipWith_cons_cons, List.sum_cons] at ih ⊢
      omega
theorem room_filter (b : Nat) : ∀ ls : List Nat, roomL' ls = ls.countP (· == b) * 2 ^ (16 - b) + roomL' (ls.filter fun l => !(l == b))
  | [] => by simp [roomL']
  | l :: ls => by
    have ih := room_filter b ls
    by_cases e : (l == b) = true
    · rw [List.countP_cons_of_pos (by simpa using e), List.filter_cons_of_neg (by simp [e])]
      have : l = b := by simpa using e
      subst this
      simp only [roomL', List.map_cons, List.sum_cons] at ih ⊢
      rw [ih, Nat.add_mul]; omega
    · have e' : (l == b) = false := by simpa using e
      rw [List.countP_cons_of_neg (by simpa using e), List.filter_cons_of_pos (by simp [e'])]
      simp only [roomL', List.map_cons, List.sum_cons] at ih ⊢
      rw [ih]; omega
theorem filter_len (b : Nat) (ls : List Nat) : (ls.filter fun l => !(l == b)).length + ls.countP (· == b) = ls.length := by
  induction ls with
  | nil => rfl
  | cons l ls ih =>
    by_cases e : (l == b) = true
    · rw [List.countP_cons_of_pos (by simpa using e), List.filter_cons_of_neg (by simp [e])]; simp; omega
    · have e' : (l == b) = false := by simpa using e
      rw [List.countP_cons_of_neg (by simpa using e), List.filter_cons_of_pos (by simp [e'])]; simp; omega
theorem cost_next (b : Nat) : ∀ (vs ls : List Nat), vs.length = ls.length → (∀ l ∈ ls, b + 1 ≤ l) → costV' vs ls b = vs.sum + costV' vs ls (b + 1)
  | [], [], _, _ => rfl
  | [], _ :: _, h, _ => by simp at h
  | _ :: _, [], h, _ => by simp at h
  | v :: vs, l :: ls, h, hl => by
    have ih := cost_next b vs ls (by simpa using h) fun x hx => hl x (by simp [hx])
    have h1 := hl l (by simp)
    simp only [costV', List.zipWith_cons_cons, List.sum_cons] at ih ⊢
    rw [ih]
    obtain ⟨d, rfl⟩ : ∃ d, l = b + 1 + d := ⟨l - (b + 1), by omega⟩
    rw [show b + 1 + d - b = d + 1 by omega, show b + 1 + d - (b + 1) = d by omega, Nat.mul_add]
    omega
/-- No lengths undercut it. -/
theorem dpT_low : ∀ (r : Nat), r ≤ 15 → ∀ (vs ls : List Nat) (m : Nat), vs.length = ls.length → vs.Pairwise (fun x y => y ≤ x) → (∀ l ∈ ls, 16 - r ≤ l ∧ l ≤ 16) → roomL' ls ≤ m * 2 ^ r → dpT r vs m ≤ costV' vs ls (16 - r)
  | 0, _, vs, ls, m, h, hp, hl, hr => by
    have : roomL' ls = ls.length := by
      unfold roomL'
      rw [List.map_congr_left (g := fun _ => 1) fun l hx => by have := hl l hx; rw [show 16 - l = 0 by omega]]
      simp [List.map_const']
    unfold dpT
    rw [if_pos (by omega)]; exact Nat.zero_le _
  | r + 1, hr15, vs, ls, m, h, hp, hl, hr => by
    unfold dpT
    by_cases hm : vs.length ≤ m
    · rw [if_pos hm]; exact Nat.zero_le _
    · rw [if_neg hm]
      obtain ⟨b, hb⟩ : ∃ b, b = 16 - (r + 1) := ⟨_, rfl⟩
      obtain ⟨c, hc⟩ : ∃ c, c = ls.countP (· == b) := ⟨_, rfl⟩
      have e16 : 16 - b = r + 1 := by omega
      have hroom := room_filter b ls
      rw [← hc, e16] at hroom
      have hpow : 0 < 2 ^ (r + 1) := Nat.two_pow_pos _
      have hcm : c ≤ m := by
        have : c * 2 ^ (r + 1) ≤ m * 2 ^ (r + 1) := by omega
        exact Nat.le_of_mul_le_mul_right this hpow
      have hfl := filter_len b ls
      rw [← hc] at hfl
      have hF : ∀ l ∈ ls.filter (fun l => !(l == b)), 16 - r ≤ l ∧ l ≤ 16 := by
        intro l hx
        obtain ⟨h1, h2⟩ := List.mem_filter.1 hx
        have h3 := hl l h1
        have h4 : l ≠ b := by simpa using h2
        omega
      have hdl : (vs.drop c).length = (ls.filter fun l => !(l == b)).length := by rw [List.length_drop]; omega
      have hpd : (vs.drop c).Pairwise (fun x y => y ≤ x) := hp.drop
      have hrr : roomL' (ls.filter fun l => !(l == b)) ≤ 2 * (m - c) * 2 ^ r := by
        have e : m * 2 ^ (r + 1) = c * 2 ^ (r + 1) + (m - c) * 2 ^ (r + 1) := by rw [← Nat.add_mul]; congr 1; omega
        have e2 : 2 * (m - c) * 2 ^ r = (m - c) * 2 ^ (r + 1) := by rw [Nat.pow_succ, Nat.mul_comm 2, Nat.mul_assoc, Nat.mul_comm 2]
        omega
      have hT : dpT r (vs.drop c) (min (2 * (m - c)) (vs.length - c)) ≤ costV' (vs.drop c) (ls.filter fun l => !(l == b)) (16 - r) := by
        rcases Nat.le_total (2 * (m - c)) (vs.length - c) with h5 | h5
        · rw [Nat.min_eq_left h5]
          exact dpT_low r (by omega) _ _ _ hdl hpd hF hrr
        · rw [Nat.min_eq_right h5]
          have : dpT r (vs.drop c) (vs.length - c) = 0 := by
            cases r <;> (unfold dpT; rw [if_pos (by rw [List.length_drop]; exact Nat.le_refl _)])
          rw [this]; exact Nat.zero_le _
      refine Nat.le_trans (foldl_way (dpT r) vs m (List.range (m + 1)) far c (List.mem_range.2 (by omega))) ?_
      have hk := keep_le b vs ls h hp
      rw [← hc, cost_next b _ _ hdl fun l hx => by have := hF l hx; omega] at hk
      rw [show b + 1 = 16 - r by omega] at hk
      rw [← hb]
      omega
/-- Lengths that take just that. -/
theorem dpT_hit : ∀ (r : Nat), r ≤ 15 → ∀ (vs : List Nat) (m : Nat), dpT r vs m < far → ∃ ls : List Nat, vs.length = ls.length ∧ (∀ l ∈ ls, 16 - r ≤ l ∧ l ≤ 16) ∧ roomL' ls ≤ m * 2 ^ r ∧ costV' vs ls (16 - r) = dpT r vs m := by
  have flat : ∀ (r : Nat), r ≤ 15 → ∀ (vs : List Nat) (m : Nat), vs.length ≤ m → ∃ ls : List Nat, vs.length = ls.length ∧ (∀ l ∈ ls, 16 - r ≤ l ∧ l ≤ 16) ∧ roomL' ls ≤ m * 2 ^ r ∧ costV' vs ls (16 - r) = 0 := by
    intro r hr vs m hm
    refine ⟨List.replicate vs.length (16 - r), by simp, fun l hl => by rw [List.eq_of_mem_replicate hl]; omega, ?_, ?_⟩
    · unfold roomL'
      rw [List.map_replicate, List.sum_replicate_nat, show 16 - (16 - r) = r by omega]
      exact Nat.mul_le_mul_right _ hm
    · have : ∀ vs : List Nat, costV' vs (List.replicate vs.length (16 - r)) (16 - r) = 0 := by
        intro vs
        induction vs with
        | nil => rfl
        | cons v vs ih => simp only [costV', List.length_cons, List.replicate_succ, List.zipWith_cons_cons, List.sum_cons] at ih ⊢; simp [ih]
      exact this vs
  intro r
  induction r with
  | zero =>
    intro hr vs m h
    by_cases hm : vs.length ≤ m
    · have := flat 0 hr vs m hm
      unfold dpT; rw [if_pos hm]; exact this
    · unfold dpT at h; rw [if_neg hm] at h; omega
  | succ r ih =>
    intro hr vs m h
    by_cases hm : vs.length ≤ m
    · have := flat (r + 1) hr vs m hm
      unfold dpT; rw [if_pos hm]; exact this
    · unfold dpT at h ⊢
      rw [if_neg hm] at h ⊢
      rcases foldl_hit (dpT r) vs m (List.range (m + 1)) far with h2 | ⟨c, hc, h2⟩
      · rw [h2] at h; omega
      · rw [h2] at h ⊢
        have hcm : c ≤ m := by have := List.mem_range.1 hc; omega
        obtain ⟨ls, g1, g2, g3, g4⟩ := ih (by omega) (vs.drop c) _ (show dpT r (vs.drop c) (min (2 * (m - c)) (vs.length - c)) < far by omega)
        have hcl : c ≤ vs.length := by omega
        refine ⟨List.replicate c (16 - (r + 1)) ++ ls, by simp [← g1]; omega, ?_, ?_, ?_⟩
        · intro l hl
          rcases List.mem_append.1 hl with hl | hl
          · rw [List.eq_of_mem_replicate hl]; omega
          · have := g2 l hl; omega
        · unfold roomL' at g3 ⊢
          rw [List.map_append, List.sum_append, List.map_replicate, List.sum_replicate_nat, show 16 - (16 - (r + 1)) = r + 1 by omega]
          have e : m * 2 ^ (r + 1) = c * 2 ^ (r + 1) + (m - c) * 2 ^ (r + 1) := by rw [← Nat.add_mul]; congr 1; omega
          have e2 : 2 * (m - c) * 2 ^ r = (m - c) * 2 ^ (r + 1) := by rw [Nat.pow_succ, Nat.mul_comm 2, Nat.mul_assoc, Nat.mul_comm 2]
          have e3 : min (2 * (m - c)) (vs.length - c) * 2 ^ r ≤ 2 * (m - c) * 2 ^ r := Nat.mul_le_mul_right _ (Nat.min_le_left _ _)
          omega
        · have key : ∀ (c : Nat) (vs ls : List Nat) (b : Nat), c ≤ vs.length → costV' vs (List.replicate c b ++ ls) b = costV' (vs.drop c) ls b := by
            intro c
            induction c with
            | zero => intro vs ls b _; simp
            | succ c ihc =>
              intro vs ls b hb
              cases vs with
              | nil => simp at hb
              | cons v vs =>
                have := ihc vs ls b (by simpa using hb)
                rw [List.drop_succ_cons, ← this]
                simp [costV', List.replicate_succ]
          rw [key c vs ls _ hcl, cost_next _ _ _ g1 fun l hl => by have := g2 l hl; omega, show 16 - (r + 1) + 1 = 16 - r by omega, g4]
end Go.Proofs.Ythelblkpfkngmaa
