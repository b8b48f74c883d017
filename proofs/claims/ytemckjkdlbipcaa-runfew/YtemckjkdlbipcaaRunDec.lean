/- What run.Block answers, in numbers: as RunMath's reader, but that a symbol above 255 is no fault of its own. No program is named here. -/
import Derived.Test.YtemckjkdlbipcaaRunBase
import Derived.Test.YtemckjkdlbipcaaBlkBox
import Derived.Test.YtemckjkdlbipcaaRunGen
namespace Go.Proofs.Ytemckjkdlbipcaa
set_option linter.unusedVariables false
set_option linter.unusedSimpArgs false
set_option maxRecDepth 100000

/-- May a token come behind the first one? -/
def okQ (t : Int × Int × Int) : Bool := fitT t && decide (0 ≤ t.1 ∧ t.1 % 16 = t.2.1 ∧ t.2.1 ≤ 11 ∧ (t.2.1 = 0 → t.1 = 0 ∨ t.1 = 240))
/-- k numbers out of tokens: an error's code, the numbers, how many tokens were taken. -/
def decQ : Nat → List (Int × Int × Int) → Int × List Int × Nat
  | 0, _ => (0, [], 0)
  | _ + 1, [] => (3, [], 0)
  | k + 1, t :: l =>
    if okQ t = true then
      if t.1 = 0 then (0, List.replicate (k + 1) 0, 1)
      else if k + 1 < farT t then (4, [], 0)
      else
        let d := decQ (k + 1 - farT t) l
        if d.1 = 0 then (0, List.replicate (farT t - 1) 0 ++ numT t :: d.2.1, d.2.2 + 1) else (d.1, [], 0)
    else (4, [], 0)
theorem decQ_zero (l : List (Int × Int × Int)) : decQ 0 l = (0, [], 0) := by cases l <;> rfl
theorem okT_okQ {t : Int × Int × Int} (h : okT t = true) : okQ t = true := by
  unfold okT at h
  unfold okQ
  rw [Bool.and_eq_true] at h ⊢
  have h2 := of_decide_eq_true h.2
  exact ⟨h.1, decide_eq_true ⟨h2.1, h2.2.2⟩⟩
theorem okQ_fit {t : Int × Int × Int} (h : okQ t = true) : (0 ≤ t.2.1 ∧ t.2.1 ≤ 12 ∧ 0 ≤ t.2.2 ∧ t.2.2 < pw t.2.1.toNat) ∧ 0 ≤ t.1 ∧ t.1 % 16 = t.2.1 ∧ t.2.1 ≤ 11 ∧ (t.2.1 = 0 → t.1 = 0 ∨ t.1 = 240) := by
  unfold okQ at h
  rw [Bool.and_eq_true] at h
  have h1 := h.1
  unfold fitT at h1
  exact ⟨of_decide_eq_true h1, of_decide_eq_true h.2⟩
theorem decQ_of : ∀ (l : List (Int × Int × Int)) (k : Nat), (decR k l).1 ≠ 4 → decQ k l = decR k l
  | l, 0, _ => by rw [decR_zero, decQ_zero]
  | [], k + 1, _ => rfl
  | t :: l, k + 1, h => by
    rw [decR] at h ⊢
    rw [decQ]
    by_cases h1 : okT t = true
    · rw [if_pos h1] at h ⊢
      rw [if_pos (okT_okQ h1)]
      by_cases h2 : t.1 = 0
      · rw [if_pos h2, if_pos h2]
      · rw [if_neg h2] at h ⊢
        rw [if_neg h2]
        by_cases h3 : k + 1 < farT t
        · rw [if_pos h3] at h; exact absurd rfl h
        · rw [if_neg h3] at h ⊢
          rw [if_neg h3]
          simp only [] at h ⊢
          have : (decR (k + 1 - farT t) l).1 ≠ 4 := by
            by_cases h4 : (decR (k + 1 - farT t) l).1 = 0
            · rw [h4]; decide
            · rw [if_neg h4] at h; exact h
          rw [decQ_of l _ this]
    · rw [if_neg h1] at h; exact absurd rfl h
/-- The numbers of a block out of tokens. -/
def decP (before : Int) (l : List (Int × Int × Int)) : Int × List Int × Nat :=
  if before < -2047 ∨ 2047 < before then (1, [], 0) else
  match l with
  | [] => (3, [], 0)
  | t :: l =>
    if firstT before t then
      if (decQ 63 l).1 = 0 then
        if toksZ before ((before + numT t) :: (decQ 63 l).2.1) = t :: l.take (decQ 63 l).2.2 then (0, (before + numT t) :: (decQ 63 l).2.1, (decQ 63 l).2.2 + 1) else (4, [], 0)
      else ((decQ 63 l).1, [], 0)
    else (4, [], 0)
theorem decP_of {before : Int} {l : List (Int × Int × Int)} (h : (decB before l).1 ≠ 4) : decP before l = decB before l := by
  unfold decB at h ⊢
  unfold decP
  by_cases hb : before < -2047 ∨ 2047 < before
  · rw [if_pos hb, if_pos hb]
  · rw [if_neg hb] at h ⊢
    rw [if_neg hb]
    cases l with
    | nil => rfl
    | cons t l =>
      simp only [] at h ⊢
      by_cases h1 : fitT t = true ∧ t.1 = t.2.1 ∧ -2047 ≤ before + numT t ∧ before + numT t ≤ 2047
      · rw [if_pos h1] at h ⊢
        rw [if_pos (show firstT before t from h1)]
        have : (decR 63 l).1 ≠ 4 := by
          by_cases h4 : (decR 63 l).1 = 0
          · rw [h4]; decide
          · rw [if_neg h4] at h; exact h
        rw [decQ_of l _ this]
      · rw [if_neg h1] at h; exact absurd rfl h
theorem decQ_used : ∀ (l : List (Int × Int × Int)) (k : Nat), (decQ k l).2.2 ≤ l.length
  | l, 0 => by rw [decQ_zero]; simp
  | [], k + 1 => by simp [decQ]
  | t :: l, k + 1 => by
    rw [decQ]
    split
    · split
      · simp
      · split
        · simp
        · simp only []
          split
          · have := decQ_used l (k + 1 - farT t); simp only [List.length_cons]; omega
          · simp
    · simp
/-- What is read has just these tokens. -/
theorem decP_again {before : Int} {l : List (Int × Int × Int)} (h : (decP before l).1 = 0) : (-2047 ≤ before ∧ before ≤ 2047) ∧ toksZ before (decP before l).2.1 = l.take (decP before l).2.2 ∧ 0 < (decP before l).2.2 ∧ (decP before l).2.2 ≤ l.length := by
  unfold decP at h ⊢
  by_cases hb : before < -2047 ∨ 2047 < before
  · rw [if_pos hb] at h; simp at h
  · rw [if_neg hb] at h ⊢
    cases l with
    | nil => simp at h
    | cons t l =>
      simp only [] at h ⊢
      by_cases h1 : firstT before t
      · rw [if_pos h1] at h ⊢
        by_cases h2 : (decQ 63 l).1 = 0
        · rw [if_pos h2] at h ⊢
          by_cases h3 : toksZ before ((before + numT t) :: (decQ 63 l).2.1) = t :: l.take (decQ 63 l).2.2
          · rw [if_pos h3]
            have := decQ_used l 63
            exact ⟨by omega, h3, by simp only []; omega, by simp only [List.length_cons]; omega⟩
          · rw [if_neg h3] at h; simp at h
        · rw [if_neg h2] at h; exact absurd h h2
      · rw [if_neg h1] at h; simp at h
theorem decP_err {b : Int} {l : List (Int × Int × Int)} (h : (decP b l).1 ≠ 0) : (decP b l).2.2 = 0 := by
  unfold decP at h ⊢
  split
  · rfl
  · rename_i h0
    rw [if_neg h0] at h
    cases l with
    | nil => rfl
    | cons t l =>
      simp only [] at h ⊢
      split
      · rename_i h1
        rw [if_pos h1] at h
        split
        · rename_i h2
          rw [if_pos h2] at h
          split
          · rename_i h3; rw [if_pos h3] at h; exact absurd rfl h
          · rfl
        · rfl
      · rfl
theorem okQ_num {t : Int × Int × Int} (h : okQ t = true) : -2047 ≤ numT t ∧ numT t ≤ 2047 := by
  obtain ⟨h5, h6⟩ := okQ_fit h
  have h7 := bk_in h5.2.2.1 h5.2.2.2
  have h8 := pw_mono (a := t.2.1.toNat) (b := 11) (by omega)
  have h9 : pw 11 = 2048 := by decide
  unfold numT; omega
/-- What was read lies within its bounds. -/
theorem decQ_in : ∀ (l : List (Int × Int × Int)) (k : Nat), (decQ k l).1 = 0 → (decQ k l).2.1.length = k ∧ ∀ z ∈ (decQ k l).2.1, -2047 ≤ z ∧ z ≤ 2047
  | l, 0, h => by rw [decQ_zero]; exact ⟨rfl, by simp⟩
  | [], k + 1, h => by simp [decQ] at h
  | t :: l, k + 1, h => by
    rw [decQ] at h ⊢
    by_cases h1 : okQ t = true
    · rw [if_pos h1] at h ⊢
      by_cases h2 : t.1 = 0
      · rw [if_pos h2]
        refine ⟨by simp, fun z hz => ?_⟩
        rw [(List.mem_replicate.1 hz).2]; omega
      · rw [if_neg h2] at h ⊢
        by_cases h3 : k + 1 < farT t
        · rw [if_pos h3] at h; simp at h
        · rw [if_neg h3] at h ⊢
          simp only [] at h ⊢
          by_cases h4 : (decQ (k + 1 - farT t) l).1 = 0
          · obtain ⟨g1, g2⟩ := decQ_in l (k + 1 - farT t) h4
            rw [if_pos h4]
            have hp : 0 < farT t := by unfold farT; omega
            refine ⟨by simp only [List.length_append, List.length_replicate, List.length_cons, g1]; omega, fun z hz => ?_⟩
            rcases List.mem_append.1 hz with hz | hz
            · rw [(List.mem_replicate.1 hz).2]; omega
            · rcases List.mem_cons.1 hz with rfl | hz
              · exact okQ_num h1
              · exact g2 z hz
          · rw [if_neg h4] at h; exact absurd h h4
    · rw [if_neg h1] at h; simp at h
theorem decP_in {b : Int} {l : List (Int × Int × Int)} (h : (decP b l).1 = 0) : (decP b l).2.1.length = 64 ∧ ∀ z ∈ (decP b l).2.1, -2047 ≤ z ∧ z ≤ 2047 := by
  unfold decP at h ⊢
  by_cases h0 : b < -2047 ∨ 2047 < b
  · rw [if_pos h0] at h; simp at h
  · rw [if_neg h0] at h ⊢
    cases l with
    | nil => simp at h
    | cons t l =>
      simp only [] at h ⊢
      by_cases h1 : firstT b t
      · rw [if_pos h1] at h ⊢
        by_cases h2 : (decQ 63 l).1 = 0
        · rw [if_pos h2] at h ⊢
          obtain ⟨g1, g2⟩ := decQ_in l 63 h2
          by_cases h3 : toksZ b ((b + numT t) :: (decQ 63 l).2.1) = t :: l.take (decQ 63 l).2.2
          · rw [if_pos h3]
            refine ⟨by simp [g1], fun z hz => ?_⟩
            rcases List.mem_cons.1 hz with rfl | hz
            · exact h1.2.2
            · exact g2 z hz
          · rw [if_neg h3] at h; simp at h
        · rw [if_neg h2] at h; exact absurd h h2
      · rw [if_neg h1] at h; simp at h
/-- Numbers read so far, and what is still to read: an error's code, all numbers, how many tokens. -/
def joinQ (pre : List Int) (n : Nat) (d : Int × List Int × Nat) : Int × List Int × Nat :=
  if d.1 = 0 then (0, pre ++ d.2.1, n + d.2.2) else (d.1, [], 0)
theorem joinQ_all (pre : List Int) (n : Nat) (l : List (Int × Int × Int)) : joinQ pre n (decQ 0 l) = (0, pre, n) := by
  rw [decQ_zero]; simp [joinQ]
theorem joinQ_none (pre : List Int) (n : Nat) {k : Nat} (hk : 0 < k) : joinQ pre n (decQ k []) = (3, [], 0) := by
  obtain ⟨k, rfl⟩ : ∃ j, k = j + 1 := ⟨k - 1, by omega⟩
  rfl
theorem joinQ_bad (pre : List Int) (n : Nat) {k : Nat} {t : Int × Int × Int} {l : List (Int × Int × Int)} (hk : 0 < k) (ht : okQ t = false) : joinQ pre n (decQ k (t :: l)) = (4, [], 0) := by
  obtain ⟨k, rfl⟩ : ∃ j, k = j + 1 := ⟨k - 1, by omega⟩
  rw [decQ, if_neg (by rw [ht]; decide)]; rfl
theorem joinQ_end (pre : List Int) (n : Nat) {k : Nat} {t : Int × Int × Int} {l : List (Int × Int × Int)} (hk : 0 < k) (ht : okQ t = true) (h0 : t.1 = 0) : joinQ pre n (decQ k (t :: l)) = (0, pre ++ List.replicate k 0, n + 1) := by
  obtain ⟨k, rfl⟩ : ∃ j, k = j + 1 := ⟨k - 1, by omega⟩
  rw [decQ, if_pos ht, if_pos h0]; rfl
theorem joinQ_far (pre : List Int) (n : Nat) {k : Nat} {t : Int × Int × Int} {l : List (Int × Int × Int)} (hk : 0 < k) (ht : okQ t = true) (h0 : t.1 ≠ 0) (hf : k < farT t) : joinQ pre n (decQ k (t :: l)) = (4, [], 0) := by
  obtain ⟨k, rfl⟩ : ∃ j, k = j + 1 := ⟨k - 1, by omega⟩
  rw [decQ, if_pos ht, if_neg h0, if_pos hf]; rfl
theorem joinQ_next (pre : List Int) (n : Nat) {k : Nat} {t : Int × Int × Int} {l : List (Int × Int × Int)} (ht : okQ t = true) (h0 : t.1 ≠ 0) (hf : farT t ≤ k) : joinQ pre n (decQ k (t :: l)) = joinQ (pre ++ (List.replicate (farT t - 1) 0 ++ [numT t])) (n + 1) (decQ (k - farT t) l) := by
  have hp : 0 < farT t := by unfold farT; omega
  obtain ⟨k, rfl⟩ : ∃ j, k = j + 1 := ⟨k - 1, by omega⟩
  rw [decQ, if_pos ht, if_neg h0, if_neg (by omega)]
  unfold joinQ
  by_cases e : (decQ (k + 1 - farT t) l).1 = 0
  · simp only [if_pos e, if_true]
    simp only [Prod.mk.injEq, true_and]
    exact ⟨by simp, by omega⟩
  · simp only [if_neg e]
end Go.Proofs.Ytemckjkdlbipcaa
