/- The reader of a block's tokens out of any source. No program is named here. -/
import Derived.Test.YtemckjkdlbipcaaRunMath2
namespace Go.Proofs.Ytemckjkdlbipcaa
set_option linter.unusedVariables false
set_option linter.unusedSimpArgs false
set_option maxRecDepth 100000
section
variable {σ : Type} (step : Bool → σ → Int ⊕ ((Int × Int × Int) × σ))
/-- k numbers out of a source: an error's code, the numbers, the tokens, what is left. -/
def gR : Nat → σ → Int × List Int × List (Int × Int × Int) × Option σ
  | 0, s => (0, [], [], some s)
  | k + 1, s =>
    match step false s with
    | .inl e => (e, [], [], none)
    | .inr (t, s2) =>
      if okT t = true then
        if t.1 = 0 then (0, List.replicate (k + 1) 0, [t], some s2)
        else if k + 1 < farT t then (4, [], [], none)
        else
          let d := gR (k + 1 - farT t) s2
          if d.1 = 0 then (0, List.replicate (farT t - 1) 0 ++ numT t :: d.2.1, t :: d.2.2.1, d.2.2.2) else (d.1, [], [], none)
      else (4, [], [], none)
termination_by k => k
decreasing_by unfold farT; omega
/-- Numbers read so far, and what is still to read. -/
def joinG (pre : List Int) (all : List (Int × Int × Int)) (d : Int × List Int × List (Int × Int × Int) × Option σ) : Int × List Int × List (Int × Int × Int) × Option σ :=
  if d.1 = 0 then (0, pre ++ d.2.1, all ++ d.2.2.1, d.2.2.2) else (d.1, [], [], none)
/-- Are they the tokens of the block? -/
def finG (before : Int) (d : Int × List Int × List (Int × Int × Int) × Option σ) : Int × List Int × List (Int × Int × Int) × Option σ :=
  if d.1 = 0 then (if toksZ before d.2.1 = d.2.2.1 then d else (4, [], [], none)) else d
def firstT (before : Int) (t : Int × Int × Int) : Prop := fitT t = true ∧ t.1 = t.2.1 ∧ -2047 ≤ before + numT t ∧ before + numT t ≤ 2047
instance (before : Int) (t : Int × Int × Int) : Decidable (firstT before t) := by unfold firstT; infer_instance
/-- A block out of a source. -/
def gB (before : Int) (s : σ) : Int × List Int × List (Int × Int × Int) × Option σ :=
  match step true s with
  | .inl e => (e, [], [], none)
  | .inr (t, s2) => if firstT before t then finG before (joinG [before + numT t] [t] (gR step 63 s2)) else (4, [], [], none)
variable {step}
theorem gB_none {before e : Int} {s : σ} (h : step true s = .inl e) : gB step before s = (e, [], [], none) := by unfold gB; rw [h]
theorem gB_bad {before : Int} {t : Int × Int × Int} {s s2 : σ} (h : step true s = .inr (t, s2)) (hf : ¬ firstT before t) : gB step before s = (4, [], [], none) := by unfold gB; rw [h]; simp only []; rw [if_neg hf]
theorem gB_go {before : Int} {t : Int × Int × Int} {s s2 : σ} (h : step true s = .inr (t, s2)) (hf : firstT before t) : gB step before s = finG before (joinG [before + numT t] [t] (gR step 63 s2)) := by unfold gB; rw [h]; simp only []; rw [if_pos hf]
theorem joinG_all (pre : List Int) (all : List (Int × Int × Int)) (s : σ) : joinG pre all (gR step 0 s) = (0, pre, all, some s) := by
  rw [gR]; unfold joinG; simp
theorem joinG_none (pre : List Int) (all : List (Int × Int × Int)) {k : Nat} {s : σ} {e : Int} (hk : 0 < k) (he : e ≠ 0) (h : step false s = .inl e) : joinG pre all (gR step k s) = (e, [], [], none) := by
  obtain ⟨k, rfl⟩ : ∃ j, k = j + 1 := ⟨k - 1, by omega⟩
  rw [gR, h]; unfold joinG; simp [he]
theorem joinG_bad (pre : List Int) (all : List (Int × Int × Int)) {k : Nat} {s s2 : σ} {t : Int × Int × Int} (hk : 0 < k) (h : step false s = .inr (t, s2)) (ht : okT t = false) : joinG pre all (gR step k s) = (4, [], [], none) := by
  obtain ⟨k, rfl⟩ : ∃ j, k = j + 1 := ⟨k - 1, by omega⟩
  rw [gR, h]; simp only []; rw [if_neg (by rw [ht]; decide)]; rfl
theorem joinG_end (pre : List Int) (all : List (Int × Int × Int)) {k : Nat} {s s2 : σ} {t : Int × Int × Int} (hk : 0 < k) (h : step false s = .inr (t, s2)) (ht : okT t = true) (h0 : t.1 = 0) : joinG pre all (gR step k s) = (0, pre ++ List.replicate k 0, all ++ [t], some s2) := by
  obtain ⟨k, rfl⟩ : ∃ j, k = j + 1 := ⟨k - 1, by omega⟩
  rw [gR, h]; simp only []; rw [if_pos ht, if_pos h0]; rfl
theorem joinG_far (pre : List Int) (all : List (Int × Int × Int)) {k : Nat} {s s2 : σ} {t : Int × Int × Int} (hk : 0 < k) (h : step false s = .inr (t, s2)) (ht : okT t = true) (h0 : t.1 ≠ 0) (hf : k < farT t) : joinG pre all (gR step k s) = (4, [], [], none) := by
  obtain ⟨k, rfl⟩ : ∃ j, k = j + 1 := ⟨k - 1, by omega⟩
  rw [gR, h]; simp only []; rw [if_pos ht, if_neg h0, if_pos hf]; rfl
theorem joinG_next (pre : List Int) (all : List (Int × Int × Int)) {k : Nat} {s s2 : σ} {t : Int × Int × Int} (h : step false s = .inr (t, s2)) (ht : okT t = true) (h0 : t.1 ≠ 0) (hf : farT t ≤ k) : joinG pre all (gR step k s) = joinG (pre ++ (List.replicate (farT t - 1) 0 ++ [numT t])) (all ++ [t]) (gR step (k - farT t) s2) := by
  have hp : 0 < farT t := by unfold farT; omega
  obtain ⟨k, rfl⟩ : ∃ j, k = j + 1 := ⟨k - 1, by omega⟩
  rw [gR, h]; simp only []
  rw [if_pos ht, if_neg h0, if_neg (by omega)]
  unfold joinG
  by_cases e : (gR step (k + 1 - farT t) s2).1 = 0
  · simp only [if_pos e, if_true]
    congr 2
    · simp
    · simp
  · simp only [if_neg e]
end
/-- Tokens out of a list. -/
def stepL (_ : Bool) (l : List (Int × Int × Int)) : Int ⊕ ((Int × Int × Int) × List (Int × Int × Int)) :=
  match l with
  | [] => .inl 3
  | t :: l => .inr (t, l)
theorem gR_list : ∀ (l : List (Int × Int × Int)) (k : Nat), gR stepL k l = if (decR k l).1 = 0 then (0, (decR k l).2.1, l.take (decR k l).2.2, some (l.drop (decR k l).2.2)) else ((decR k l).1, [], [], none)
  | l, 0 => by rw [decR_zero, gR]; simp
  | [], k + 1 => by rw [decR_none, gR]; simp [stepL]
  | t :: l, k + 1 => by
    rw [gR, decR]
    simp only [stepL]
    by_cases h : okT t = true
    · rw [if_pos h, if_pos h]
      by_cases h0 : t.1 = 0
      · rw [if_pos h0, if_pos h0]; simp
      · rw [if_neg h0, if_neg h0]
        by_cases hf : k + 1 < farT t
        · rw [if_pos hf, if_pos hf]; simp
        · rw [if_neg hf, if_neg hf, gR_list l (k + 1 - farT t)]
          by_cases e : (decR (k + 1 - farT t) l).1 = 0
          · simp [e]
          · simp [e]
    · rw [if_neg h, if_neg h]; simp
theorem gB_list {before : Int} (hb : -2047 ≤ before ∧ before ≤ 2047) (l : List (Int × Int × Int)) :
    (gB stepL before l).1 = (decB before l).1 ∧ (gB stepL before l).2.1 = (decB before l).2.1 ∧ (gB stepL before l).2.2.1.length = (decB before l).2.2 := by
  unfold decB
  rw [if_neg (by omega)]
  cases l with
  | nil => rw [gB_none rfl]; exact ⟨rfl, rfl, rfl⟩
  | cons t l =>
    simp only []
    by_cases h : fitT t = true ∧ t.1 = t.2.1 ∧ -2047 ≤ before + numT t ∧ before + numT t ≤ 2047
    · rw [gB_go (t := t) (s2 := l) rfl h, if_pos h, gR_list]
      by_cases e : (decR 63 l).1 = 0
      · have used : (decR 63 l).2.2 ≤ l.length := by
          have : ∀ (l : List (Int × Int × Int)) (k : Nat), (decR k l).2.2 ≤ l.length := by
            intro l
            induction l with
            | nil => intro k; cases k <;> simp [decR]
            | cons t l ih =>
              intro k
              cases k with
              | zero => rw [decR_zero]; simp
              | succ k =>
                rw [decR]
                split
                · split
                  · simp
                  · split
                    · simp
                    · simp only []
                      split
                      · have := ih (k + 1 - farT t); simp only [List.length_cons]; omega
                      · simp
                · simp
          exact this l 63
        rw [if_pos e, if_pos e]
        simp only [joinG, finG, if_true, List.singleton_append]
        by_cases q : toksZ before ((before + numT t) :: (decR 63 l).2.1) = t :: l.take (decR 63 l).2.2
        · rw [if_pos q, if_pos q]
          refine ⟨rfl, rfl, ?_⟩
          simp only [List.length_cons, List.length_take]; omega
        · rw [if_neg q, if_neg q]; exact ⟨rfl, rfl, rfl⟩
      · rw [if_neg e, if_neg e]
        simp [joinG, finG, e]
    · rw [gB_bad (t := t) (s2 := l) rfl h, if_neg h]; exact ⟨rfl, rfl, rfl⟩
end Go.Proofs.Ytemckjkdlbipcaa
