/- What the laws on tokens ask, in numbers; steps of a reader of tokens. No program is named here. -/
import Derived.Test.YtemckjkdlbipcaaRunMath
namespace Go.Proofs.Ytemckjkdlbipcaa
set_option linter.unusedVariables false
set_option linter.unusedSimpArgs false
set_option maxRecDepth 100000

/-- Fewer tokens than there are. -/
theorem decR_short : ∀ (zs : List Int) (r k : Nat), (∀ z ∈ zs, -2047 ≤ z ∧ z ≤ 2047) → k < (restT r zs).length → decR (r + zs.length) ((restT r zs).take k) = (3, [], 0)
  | [], r, k, _, hk => by
    cases r with
    | zero => simp [restT] at hk
    | succ r =>
      rw [restT_nil, if_neg (by omega)] at hk ⊢
      simp only [List.length_singleton] at hk
      obtain rfl : k = 0 := by omega
      rfl
  | z :: zs, r, k, h, hk => by
    have hzs : ∀ z ∈ zs, -2047 ≤ z ∧ z ≤ 2047 := fun x hx => h x (List.mem_cons_of_mem _ hx)
    have hz := h z List.mem_cons_self
    by_cases h0 : z = 0
    · subst h0
      rw [restT_zero] at hk ⊢
      rw [List.length_cons, show r + (zs.length + 1) = r + 1 + zs.length by omega]
      exact decR_short zs (r + 1) k hzs hk
    · rw [restT_cons r zs h0] at hk ⊢
      have e : r + (z :: zs).length = (zs.length + (r % 16 + 1)) + 16 * (r / 16) := by rw [List.length_cons]; omega
      rw [e]
      by_cases hq : k ≤ r / 16
      · rw [List.take_append_of_le_length (by rw [List.length_replicate]; exact hq), List.take_replicate, Nat.min_eq_left hq]
        rw [show zs.length + (r % 16 + 1) + 16 * (r / 16) = (zs.length + (r % 16) + 16 * (r / 16 - k)) + 1 + 16 * k by omega]
        have := decR_longs k (zs.length + (r % 16) + 16 * (r / 16 - k) + 1) []
        rw [List.append_nil, decR_none] at this
        rw [this]; rfl
      · obtain ⟨j, rfl⟩ : ∃ j, k = r / 16 + (j + 1) := ⟨k - r / 16 - 1, by omega⟩
        rw [List.length_append, List.length_replicate, List.length_cons] at hk
        have e2 : (List.replicate (r / 16) tkLong ++ tkN (r % 16) z :: restT 0 zs).take (r / 16 + (j + 1)) = List.replicate (r / 16) tkLong ++ tkN (r % 16) z :: (restT 0 zs).take j := by
          rw [List.take_append, List.length_replicate, List.take_of_length_le (by rw [List.length_replicate]; omega), show r / 16 + (j + 1) - r / 16 = j + 1 by omega, List.take_succ_cons]
        have ih := decR_short zs 0 j hzs (by omega)
        rw [Nat.zero_add] at ih
        rw [e2, decR_longs, decR_num (by omega) h0 hz.1 hz.2, ih]
        rfl
theorem decB_short {before : Int} {zs : List Int} (hb : -2047 ≤ before ∧ before ≤ 2047) (hl : zs.length = 64) (h : ∀ z ∈ zs, -2047 ≤ z ∧ z ≤ 2047) {k : Nat} (hk : k < (toksZ before zs).length) : decB before ((toksZ before zs).take k) = (3, [], 0) := by
  match zs, hl, h with
  | z :: zs, hl, h =>
    have hz := h z List.mem_cons_self
    have hzs : ∀ z ∈ zs, -2047 ≤ z ∧ z ≤ 2047 := fun x hx => h x (List.mem_cons_of_mem _ hx)
    rw [List.length_cons] at hl
    unfold decB
    rw [if_neg (by omega)]
    cases k with
    | zero => rfl
    | succ k =>
      simp only [toksZ, List.length_cons] at hk
      have hr := decR_short zs 0 k hzs (by omega)
      rw [Nat.zero_add, show zs.length = 63 by omega] at hr
      simp only [toksZ, List.take_succ_cons]
      have e : before + numT (tkN 0 (z - before)) = z := by rw [numT_tkN]; omega
      rw [if_pos ⟨tkN_fit (by omega) (by omega), by unfold tkN; simp, by rw [e]; exact hz.1, by rw [e]; exact hz.2⟩, hr]
      rfl
/-- How many numbers are not 0. -/
def fullN : List Int → Nat
  | [] => 0
  | z :: zs => if z = 0 then fullN zs else fullN zs + 1
/-- Is there an end to tell? -/
def endT : Nat → List Int → Nat
  | r, [] => if r = 0 then 0 else 1
  | r, z :: zs => if z = 0 then endT (r + 1) zs else endT 0 zs
def isLong (t : Int × Int × Int) : Bool := t.1 == 240
theorem few_rest : ∀ (zs : List Int) (r : Nat), (∀ z ∈ zs, -2047 ≤ z ∧ z ≤ 2047) → (restT r zs).length = fullN zs + (restT r zs).countP isLong + endT r zs
  | [], r, _ => by
    rw [restT_nil]
    by_cases h : r = 0
    · simp [h, fullN, endT]
    · simp [h, fullN, endT, tkEnd, isLong]
  | z :: zs, r, h => by
    have hzs : ∀ z ∈ zs, -2047 ≤ z ∧ z ≤ 2047 := fun x hx => h x (List.mem_cons_of_mem _ hx)
    have hz := h z List.mem_cons_self
    by_cases h0 : z = 0
    · subst h0
      rw [restT_zero, few_rest zs (r + 1) hzs, fullN, if_pos rfl, endT, if_pos rfl]
    · have h1 : isLong (tkN (r % 16) z) = false := by
        have := (tkN_sym (r := r % 16) h0 hz.1 hz.2).2
        unfold isLong; simpa using this
      have h2 : isLong tkLong = true := by decide
      have h3 : List.countP isLong (List.replicate (r / 16) tkLong) = r / 16 := by
        rw [List.countP_replicate, if_pos h2]
      have ih := few_rest zs 0 hzs
      rw [restT_cons r zs h0, fullN, if_neg h0, endT, if_neg h0, List.length_append, List.length_replicate, List.length_cons, List.countP_append, h3, List.countP_cons, h1]
      simp only [Bool.false_eq_true, if_false]
      omega
theorem long_rest : ∀ (zs : List Int) (r : Nat), (∀ z ∈ zs, -2047 ≤ z ∧ z ≤ 2047) → 16 * (restT r zs).countP isLong ≤ r + zs.length
  | [], r, _ => by
    rw [restT_nil]
    by_cases h : r = 0
    · simp [h]
    · simp [h, tkEnd, isLong]
  | z :: zs, r, h => by
    have hzs : ∀ z ∈ zs, -2047 ≤ z ∧ z ≤ 2047 := fun x hx => h x (List.mem_cons_of_mem _ hx)
    have hz := h z List.mem_cons_self
    by_cases h0 : z = 0
    · subst h0
      have := long_rest zs (r + 1) hzs
      rw [restT_zero, List.length_cons]; omega
    · have h1 : isLong (tkN (r % 16) z) = false := by
        have := (tkN_sym (r := r % 16) h0 hz.1 hz.2).2
        unfold isLong; simpa using this
      have h2 : isLong tkLong = true := by decide
      have h3 : List.countP isLong (List.replicate (r / 16) tkLong) = r / 16 := by
        rw [List.countP_replicate, if_pos h2]
      have ih := long_rest zs 0 hzs
      rw [restT_cons r zs h0, List.countP_append, h3, List.countP_cons, h1, List.length_cons]
      simp only [Bool.false_eq_true, if_false]
      omega
theorem len_rest : ∀ (zs : List Int) (r : Nat), (restT r zs).length ≤ r + zs.length
  | [], r => by
    rw [restT_nil]
    by_cases h : r = 0
    · simp [h]
    · simp [h]; omega
  | z :: zs, r => by
    by_cases h0 : z = 0
    · subst h0
      have := len_rest zs (r + 1)
      rw [restT_zero, List.length_cons]; omega
    · have ih := len_rest zs 0
      rw [restT_cons r zs h0, List.length_append, List.length_replicate, List.length_cons, List.length_cons]
      omega
theorem pos_rest : ∀ (zs : List Int) (r : Nat), 0 < r + zs.length → 0 < (restT r zs).length
  | [], r, h => by
    rw [List.length_nil] at h
    rw [restT_nil, if_neg (by omega)]; simp
  | z :: zs, r, h => by
    by_cases h0 : z = 0
    · subst h0
      rw [restT_zero]; exact pos_rest zs (r + 1) (by omega)
    · rw [restT_cons r zs h0, List.length_append, List.length_cons]; omega
/-- The last token. -/
theorem last_rest : ∀ (zs : List Int) (r : Nat), (∀ z ∈ zs, -2047 ≤ z ∧ z ≤ 2047) → 0 < r + zs.length → ((restT r zs).getLast? = some tkEnd ↔ endT r zs = 1)
  | [], r, _, h => by
    rw [List.length_nil] at h
    rw [restT_nil, if_neg (by omega), endT, if_neg (by omega)]; simp
  | z :: zs, r, h, hp => by
    have hzs : ∀ z ∈ zs, -2047 ≤ z ∧ z ≤ 2047 := fun x hx => h x (List.mem_cons_of_mem _ hx)
    have hz := h z List.mem_cons_self
    by_cases h0 : z = 0
    · subst h0
      rw [restT_zero, endT, if_pos rfl]; exact last_rest zs (r + 1) hzs (by omega)
    · rw [restT_cons r zs h0, endT, if_neg h0]
      have hne : tkN (r % 16) z ≠ tkEnd := fun e => (tkN_sym (r := r % 16) h0 hz.1 hz.2).1 (by rw [e]; rfl)
      cases zs with
      | nil =>
        rw [restT_nil, if_pos rfl, endT, if_pos rfl]
        simp [hne]
      | cons y ys =>
        have hp2 := pos_rest (y :: ys) 0 (by simp)
        rw [← last_rest (y :: ys) 0 hzs (by simp)]
        obtain ⟨a, l, e⟩ : ∃ a l, restT 0 (y :: ys) = a :: l := by
          cases h : restT 0 (y :: ys) with
          | nil => rw [h] at hp2; simp at hp2
          | cons a l => exact ⟨a, l, rfl⟩
        rw [e, List.getLast?_append, List.getLast?_cons_cons]
        simp
theorem endT_last : ∀ (zs : List Int) (r : Nat), endT r zs = if (List.replicate r 0 ++ zs).getLast? = some 0 then 1 else 0
  | [], r => by
    rw [endT, List.append_nil]
    by_cases h : r = 0
    · simp [h]
    · rw [if_neg h, List.getLast?_replicate, if_neg h, if_pos rfl]
  | z :: zs, r => by
    rw [endT]
    by_cases h0 : z = 0
    · subst h0
      rw [if_pos rfl, endT_last zs (r + 1), List.replicate_succ', List.append_assoc]; rfl
    · rw [if_neg h0, endT_last zs 0]
      cases zs with
      | nil => simp [h0]
      | cons y ys =>
        rw [List.replicate_zero, List.nil_append, List.getLast?_append, List.getLast?_cons_cons]
        cases e : (y :: ys).getLast? with
        | none => simp at e
        | some a => simp
/-- All together: how many tokens a block has. -/
theorem few_all {before z : Int} {zs : List Int} (hl : zs.length = 63) (h : ∀ z ∈ zs, -2047 ≤ z ∧ z ≤ 2047) :
    (toksZ before (z :: zs)).length = 1 + fullN zs + (restT 0 zs).countP isLong + endT 0 zs ∧ (restT 0 zs).countP isLong ≤ 3 ∧ (toksZ before (z :: zs)).length ≤ 64 ∧ 1 < (toksZ before (z :: zs)).length ∧ ((toksZ before (z :: zs)).getLast? = some tkEnd ↔ endT 0 zs = 1) := by
  have h1 := few_rest zs 0 h
  have h2 := long_rest zs 0 h
  have h3 := len_rest zs 0
  have h4 := pos_rest zs 0 (by omega)
  refine ⟨by rw [toksZ, List.length_cons]; omega, by omega, by rw [toksZ, List.length_cons]; omega, by rw [toksZ, List.length_cons]; omega, ?_⟩
  rw [← last_rest zs 0 h (by omega), toksZ]
  cases e : restT 0 zs with
  | nil => rw [e] at h4; simp at h4
  | cons a l => rw [List.getLast?_cons_cons]
/-- The first token tells what was ahead. -/
theorem first_all {a b z : Int} : tkN 0 (z - a) = tkN 0 (z - b) ↔ a = b := by
  constructor
  · intro h
    unfold tkN at h
    simp only [Prod.mk.injEq] at h
    have := sz_tell (m := z - a) (n := z - b) (by omega) h.2.2
    omega
  · rintro rfl; rfl
theorem rest_zeros : ∀ (k r : Nat), 0 < r + k → restT r (List.replicate k 0) = [tkEnd]
  | 0, r, h => by rw [List.replicate_zero, restT_nil, if_neg (by omega)]
  | k + 1, r, h => by rw [List.replicate_succ, restT_zero]; exact rest_zeros k (r + 1) (by omega)
theorem zero_all (n : Int) : toksZ n (n :: List.replicate 63 0) = [tkEnd, tkEnd] := by
  rw [toksZ, rest_zeros 63 0 (by omega), Int.sub_self]; rfl
/-- A loop over the numbers: what is told so far, and what is still to tell. -/
theorem toks_start (before z : Int) (zs : List Int) : toksZ before (z :: zs) = [tkN 0 (z - before)] ++ restT 0 zs := rfl
theorem toks_next {zs : List Int} {i : Nat} {x : Int} (r : Nat) (hx : zs[i]? = some x) : restT r (zs.drop i) = if x = 0 then restT (r + 1) (zs.drop (i + 1)) else List.replicate (r / 16) tkLong ++ tkN (r % 16) x :: restT 0 (zs.drop (i + 1)) := by
  obtain ⟨hi, e⟩ := List.getElem?_eq_some_iff.1 hx
  rw [List.drop_eq_getElem_cons hi, e]
  by_cases h : x = 0
  · rw [if_pos h, h, restT_zero]
  · rw [if_neg h, restT_cons r _ h]
/-- Numbers read so far, and what is still to read. -/
def joinD (pre : List Int) (u : Nat) (d : Int × List Int × Nat) : Int × List Int × Nat := if d.1 = 0 then (0, pre ++ d.2.1, d.2.2 + u) else (d.1, [], 0)
theorem joinD_all (pre : List Int) (u : Nat) (l : List (Int × Int × Int)) : joinD pre u (decR 0 l) = (0, pre, u) := by
  rw [decR_zero]; unfold joinD; rw [if_pos rfl]; simp
theorem joinD_none (pre : List Int) (u k : Nat) : joinD pre u (decR (k + 1) []) = (3, [], 0) := rfl
theorem joinD_bad (pre : List Int) (u : Nat) {k : Nat} {t : Int × Int × Int} {l : List (Int × Int × Int)} (hk : 0 < k) (h : okT t = false) : joinD pre u (decR k (t :: l)) = (4, [], 0) := by
  obtain ⟨k, rfl⟩ : ∃ j, k = j + 1 := ⟨k - 1, by omega⟩
  rw [decR, if_neg (by rw [h]; decide)]; rfl
theorem joinD_end (pre : List Int) (u : Nat) {k : Nat} {t : Int × Int × Int} {l : List (Int × Int × Int)} (hk : 0 < k) (h : okT t = true) (h0 : t.1 = 0) : joinD pre u (decR k (t :: l)) = (0, pre ++ List.replicate k 0, u + 1) := by
  obtain ⟨k, rfl⟩ : ∃ j, k = j + 1 := ⟨k - 1, by omega⟩
  rw [decR, if_pos h, if_pos h0]; unfold joinD; rw [if_pos rfl]; simp [Nat.add_comm]
theorem joinD_far (pre : List Int) (u : Nat) {k : Nat} {t : Int × Int × Int} {l : List (Int × Int × Int)} (hk : 0 < k) (h : okT t = true) (h0 : t.1 ≠ 0) (hf : k < farT t) : joinD pre u (decR k (t :: l)) = (4, [], 0) := by
  obtain ⟨k, rfl⟩ : ∃ j, k = j + 1 := ⟨k - 1, by omega⟩
  rw [decR, if_pos h, if_neg h0, if_pos hf]; rfl
theorem joinD_next (pre : List Int) (u : Nat) {k : Nat} {t : Int × Int × Int} {l : List (Int × Int × Int)} (h : okT t = true) (h0 : t.1 ≠ 0) (hf : farT t ≤ k) : joinD pre u (decR k (t :: l)) = joinD (pre ++ (List.replicate (farT t - 1) 0 ++ [numT t])) (u + 1) (decR (k - farT t) l) := by
  have hp : 0 < farT t := by unfold farT; omega
  obtain ⟨k, rfl⟩ : ∃ j, k = j + 1 := ⟨k - 1, by omega⟩
  rw [decR, if_pos h, if_neg h0, if_neg (by omega)]
  simp only []
  unfold joinD
  by_cases e : (decR (k + 1 - farT t) l).1 = 0
  · simp only [if_pos e, if_true]
    congr 2
    · simp
    · omega
  · simp only [if_neg e]
end Go.Proofs.Ytemckjkdlbipcaa
