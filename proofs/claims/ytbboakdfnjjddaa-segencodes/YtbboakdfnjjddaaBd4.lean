/- Texts shared by the claims of this seat, in one. -/
import Derived.Test.YtbboakdfnjjddaaBd3
import Derived.Test.YtbboakdfnjjddaaBd1
import Derived.Test.YtbboakdfnjjddaaRows
import Derived.BigRegion
import Derived.Laws.MakeOwn
import Derived.Laws.ResultCell
import Derived.ChangeKeysEq
import Derived.OpenShut
/- Tokens of the numbers of a block, and numbers of tokens. No program is named here. -/
namespace Go.Proofs.Ytbboakdfnjjddaa
set_option linter.unusedVariables false
set_option linter.unusedSimpArgs false
set_option maxRecDepth 100000

/-- A token: its symbol, its width, its value. -/
def tkN (r : Nat) (n : Int) : Int × Int × Int := (16 * (r : Int) + szZ n, (szZ n : Int), vbZ n)
def tkLong : Int × Int × Int := (240, 0, 0)
def tkEnd : Int × Int × Int := (0, 0, 0)
/-- The tokens of the numbers behind the first one, r zeros being ahead. -/
def restT : Nat → List Int → List (Int × Int × Int)
  | r, [] => if r = 0 then [] else [tkEnd]
  | r, z :: zs => if z = 0 then restT (r + 1) zs else List.replicate (r / 16) tkLong ++ tkN (r % 16) z :: restT 0 zs
/-- The tokens of a block's numbers in their order. -/
def toksZ (before : Int) : List Int → List (Int × Int × Int)
  | [] => []
  | z :: zs => tkN 0 (z - before) :: restT 0 zs
theorem restT_nil (r : Nat) : restT r [] = if r = 0 then [] else [tkEnd] := rfl
theorem restT_zero (r : Nat) (zs : List Int) : restT r (0 :: zs) = restT (r + 1) zs := by rw [restT, if_pos rfl]
theorem restT_cons {z : Int} (r : Nat) (zs : List Int) (h : z ≠ 0) : restT r (z :: zs) = List.replicate (r / 16) tkLong ++ tkN (r % 16) z :: restT 0 zs := by rw [restT, if_neg h]
/-- Is a token told by a width and bits? -/
def fitT (t : Int × Int × Int) : Bool := decide (0 ≤ t.2.1 ∧ t.2.1 ≤ 12 ∧ 0 ≤ t.2.2 ∧ t.2.2 < pw t.2.1.toNat)
/-- May a token come behind the first one? -/
def okT (t : Int × Int × Int) : Bool := fitT t && decide (0 ≤ t.1 ∧ t.1 ≤ 255 ∧ t.1 % 16 = t.2.1 ∧ t.2.1 ≤ 11 ∧ (t.2.1 = 0 → t.1 = 0 ∨ t.1 = 240))
/-- The number of a token. -/
def numT (t : Int × Int × Int) : Int := bkZ t.2.1.toNat t.2.2
/-- How many numbers a token tells. -/
def farT (t : Int × Int × Int) : Nat := (t.1 / 16).toNat + 1
/-- k numbers out of tokens: an error's code, the numbers, how many tokens were taken. -/
def decR : Nat → List (Int × Int × Int) → Int × List Int × Nat
  | 0, _ => (0, [], 0)
  | _ + 1, [] => (3, [], 0)
  | k + 1, t :: l =>
    if okT t = true then
      if t.1 = 0 then (0, List.replicate (k + 1) 0, 1)
      else if k + 1 < farT t then (4, [], 0)
      else
        let d := decR (k + 1 - farT t) l
        if d.1 = 0 then (0, List.replicate (farT t - 1) 0 ++ numT t :: d.2.1, d.2.2 + 1) else (d.1, [], 0)
    else (4, [], 0)
theorem decR_zero (l : List (Int × Int × Int)) : decR 0 l = (0, [], 0) := by cases l <;> rfl
theorem decR_none (k : Nat) : decR (k + 1) [] = (3, [], 0) := rfl
theorem tkN_fit {r : Nat} {n : Int} (h1 : -4095 ≤ n) (h2 : n ≤ 4095) : fitT (tkN r n) = true := by
  have h := vbZ_in n
  have := sz_12 h1 h2
  unfold fitT tkN
  simp only [decide_eq_true_eq, Int.toNat_natCast]
  omega
theorem numT_tkN (r : Nat) (n : Int) : numT (tkN r n) = n := by
  unfold numT tkN
  simp only [Int.toNat_natCast]
  exact bk_vb n
theorem tkN_ok {r : Nat} {n : Int} (hr : r ≤ 15) (hn : n ≠ 0) (h1 : -2047 ≤ n) (h2 : n ≤ 2047) : okT (tkN r n) = true := by
  have h3 := sz_11 h1 h2
  have h4 := szZ_pos hn
  unfold okT
  rw [tkN_fit (by omega) (by omega)]
  unfold tkN
  simp only [Bool.true_and, decide_eq_true_eq]
  refine ⟨by omega, by omega, by omega, by omega, fun h => by omega⟩
theorem tkN_far {r : Nat} {n : Int} (h1 : -2047 ≤ n) (h2 : n ≤ 2047) : farT (tkN r n) = r + 1 := by
  have h3 := sz_11 h1 h2
  unfold farT tkN
  simp only []
  omega
theorem tkN_sym {r : Nat} {n : Int} (hn : n ≠ 0) (h1 : -2047 ≤ n) (h2 : n ≤ 2047) : (tkN r n).1 ≠ 0 ∧ (tkN r n).1 ≠ 240 := by
  have h3 := sz_11 h1 h2
  have h4 := szZ_pos hn
  unfold tkN
  simp only []
  omega
theorem tkLong_ok : okT tkLong = true := by decide
theorem tkEnd_ok : okT tkEnd = true := by decide
theorem tkLong_far : farT tkLong = 16 := by decide
theorem tkLong_num : numT tkLong = 0 := by decide
/-- Sixteen zeros. -/
theorem decR_long (k : Nat) (l : List (Int × Int × Int)) : decR (k + 16) (tkLong :: l) = if (decR k l).1 = 0 then (0, List.replicate 16 0 ++ (decR k l).2.1, (decR k l).2.2 + 1) else ((decR k l).1, [], 0) := by
  rw [show k + 16 = (k + 15) + 1 from rfl, decR]
  simp only [tkLong_ok, tkLong_far, tkLong_num, if_true]
  rw [if_neg (by decide), if_neg (by omega), show k + 15 + 1 - 16 = k by omega]
  by_cases h : (decR k l).1 = 0
  · rw [if_pos h, if_pos h]
    have e : List.replicate (16 - 1) (0 : Int) ++ 0 :: (decR k l).2.1 = List.replicate 16 0 ++ (decR k l).2.1 := by
      rw [show List.replicate 16 (0 : Int) = List.replicate 15 0 ++ [0] from rfl, List.append_assoc]; rfl
    rw [e]
  · rw [if_neg h, if_neg h]
theorem decR_longs (q k : Nat) (l : List (Int × Int × Int)) : decR (k + 16 * q) (List.replicate q tkLong ++ l) = if (decR k l).1 = 0 then (0, List.replicate (16 * q) 0 ++ (decR k l).2.1, (decR k l).2.2 + q) else ((decR k l).1, [], 0) := by
  induction q with
  | zero =>
    simp only [List.replicate_zero, List.nil_append, Nat.mul_zero, Nat.add_zero]
    by_cases h : (decR k l).1 = 0
    · rw [if_pos h, ← h]
    · rw [if_neg h]
      have : ∀ k l, (decR k l).1 ≠ 0 → (decR k l) = ((decR k l).1, [], 0) := by
        intro k l h
        cases k with
        | zero => rw [decR_zero] at h; exact absurd rfl h
        | succ k =>
          cases l with
          | nil => rfl
          | cons t l =>
            rw [decR] at h ⊢
            split at h
            · split at h
              · exact absurd rfl h
              · split at h
                · rw [if_pos ‹_›, if_neg ‹_›, if_pos ‹_›]
                · rw [if_pos ‹_›, if_neg ‹_›, if_neg ‹_›]
                  simp only [] at h ⊢
                  split at h
                  · exact absurd rfl h
                  · rw [if_neg ‹_›]
            · rw [if_neg ‹_›]
      exact this k l h
  | succ q ih =>
    rw [List.replicate_succ, List.cons_append, show k + 16 * (q + 1) = k + 16 * q + 16 by omega, decR_long, ih]
    by_cases h : (decR k l).1 = 0
    · simp only [if_pos h, if_true]
      rw [show List.replicate (16 * (q + 1)) (0 : Int) = List.replicate 16 0 ++ List.replicate (16 * q) 0 by rw [List.replicate_append_replicate]; congr 1; omega, List.append_assoc]
      congr 2
    · simp only [if_neg h]
/-- One number that is not 0. -/
theorem decR_num {r k : Nat} {z : Int} (hr : r ≤ 15) (hz : z ≠ 0) (h1 : -2047 ≤ z) (h2 : z ≤ 2047) (l : List (Int × Int × Int)) : decR (k + (r + 1)) (tkN r z :: l) = if (decR k l).1 = 0 then (0, List.replicate r 0 ++ z :: (decR k l).2.1, (decR k l).2.2 + 1) else ((decR k l).1, [], 0) := by
  rw [show k + (r + 1) = (k + r) + 1 from rfl, decR]
  simp only [tkN_ok hr hz h1 h2, tkN_far h1 h2, numT_tkN, if_true]
  rw [if_neg (tkN_sym hz h1 h2).1, if_neg (by omega), show k + r + 1 - (r + 1) = k by omega, Nat.add_sub_cancel]
/-- What was told is read. -/
theorem decR_restT : ∀ (zs : List Int) (r : Nat) (more : List (Int × Int × Int)), (∀ z ∈ zs, -2047 ≤ z ∧ z ≤ 2047) → decR (r + zs.length) (restT r zs ++ more) = (0, List.replicate r 0 ++ zs, (restT r zs).length)
  | [], r, more, _ => by
    cases r with
    | zero => simp [restT, decR_zero]
    | succ r =>
      rw [restT_nil, if_neg (by omega)]
      simp only [List.length_nil, Nat.add_zero, List.append_nil, List.length_singleton, List.singleton_append]
      rw [decR]
      simp only [tkEnd_ok, if_true]
      rw [if_pos (by decide)]
  | z :: zs, r, more, h => by
    have hzs : ∀ z ∈ zs, -2047 ≤ z ∧ z ≤ 2047 := fun x hx => h x (List.mem_cons_of_mem _ hx)
    have hz := h z List.mem_cons_self
    by_cases h0 : z = 0
    · subst h0
      rw [restT_zero, List.length_cons, show r + (zs.length + 1) = r + 1 + zs.length by omega, decR_restT zs (r + 1) more hzs]
      congr 2
      rw [List.replicate_succ', List.append_assoc]; rfl
    · rw [restT_cons r zs h0, List.append_assoc, List.cons_append]
      have e : r + (z :: zs).length = (zs.length + (r % 16 + 1)) + 16 * (r / 16) := by rw [List.length_cons]; omega
      have ih := decR_restT zs 0 more hzs
      rw [Nat.zero_add] at ih
      rw [e, decR_longs, decR_num (by omega) h0 hz.1 hz.2, ih]
      simp only [if_true]
      have e2 : List.replicate (16 * (r / 16)) (0 : Int) ++ (List.replicate (r % 16) 0 ++ z :: (List.replicate 0 0 ++ zs)) = List.replicate r 0 ++ z :: zs := by
        rw [← List.append_assoc, List.replicate_append_replicate, show 16 * (r / 16) + r % 16 = r by omega]; rfl
      rw [e2]
      congr 2
      simp only [List.length_append, List.length_replicate, List.length_cons]
      omega
/-- The numbers of a block out of tokens. -/
def decB (before : Int) (l : List (Int × Int × Int)) : Int × List Int × Nat :=
  if before < -2047 ∨ 2047 < before then (1, [], 0) else
  match l with
  | [] => (3, [], 0)
  | t :: l =>
    if fitT t = true ∧ t.1 = t.2.1 ∧ -2047 ≤ before + numT t ∧ before + numT t ≤ 2047 then
      let d := decR 63 l
      if d.1 = 0 then
        if toksZ before ((before + numT t) :: d.2.1) = t :: l.take d.2.2 then (0, (before + numT t) :: d.2.1, d.2.2 + 1) else (4, [], 0)
      else (d.1, [], 0)
    else (4, [], 0)
/-- A block is told by its tokens, whatever comes behind. -/
theorem decB_toksZ {before : Int} {zs : List Int} (hb : -2047 ≤ before ∧ before ≤ 2047) (hl : zs.length = 64) (h : ∀ z ∈ zs, -2047 ≤ z ∧ z ≤ 2047) (more : List (Int × Int × Int)) :
    decB before (toksZ before zs ++ more) = (0, zs, (toksZ before zs).length) := by
  match zs, hl, h with
  | z :: zs, hl, h =>
    have hz := h z List.mem_cons_self
    have hzs : ∀ z ∈ zs, -2047 ≤ z ∧ z ≤ 2047 := fun x hx => h x (List.mem_cons_of_mem _ hx)
    rw [List.length_cons] at hl
    have hr := decR_restT zs 0 more hzs
    rw [Nat.zero_add, show zs.length = 63 by omega] at hr
    unfold decB
    rw [if_neg (by omega)]
    simp only [toksZ, List.cons_append]
    have e : before + numT (tkN 0 (z - before)) = z := by rw [numT_tkN]; omega
    rw [if_pos ⟨tkN_fit (by omega) (by omega), by unfold tkN; simp, by rw [e]; exact hz.1, by rw [e]; exact hz.2⟩, hr, e]
    simp only [if_true, List.replicate_zero, List.nil_append]
    rw [List.take_append_of_le_length (Nat.le_refl _), List.take_length]
    exact if_pos rfl
/-- What is read has just these tokens. -/
theorem decB_again {before : Int} {l : List (Int × Int × Int)} {zs : List Int} {n : Nat} (h : decB before l = (0, zs, n)) : (-2047 ≤ before ∧ before ≤ 2047) ∧ toksZ before zs = l.take n ∧ 0 < n ∧ n ≤ l.length := by
  have used : ∀ (l : List (Int × Int × Int)) (k : Nat), (decR k l).2.2 ≤ l.length := by
    intro l
    induction l with
    | nil => intro k; cases k <;> simp [decR]
    | cons t l ih =>
      intro k
      cases k with
      | zero => rw [decR_zero]; simp
      | succ k =>
        rw [decR]
        split
        · split
          · simp
          · split
            · simp
            · simp only []
              split
              · have := ih (k + 1 - farT t); simp only [List.length_cons]; omega
              · simp
        · simp
  unfold decB at h
  by_cases hb : before < -2047 ∨ 2047 < before
  · rw [if_pos hb] at h; simp at h
  · rw [if_neg hb] at h
    cases l with
    | nil => simp at h
    | cons t l =>
      simp only [] at h
      split at h
      · split at h
        · split at h
          · rename_i h1 h2 h3
            simp only [Prod.mk.injEq, true_and] at h
            obtain ⟨rfl, rfl⟩ := h
            have := used l 63
            exact ⟨by omega, h3, by omega, by rw [List.length_cons]; omega⟩
          · simp at h
        · simp only [Prod.mk.injEq] at h
          rename_i h2
          exact absurd h.1 h2
      · simp at h
end Go.Proofs.Ytbboakdfnjjddaa

/- What the laws on tokens ask, in numbers; steps of a reader of tokens. No program is named here. -/
namespace Go.Proofs.Ytbboakdfnjjddaa
set_option linter.unusedVariables false
set_option linter.unusedSimpArgs false
set_option maxRecDepth 100000

/-- Fewer tokens than there are. -/
theorem decR_short : ∀ (zs : List Int) (r k : Nat), (∀ z ∈ zs, -2047 ≤ z ∧ z ≤ 2047) → k < (restT r zs).length → decR (r + zs.length) ((restT r zs).take k) = (3, [], 0)
  | [], r, k, _, hk => by
    cases r with
    | zero => simp [restT] at hk
    | succ r =>
      rw [restT_nil, if_neg (by omega)] at hk ⊢
      simp only [List.length_singleton] at hk
      obtain rfl : k = 0 := by omega
      rfl
  | z :: zs, r, k, h, hk => by
    have hzs : ∀ z ∈ zs, -2047 ≤ z ∧ z ≤ 2047 := fun x hx => h x (List.mem_cons_of_mem _ hx)
    have hz := h z List.mem_cons_self
    by_cases h0 : z = 0
    · subst h0
      rw [restT_zero] at hk ⊢
      rw [List.length_cons, show r + (zs.length + 1) = r + 1 + zs.length by omega]
      exact decR_short zs (r + 1) k hzs hk
    · rw [restT_cons r zs h0] at hk ⊢
      have e : r + (z :: zs).length = (zs.length + (r % 16 + 1)) + 16 * (r / 16) := by rw [List.length_cons]; omega
      rw [e]
      by_cases hq : k ≤ r / 16
      · rw [List.take_append_of_le_length (by rw [List.length_replicate]; exact hq), List.take_replicate, Nat.min_eq_left hq]
        rw [show zs.length + (r % 16 + 1) + 16 * (r / 16) = (zs.length + (r % 16) + 16 * (r / 16 - k)) + 1 + 16 * k by omega]
        have := decR_longs k (zs.length + (r % 16) + 16 * (r / 16 - k) + 1) []
        rw [List.append_nil, decR_none] at this
        rw [this]; rfl
      · obtain ⟨j, rfl⟩ : ∃ j, k = r / 16 + (j + 1) := ⟨k - r / 16 - 1, by omega⟩
        rw [List.length_append, List.length_replicate, List.length_cons] at hk
        have e2 : (List.replicate (r / 16) tkLong ++ tkN (r % 16) z :: restT 0 zs).take (r / 16 + (j + 1)) = List.replicate (r / 16) tkLong ++ tkN (r % 16) z :: (restT 0 zs).take j := by
          rw [List.take_append, List.length_replicate, List.take_of_length_le (by rw [List.length_replicate]; omega), show r / 16 + (j + 1) - r / 16 = j + 1 by omega, List.take_succ_cons]
        have ih := decR_short zs 0 j hzs (by omega)
        rw [Nat.zero_add] at ih
        rw [e2, decR_longs, decR_num (by omega) h0 hz.1 hz.2, ih]
        rfl
theorem decB_short {before : Int} {zs : List Int} (hb : -2047 ≤ before ∧ before ≤ 2047) (hl : zs.length = 64) (h : ∀ z ∈ zs, -2047 ≤ z ∧ z ≤ 2047) {k : Nat} (hk : k < (toksZ before zs).length) : decB before ((toksZ before zs).take k) = (3, [], 0) := by
  match zs, hl, h with
  | z :: zs, hl, h =>
    have hz := h z List.mem_cons_self
    have hzs : ∀ z ∈ zs, -2047 ≤ z ∧ z ≤ 2047 := fun x hx => h x (List.mem_cons_of_mem _ hx)
    rw [List.length_cons] at hl
    unfold decB
    rw [if_neg (by omega)]
    cases k with
    | zero => rfl
    | succ k =>
      simp only [toksZ, List.length_cons] at hk
      have hr := decR_short zs 0 k hzs (by omega)
      rw [Nat.zero_add, show zs.length = 63 by omega] at hr
      simp only [toksZ, List.take_succ_cons]
      have e : before + numT (tkN 0 (z - before)) = z := by rw [numT_tkN]; omega
      rw [if_pos ⟨tkN_fit (by omega) (by omega), by unfold tkN; simp, by rw [e]; exact hz.1, by rw [e]; exact hz.2⟩, hr]
      rfl
/-- How many numbers are not 0. -/
def fullN : List Int → Nat
  | [] => 0
  | z :: zs => if z = 0 then fullN zs else fullN zs + 1
/-- Is there an end to tell? -/
def endT : Nat → List Int → Nat
  | r, [] => if r = 0 then 0 else 1
  | r, z :: zs => if z = 0 then endT (r + 1) zs else endT 0 zs
def isLong (t : Int × Int × Int) : Bool := t.1 == 240
theorem few_rest : ∀ (zs : List Int) (r : Nat), (∀ z ∈ zs, -2047 ≤ z ∧ z ≤ 2047) → (restT r zs).length = fullN zs + (restT r zs).countP isLong + endT r zs
  | [], r, _ => by
    rw [restT_nil]
    by_cases h : r = 0
    · simp [h, fullN, endT]
    · simp [h, fullN, endT, tkEnd, isLong]
  | z :: zs, r, h => by
    have hzs : ∀ z ∈ zs, -2047 ≤ z ∧ z ≤ 2047 := fun x hx => h x (List.mem_cons_of_mem _ hx)
    have hz := h z List.mem_cons_self
    by_cases h0 : z = 0
    · subst h0
      rw [restT_zero, few_rest zs (r + 1) hzs, fullN, if_pos rfl, endT, if_pos rfl]
    · have h1 : isLong (tkN (r % 16) z) = false := by
        have := (tkN_sym (r := r % 16) h0 hz.1 hz.2).2
        unfold isLong; simpa using this
      have h2 : isLong tkLong = true := by decide
      have h3 : List.countP isLong (List.replicate (r / 16) tkLong) = r / 16 := by
        rw [List.countP_replicate, if_pos h2]
      have ih := few_rest zs 0 hzs
      rw [restT_cons r zs h0, fullN, if_neg h0, endT, if_neg h0, List.length_append, List.length_replicate, List.length_cons, List.countP_append, h3, List.countP_cons, h1]
      simp only [Bool.false_eq_true, if_false]
      omega
theorem long_rest : ∀ (zs : List Int) (r : Nat), (∀ z ∈ zs, -2047 ≤ z ∧ z ≤ 2047) → 16 * (restT r zs).countP isLong ≤ r + zs.length
  | [], r, _ => by
    rw [restT_nil]
    by_cases h : r = 0
    · simp [h]
    · simp [h, tkEnd, isLong]
  | z :: zs, r, h => by
    have hzs : ∀ z ∈ zs, -2047 ≤ z ∧ z ≤ 2047 := fun x hx => h x (List.mem_cons_of_mem _ hx)
    have hz := h z List.mem_cons_self
    by_cases h0 : z = 0
    · subst h0
      have := long_rest zs (r + 1) hzs
      rw [restT_zero, List.length_cons]; omega
    · have h1 : isLong (tkN (r % 16) z) = false := by
        have := (tkN_sym (r := r % 16) h0 hz.1 hz.2).2
        unfold isLong; simpa using this
      have h2 : isLong tkLong = true := by decide
      have h3 : List.countP isLong (List.replicate (r / 16) tkLong) = r / 16 := by
        rw [List.countP_replicate, if_pos h2]
      have ih := long_rest zs 0 hzs
      rw [restT_cons r zs h0, List.countP_append, h3, List.countP_cons, h1, List.length_cons]
      simp only [Bool.false_eq_true, if_false]
      omega
theorem len_rest : ∀ (zs : List Int) (r : Nat), (restT r zs).length ≤ r + zs.length
  | [], r => by
    rw [restT_nil]
    by_cases h : r = 0
    · simp [h]
    · simp [h]; omega
  | z :: zs, r => by
    by_cases h0 : z = 0
    · subst h0
      have := len_rest zs (r + 1)
      rw [restT_zero, List.length_cons]; omega
    · have ih := len_rest zs 0
      rw [restT_cons r zs h0, List.length_append, List.length_replicate, List.length_cons, List.length_cons]
      omega
theorem pos_rest : ∀ (zs : List Int) (r : Nat), 0 < r + zs.length → 0 < (restT r zs).length
  | [], r, h => by
    rw [List.length_nil] at h
    rw [restT_nil, if_neg (by omega)]; simp
  | z :: zs, r, h => by
    by_cases h0 : z = 0
    · subst h0
      rw [restT_zero]; exact pos_rest zs (r + 1) (by omega)
    · rw [restT_cons r zs h0, List.length_append, List.length_cons]; omega
/-- The last token. -/
theorem last_rest : ∀ (zs : List Int) (r : Nat), (∀ z ∈ zs, -2047 ≤ z ∧ z ≤ 2047) → 0 < r + zs.length → ((restT r zs).getLast? = some tkEnd ↔ endT r zs = 1)
  | [], r, _, h => by
    rw [List.length_nil] at h
    rw [restT_nil, if_neg (by omega), endT, if_neg (by omega)]; simp
  | z :: zs, r, h, hp => by
    have hzs : ∀ z ∈ zs, -2047 ≤ z ∧ z ≤ 2047 := fun x hx => h x (List.mem_cons_of_mem _ hx)
    have hz := h z List.mem_cons_self
    by_cases h0 : z = 0
    · subst h0
      rw [restT_zero, endT, if_pos rfl]; exact last_rest zs (r + 1) hzs (by omega)
    · rw [restT_cons r zs h0, endT, if_neg h0]
      have hne : tkN (r % 16) z ≠ tkEnd := fun e => (tkN_sym (r := r % 16) h0 hz.1 hz.2).1 (by rw [e]; rfl)
      cases zs with
      | nil =>
        rw [restT_nil, if_pos rfl, endT, if_pos rfl]
        simp [hne]
      | cons y ys =>
        have hp2 := pos_rest (y :: ys) 0 (by simp)
        rw [← last_rest (y :: ys) 0 hzs (by simp)]
        obtain ⟨a, l, e⟩ : ∃ a l, restT 0 (y :: ys) = a :: l := by
          cases h : restT 0 (y :: ys) with
          | nil => rw [h] at hp2; simp at hp2
          | cons a l => exact ⟨a, l, rfl⟩
        rw [e, List.getLast?_append, List.getLast?_cons_cons]
        simp
theorem endT_last : ∀ (zs : List Int) (r : Nat), endT r zs = if (List.replicate r 0 ++ zs).getLast? = some 0 then 1 else 0
  | [], r => by
    rw [endT, List.append_nil]
    by_cases h : r = 0
    · simp [h]
    · rw [if_neg h, List.getLast?_replicate, if_neg h, if_pos rfl]
  | z :: zs, r => by
    rw [endT]
    by_cases h0 : z = 0
    · subst h0
      rw [if_pos rfl, endT_last zs (r + 1), List.replicate_succ', List.append_assoc]; rfl
    · rw [if_neg h0, endT_last zs 0]
      cases zs with
      | nil => simp [h0]
      | cons y ys =>
        rw [List.replicate_zero, List.nil_append, List.getLast?_append, List.getLast?_cons_cons]
        cases e : (y :: ys).getLast? with
        | none => simp at e
        | some a => simp
/-- All together: how many tokens a block has. -/
theorem few_all {before z : Int} {zs : List Int} (hl : zs.length = 63) (h : ∀ z ∈ zs, -2047 ≤ z ∧ z ≤ 2047) :
    (toksZ before (z :: zs)).length = 1 + fullN zs + (restT 0 zs).countP isLong + endT 0 zs ∧ (restT 0 zs).countP isLong ≤ 3 ∧ (toksZ before (z :: zs)).length ≤ 64 ∧ 1 < (toksZ before (z :: zs)).length ∧ ((toksZ before (z :: zs)).getLast? = some tkEnd ↔ endT 0 zs = 1) := by
  have h1 := few_rest zs 0 h
  have h2 := long_rest zs 0 h
  have h3 := len_rest zs 0
  have h4 := pos_rest zs 0 (by omega)
  refine ⟨by rw [toksZ, List.length_cons]; omega, by omega, by rw [toksZ, List.length_cons]; omega, by rw [toksZ, List.length_cons]; omega, ?_⟩
  rw [← last_rest zs 0 h (by omega), toksZ]
  cases e : restT 0 zs with
  | nil => rw [e] at h4; simp at h4
  | cons a l => rw [List.getLast?_cons_cons]
/-- The first token tells what was ahead. -/
theorem first_all {a b z : Int} : tkN 0 (z - a) = tkN 0 (z - b) ↔ a = b := by
  constructor
  · intro h
    unfold tkN at h
    simp only [Prod.mk.injEq] at h
    have := sz_tell (m := z - a) (n := z - b) (by omega) h.2.2
    omega
  · rintro rfl; rfl
theorem rest_zeros : ∀ (k r : Nat), 0 < r + k → restT r (List.replicate k 0) = [tkEnd]
  | 0, r, h => by rw [List.replicate_zero, restT_nil, if_neg (by omega)]
  | k + 1, r, h => by rw [List.replicate_succ, restT_zero]; exact rest_zeros k (r + 1) (by omega)
theorem zero_all (n : Int) : toksZ n (n :: List.replicate 63 0) = [tkEnd, tkEnd] := by
  rw [toksZ, rest_zeros 63 0 (by omega), Int.sub_self]; rfl
/-- A loop over the numbers: what is told so far, and what is still to tell. -/
theorem toks_start (before z : Int) (zs : List Int) : toksZ before (z :: zs) = [tkN 0 (z - before)] ++ restT 0 zs := rfl
theorem toks_next {zs : List Int} {i : Nat} {x : Int} (r : Nat) (hx : zs[i]? = some x) : restT r (zs.drop i) = if x = 0 then restT (r + 1) (zs.drop (i + 1)) else List.replicate (r / 16) tkLong ++ tkN (r % 16) x :: restT 0 (zs.drop (i + 1)) := by
  obtain ⟨hi, e⟩ := List.getElem?_eq_some_iff.1 hx
  rw [List.drop_eq_getElem_cons hi, e]
  by_cases h : x = 0
  · rw [if_pos h, h, restT_zero]
  · rw [if_neg h, restT_cons r _ h]
/-- Numbers read so far, and what is still to read. -/
def joinD (pre : List Int) (u : Nat) (d : Int × List Int × Nat) : Int × List Int × Nat := if d.1 = 0 then (0, pre ++ d.2.1, d.2.2 + u) else (d.1, [], 0)
theorem joinD_all (pre : List Int) (u : Nat) (l : List (Int × Int × Int)) : joinD pre u (decR 0 l) = (0, pre, u) := by
  rw [decR_zero]; unfold joinD; rw [if_pos rfl]; simp
theorem joinD_none (pre : List Int) (u k : Nat) : joinD pre u (decR (k + 1) []) = (3, [], 0) := rfl
theorem joinD_bad (pre : List Int) (u : Nat) {k : Nat} {t : Int × Int × Int} {l : List (Int × Int × Int)} (hk : 0 < k) (h : okT t = false) : joinD pre u (decR k (t :: l)) = (4, [], 0) := by
  obtain ⟨k, rfl⟩ : ∃ j, k = j + 1 := ⟨k - 1, by omega⟩
  rw [decR, if_neg (by rw [h]; decide)]; rfl
theorem joinD_end (pre : List Int) (u : Nat) {k : Nat} {t : Int × Int × Int} {l : List (Int × Int × Int)} (hk : 0 < k) (h : okT t = true) (h0 : t.1 = 0) : joinD pre u (decR k (t :: l)) = (0, pre ++ List.replicate k 0, u + 1) := by
  obtain ⟨k, rfl⟩ : ∃ j, k = j + 1 := ⟨k - 1, by omega⟩
  rw [decR, if_pos h, if_pos h0]; unfold joinD; rw [if_pos rfl]; simp [Nat.add_comm]
theorem joinD_far (pre : List Int) (u : Nat) {k : Nat} {t : Int × Int × Int} {l : List (Int × Int × Int)} (hk : 0 < k) (h : okT t = true) (h0 : t.1 ≠ 0) (hf : k < farT t) : joinD pre u (decR k (t :: l)) = (4, [], 0) := by
  obtain ⟨k, rfl⟩ : ∃ j, k = j + 1 := ⟨k - 1, by omega⟩
  rw [decR, if_pos h, if_neg h0, if_pos hf]; rfl
theorem joinD_next (pre : List Int) (u : Nat) {k : Nat} {t : Int × Int × Int} {l : List (Int × Int × Int)} (h : okT t = true) (h0 : t.1 ≠ 0) (hf : farT t ≤ k) : joinD pre u (decR k (t :: l)) = joinD (pre ++ (List.replicate (farT t - 1) 0 ++ [numT t])) (u + 1) (decR (k - farT t) l) := by
  have hp : 0 < farT t := by unfold farT; omega
  obtain ⟨k, rfl⟩ : ∃ j, k = j + 1 := ⟨k - 1, by omega⟩
  rw [decR, if_pos h, if_neg h0, if_neg (by omega)]
  simp only []
  unfold joinD
  by_cases e : (decR (k + 1 - farT t) l).1 = 0
  · simp only [if_pos e, if_true]
    congr 2
    · simp
    · omega
  · simp only [if_neg e]
end Go.Proofs.Ytbboakdfnjjddaa

/- slices.Reverse over a row of numbers of the call's own: its contract. -/
namespace Go.Proofs.Ytbboakdfnjjddaa
open Go.RowKit
set_option linter.unusedVariables false
set_option linter.unusedSimpArgs false
set_option maxRecDepth 100000

/-- One cell of a row of the call's own, written. -/
theorem own_set {w : World} {B g : Nat} {e : TypeId} {n c : Nat} {xs : List Value} (h : w.ownsRow B e 1 (.slice (some ⟨g, 0, none⟩) n c) n xs) {i : Nat} (hi : i < n) (v : Value) :
    (w.setCell ⟨g, i, none⟩ v).ownsRow B e 1 (.slice (some ⟨g, 0, none⟩) n c) n (xs.set i v) := by
  obtain ⟨h1, h2⟩ := h
  refine ⟨by simpa using h1, ?_⟩
  rcases h2 with ⟨h2, _⟩ | ⟨g', cap, cur, hv, hg, hh, hn, hc, hs, ht⟩
  · cases h2
  · simp only [Value.slice.injEq, Option.some.injEq, Addr.mk.injEq] at hv
    obtain ⟨⟨rfl, _, _⟩, _, rfl⟩ := hv
    refine .inr ⟨g, c, cur.setIfInBounds i v, rfl, hg, heap_setCell_same w g i cur e v hh, hn, hc, by simpa using hs, ?_⟩
    rw [Array.toList_setIfInBounds, List.take_set, ht]
theorem own_cell {w : World} {B g : Nat} {e : TypeId} {n c : Nat} {xs : List Value} (h : w.ownsRow B e 1 (.slice (some ⟨g, 0, none⟩) n c) n xs) {i : Nat} {v : Value} (hv : xs[i]? = some v) : w.cell? ⟨g, i, none⟩ = some v ∧ w.frozen? ⟨g, i, none⟩ = false ∧ B ≤ g ∧ g < w.heap.size := by
  obtain ⟨h1, h2⟩ := h
  rcases h2 with ⟨h2, _⟩ | ⟨g', cap, cur, hv', hg, hh, hn, hc, hs, ht⟩
  · cases h2
  · simp only [Value.slice.injEq, Option.some.injEq, Addr.mk.injEq] at hv'
    obtain ⟨⟨rfl, _, _⟩, _, rfl⟩ := hv'
    refine ⟨?_, frozen_of_row w g i _ _ hh, hg, (Array.getElem?_eq_some_iff.1 hh).1⟩
    rw [cell_of_row w g i _ _ _ hh]
    have hi : i < n * 1 := by rw [← h1]; exact (List.getElem?_eq_some_iff.1 hv).1
    rw [← ht, List.getElem?_take, if_pos hi] at hv
    simpa using hv
/-- The ends up to i are exchanged. -/
def Turned (l ls : List Int) (i : Nat) : Prop := ls.length = l.length ∧ ∀ k : Nat, k < l.length → ls[k]? = if k < i ∨ l.length - 1 - i < k then l[l.length - 1 - k]? else l[k]?
theorem Turned.start (l : List Int) : Turned l l 0 := ⟨rfl, fun k hk => by rw [if_neg (by omega)]⟩
theorem Turned.next {l ls : List Int} {i : Nat} {x y : Int} (h : Turned l ls i) (hi : i < l.length - 1 - i) (hx : ls[i]? = some x) (hy : ls[l.length - 1 - i]? = some y) : Turned l ((ls.set i y).set (l.length - 1 - i) x) (i + 1) := by
  obtain ⟨h1, h2⟩ := h
  refine ⟨by simpa using h1, fun k hk => ?_⟩
  rw [List.getElem?_set, List.getElem?_set]
  by_cases e1 : l.length - 1 - i = k
  · subst e1
    rw [if_pos rfl, if_pos (by simp; omega), if_pos (by omega), ← hx, h2 i (by omega), if_neg (by omega)]
    congr 1; omega
  · rw [if_neg e1]
    by_cases e2 : i = k
    · subst e2
      rw [if_pos rfl, if_pos (by omega), if_pos (by omega), ← hy, h2 _ (by omega), if_neg (by omega)]
    · rw [if_neg e2, h2 k hk]
      by_cases e3 : k < i ∨ l.length - 1 - i < k
      · rw [if_pos e3, if_pos (by omega)]
      · rw [if_neg e3, if_neg (by omega)]
theorem Turned.done {l ls : List Int} {i : Nat} (h : Turned l ls i) (hi : ¬ (i : Int) < (l.length : Int) - 1 - (i : Int)) : ls = l.reverse := by
  obtain ⟨h1, h2⟩ := h
  apply List.ext_getElem?
  intro k
  by_cases hk : k < l.length
  · rw [h2 k hk, List.getElem?_reverse hk]
    by_cases e : k < i ∨ l.length - 1 - i < k
    · rw [if_pos e]
    · rw [if_neg e]; congr 1; omega
  · rw [List.getElem?_eq_none (by omega), List.getElem?_eq_none (by simp; omega)]
def revRow (g c : Nat) (l : List Int) : Row := intRow 3 .i64 (.slice (some ⟨g, 0, none⟩) l.length c) l
set_option maxHeartbeats 2000000 in
set_option maxRecDepth 100000 in
theorem reverse_any (g c B : Nat) (l : List Int) (w : World) (HO : Owns B [intRow 3 .i64 (.slice (some ⟨g, 0, none⟩) l.length c) l] w) (hl : l.length ≤ 1048576) :
    Calls Try.prog 128 #[.slice (some ⟨g, 0, none⟩) l.length c] w fun e w' => e = .returned (.tuple #[]) ∧ Owns B [intRow 3 .i64 (.slice (some ⟨g, 0, none⟩) l.length c) l.reverse] w' ∧ Below B w w' := by
  have HO0 := veil HO; clear HO
  go_enter Try.func128, Try.ntmps128
  go_wp2
  go_loopg [2, 3] l.length (fun gk s2 s3 wr => ∃ (i : Nat) (ls : List Int), s2 = .int .i64 (i : Int) ∧ s3 = .int .i64 ((l.length : Int) - 1 - (i : Int)) ∧ gk = l.length - i ∧ i ≤ l.length ∧ Hid (Turned l ls i) ∧ Hid (Owns B [intRow 3 .i64 (.slice (some ⟨g, 0, none⟩) l.length c) ls] wr) ∧ Hid (Below B w wr))
  case atStart => exact ⟨0, l, rfl, by go_num, rfl, by omega, Turned.start l, HO0, Below.refl _ _⟩
  case round =>
    clear HO0
    obtain ⟨i, ls, rfl, rfl, rfl, hi, HT, HO, HB⟩ := hrel
    by_cases hlt : (i : Int) < (l.length : Int) - 1 - (i : Int)
    · obtain ⟨j, hj⟩ : ∃ j : Nat, j = l.length - 1 - i := ⟨_, rfl⟩
      have hjz : (l.length : Int) - 1 - (i : Int) = (j : Int) := by omega
      have hll := HT.out.1
      obtain ⟨x, hx⟩ := some_at (xs := ls) (j := i) (by omega)
      obtain ⟨y, hy⟩ := some_at (xs := ls) (j := j) (by omega)
      obtain ⟨cx, fx, hBg, hgs⟩ := own_cell (by have := HO.out.head; simp only [intRow, hll] at this; exact this) (ints_at hx)
      obtain ⟨cy, fy, _, _⟩ := own_cell (by have := HO.out.head; simp only [intRow, hll] at this; exact this) (ints_at hy)
      have HN := veil (hj ▸ HT.out.next (by omega) hx (hj ▸ hy))
      have HO2 : Hid (Owns B [intRow 3 .i64 (.slice (some ⟨g, 0, none⟩) l.length c) ((ls.set i y).set j x)] ((wr.setCell ⟨g, i, none⟩ (.int .i64 y)).setCell ⟨g, j, none⟩ (.int .i64 x))) := by
        have h1 := HO.out.head
        simp only [intRow, hll] at h1
        have h2 := own_set (own_set h1 (i := i) (by omega) (.int .i64 y)) (i := j) (by omega) (.int .i64 x)
        refine Owns.one (by have := HO.out.base; simpa [World.setCell] using this) ?_
        simp only [intRow, List.length_set, hll, ints, List.map_set] at h2 ⊢
        exact h2
      have HB2 : Hid (Below B w ((wr.setCell ⟨g, i, none⟩ (.int .i64 y)).setCell ⟨g, j, none⟩ (.int .i64 x))) := (HB.out.setCell (by simpa using hBg) _).setCell (by simpa using hBg) _
      rw [hjz] at hlt
      have hne : ¬ i = j := by omega
      have hne2 : ¬ j = i := by omega
      have hjl : (j : Int) < (l.length : Int) := by omega
      have hil : (i : Int) < (l.length : Int) := by omega
      have Hj := veil hj
      have Hjz := veil hjz
      rw [hjz]
      clear HT HO HB hx hy hj hjz hll
      go_wp2_with fail
      go_big_region
      go_wp2
      go_roundg (l.length - (i + 1))
      case rel =>
        have := Hjz.out
        exact ⟨i + 1, (ls.set i y).set j x, by go_num, by go_num, rfl, by omega, HN, veil HO2.out.drew, veil HB2.out.drew⟩
      case measure => omega
    · go_wp2
      go_end0
      exact ⟨rfl, by rw [← HT.out.done (by omega)]; exact HO.out, HB.out⟩
end Go.Proofs.Ytbboakdfnjjddaa

/- zig.diagonal: its contract. -/
namespace Go.Proofs.Ytbboakdfnjjddaa
open Go.RowKit
set_option linter.unusedVariables false
set_option linter.unusedSimpArgs false
set_option maxRecDepth 100000

theorem elemZ : ElemOf Try.prog 23 3 1 8 := .mk' Try.underlying23 (z := .int .i64 0) (by kernel_rfl) rfl (by omega)
/-- The first n indices of diagonal s, from its top row on. -/
def ascD (s n : Nat) : List Int := (List.range n).map fun k => 8 * ((s - 7 + k : Nat) : Int) + (s : Int) - ((s - 7 + k : Nat) : Int)
def cntD (s : Nat) : Nat := min s 7 + 1 - (s - 7)
/-- Diagonal s, as the order visits it. -/
def diagL (s : Nat) : List Int := if s % 2 = 0 then (ascD s (cntD s)).reverse else ascD s (cntD s)
theorem ascD_succ (s n : Nat) : ascD s (n + 1) = ascD s n ++ [8 * ((s - 7 + n : Nat) : Int) + (s : Int) - ((s - 7 + n : Nat) : Int)] := by
  simp [ascD, List.range_succ]
theorem ascD_length (s n : Nat) : (ascD s n).length = n := by simp [ascD]
theorem own_some {w : World} {B : Nat} {v : Value} {l : List Int} {rs : List Row} (h : Owns B (intRow 3 .i64 v l :: rs) w) (hl : 0 < l.length) : ∃ g c, v = .slice (some ⟨g, 0, none⟩) l.length c := by
  obtain ⟨h1, h2⟩ := h.head
  rcases h2 with ⟨_, h2⟩ | ⟨g, cap, cur, hv, _⟩
  · simp only [intRow] at h2; omega
  · exact ⟨g, cap, hv⟩
set_option maxHeartbeats 2000000 in
set_option maxRecDepth 100000 in
theorem diag_any (s : Nat) (w : World) (hs : s ≤ 14) :
    Calls Try.prog 117 #[.int .i64 (s : Int)] w fun e w' => ∃ v, e = .returned v ∧ Owns w.heap.size [intRow 3 .i64 v (diagL s)] w' ∧ Below w.heap.size w w' := by
  have hc : cntD s = min s 7 + 1 - (s - 7) := rfl
  have hm : min s 7 ≤ s ∧ min s 7 ≤ 7 ∧ s - 7 ≤ min s 7 ∧ (min s 7 = s ∨ min s 7 = 7) := by omega
  generalize min s 7 = m at *
  go_enter Try.func117, Try.ntmps117
  go_wp2
  all_goals (
  go_loopg [3, 4] (m + 1 - (s - 7)) (fun gk v vr wr => ∃ r : Nat, gk = m + 1 - r ∧ s - 7 ≤ r ∧ r ≤ m + 1 ∧ vr = .int .i64 (r : Int) ∧ Hid (Owns w.heap.size [intRow 3 .i64 v (ascD s (r - (s - 7)))] wr) ∧ Hid (Below w.heap.size w wr))
  case atStart => exact ⟨s - 7, by omega, by omega, by omega, by go_num, veil (by rw [Nat.sub_self]; exact (Owns.start w).fresh _ _), veil (Below.refl _ _)⟩
  case round =>
    obtain ⟨r, rfl, hr1, hr2, rfl, HO, HB⟩ := hrel
    by_cases hlt : r ≤ m
    · have h7 : (r : Int) ≤ 7 := by omega
      have hs' : (r : Int) ≤ (s : Int) := by omega
      have hll := ascD_length s (r - (s - 7))
      have HL := veil (ascD_succ s (r - (s - 7)))
      generalize ascD s (r - (s - 7)) = l at *
      go_wp2_with (first
        | (at_builtin; go_loud (refine wpList_ownI _ rfl (.tmp 15) (.tmp 22) _ rfl w.heap.size 3 .i64 8 elemZ u3 l [] rfl HO.out [_] rfl (by unfold maxLen; simp; omega) (by simp; omega) ?_); intro v4 w4 HO4 hb4 hz4)
        | fail)
      all_goals (
      go_roundg (m + 1 - (r + 1))
      case rel => 
        refine ⟨r + 1, rfl, by omega, by omega, by go_num, veil ?_, veil (HB.out.trans hb4)⟩
        rw [show r + 1 - (s - 7) = r - (s - 7) + 1 by omega, HL.out, show s - 7 + (r - (s - 7)) = r by omega]
        exact HO4
      case measure => omega)
    · obtain rfl : r = m + 1 := by omega
      rw [← hc] at HO
      have h0 : 0 < (ascD s (cntD s)).length := by rw [ascD_length]; omega
      have hl8 : (ascD s (cntD s)).length ≤ 1048576 := by rw [ascD_length]; omega
      obtain ⟨g, c, rfl⟩ := own_some HO.out h0
      have HR := veil (fun w1 h1 => reverse_any g c w.heap.size (ascD s (cntD s)) w1 h1 hl8)
      have HD : Hid (diagL s = if s % 2 = 0 then (ascD s (cntD s)).reverse else ascD s (cntD s)) := rfl
      have hrm : ¬ ((m : Int) + 1 ≤ 7 ∧ (m : Int) + 1 ≤ (s : Int)) := by omega
      generalize ascD s (cntD s) = l at *
      by_cases he : s % 2 = 0
      · have het : ((s : Int).tmod 2 == 0) = true := by rw [Int.tmod_eq_emod_of_nonneg (by omega)]; simp; omega
        have hez : (s : Int).tmod 2 = 0 := by simpa using het
        go_wp2_with fail
        all_goals (
        refine (HR.out _ HO.out).mono ?_
        rintro e w2 ⟨rfl, HO2, hb2⟩
        go_wp2
        go_ret
        exact ⟨_, rfl, by rw [HD.out, if_pos he]; have h5 := HO2; unfold intRow at h5 ⊢; rw [List.length_reverse] at h5 ⊢; exact h5, HB.out.trans hb2⟩)
      · have het : ((s : Int).tmod 2 == 0) = false := by rw [Int.tmod_eq_emod_of_nonneg (by omega)]; simp; omega
        have hez : ¬ (s : Int).tmod 2 = 0 := by simpa using het
        go_wp2
        all_goals (
        go_ret
        exact ⟨_, rfl, by rw [HD.out, if_neg he]; exact HO.out, HB.out⟩))
end Go.Proofs.Ytbboakdfnjjddaa

/- zig.Order: its contract. -/
namespace Go.Proofs.Ytbboakdfnjjddaa
open Go.RowKit
set_option linter.unusedVariables false
set_option linter.unusedSimpArgs false
set_option maxRecDepth 100000

/-- The first s diagonals. -/
def zzTo (s : Nat) : List Int := (List.range s).flatMap diagL
/-- The zigzag order. -/
def zz : List Int := [0, 1, 8, 16, 9, 2, 3, 10, 17, 24, 32, 25, 18, 11, 4, 5, 12, 19, 26, 33, 40, 48, 41, 34, 27, 20, 13, 6, 7, 14, 21, 28, 35, 42, 49, 56, 57, 50, 43, 36, 29, 22, 15, 23, 30, 37, 44, 51, 58, 59, 52, 45, 38, 31, 39, 46, 53, 60, 61, 54, 47, 55, 62, 63]
theorem zzTo_all : zzTo 15 = zz := by decide +kernel
theorem zz_length : zz.length = 64 := rfl
theorem zzTo_succ (s : Nat) : zzTo (s + 1) = zzTo s ++ diagL s := by simp [zzTo, List.range_succ]
theorem diagL_length (s : Nat) : (diagL s).length ≤ 8 := by
  unfold diagL
  split
  · rw [List.length_reverse, ascD_length]; unfold cntD; omega
  · rw [ascD_length]; unfold cntD; omega
theorem zzTo_length (s : Nat) : (zzTo s).length ≤ 8 * s := by
  induction s with
  | zero => simp [zzTo]
  | succ s ih => rw [zzTo_succ, List.length_append]; have := diagL_length s; omega
theorem info_intZ : (Try.prog.info? 3).map (fun i => (i.zero, i.size, i.bytes)) = some (some (.int .i64 0), 1, 8) := by kernel_rfl
theorem run_make64 (u : World) : (Instr.makeSlice 23 (.int .i64 0) (.int .i64 64)).run Try.prog u =
    .ok (.slice (some ⟨u.heap.size, 0, none⟩) 0 64) (u.alloc (.cells (madeCells #[.int .i64 0] 64) 3)) := by
  obtain ⟨i0, hi, hz0, hz1, hz2⟩ := info_parts info_intZ
  have h := run_make (P := Try.prog) u 23 3 i0 (.int .i64 0) Try.underlying23 hi hz0 .i64 .i64 0 64 (by omega) (by omega) (by rw [hz2]; omega) (by omega)
  simpa [hz1, Value.cells] using h
set_option maxHeartbeats 2000000 in
set_option maxRecDepth 100000 in
theorem order_any (w : World) :
    Calls Try.prog 97 #[] w fun e w' => ∃ g c, e = .returned (.slice (some ⟨g, 0, none⟩) 64 c) ∧ Owns w.heap.size [intRow 3 .i64 (.slice (some ⟨g, 0, none⟩) 64 c) zz] w' ∧ Below w.heap.size w w' := by
  have hmk := run_make64
  have hst : Hid (Owns w.heap.size [intRow 3 .i64 (.slice (some ⟨w.heap.size, 0, none⟩) 0 64) (zzTo 0)] (w.alloc (.cells (madeCells #[.int .i64 0] 64) 3))) :=
    (Owns.start w).made 3 1 (madeCells #[.int .i64 0] 64) 64 (by unfold maxLen; omega) (size_madeCells _ _)
  generalize madeCells #[.int .i64 0] 64 = cs at *
  go_enter Try.func97, Try.ntmps97
  go_wp2
  clear hmk
  go_loopg [1, 4] 15 (fun gk v i wr => ∃ k : Nat, gk = 15 - k ∧ k ≤ 15 ∧ i = .int .i64 (k : Int) ∧ Hid (Owns w.heap.size [intRow 3 .i64 v (zzTo k)] wr) ∧ Hid (Below w.heap.size w wr))
  case atStart => exact ⟨0, rfl, by omega, rfl, hst, veil (below1 _ _)⟩
  case round =>
    clear hst
    obtain ⟨k, rfl, hk, rfl, HO, HB⟩ := hrel
    by_cases hlt : k < 15
    · have hltz : (k : Int) < 15 := by omega
      have HD := veil (fun w1 => diag_any k w1 (by omega))
      have hzl := zzTo_length k
      have hdl := diagL_length k
      have HS := veil (zzTo_succ k)
      generalize zzTo k = l at *
      generalize diagL k = d at *
      go_wp2_with fail
      refine (HD.out _).mono ?_
      rintro e w2 ⟨v2, rfl, HO2, hb2⟩
      obtain ⟨A, c, hv2, hsn, _, _⟩ := HO2.seen (List.mem_singleton.2 rfl)
      simp only [intRow] at hv2
      subst hv2
      have HO3 := (HO.out.call hb2 HO2).swap
      simp only [intRow] at hsn
      clear HD HO2
      go_wp2_with (first
        | (at_builtin; go_loud (refine wpList_ownV w2 rfl (.tmp 7) (.tmp 9) _ rfl w.heap.size 3 1 8 elemZ u1 l.length (ints .i64 l) _ rfl HO3 w2.heap.size A d.length c (ints .i64 d) rfl hsn (by rw [ints_length, Nat.mul_one]) ints_one (by unfold maxLen; omega) (by omega) ?_); intro v4 w4 HO4 hb4)
        | fail)
      go_roundg (15 - (k + 1))
      case rel => exact ⟨k + 1, rfl, by omega, by go_num, veil (by rw [HS.out, ← intRow_append]; exact HO4.swap.tail), veil ((HB.out.trans (hb2.mono HB.out.size)).trans hb4)⟩
      case measure => omega
    · obtain rfl : k = 15 := by omega
      rw [zzTo_all] at HO
      obtain ⟨g, c, rfl⟩ := own_some HO.out (by rw [zz_length]; omega)
      rw [zz_length] at HO
      go_wp2
      go_ret
      exact ⟨g, c, rfl, HO.out, HB.out⟩
end Go.Proofs.Ytbboakdfnjjddaa

/- The order and its inverse, in numbers. -/
namespace Go.Proofs.Ytbboakdfnjjddaa
open Go.RowKit
set_option linter.unusedVariables false
set_option linter.unusedSimpArgs false
set_option maxRecDepth 100000

/-- The numbers of a block in the order, the first k of them. -/
def toK (cs : List Int) (k : Nat) : List Int := (List.range 64).map fun i => if i < k then cs.getD (zz.getD i 0).toNat 0 else 0
/-- The block of which the first k numbers in the order are told. -/
def fromK (cs : List Int) (k : Nat) : List Int := (List.range 64).map fun (j : Nat) => if zz.idxOf (j : Int) < k then cs.getD (zz.idxOf (j : Int)) 0 else 0
def toL (cs : List Int) : List Int := toK cs 64
def fromL (cs : List Int) : List Int := fromK cs 64
theorem toK_length (cs : List Int) (k : Nat) : (toK cs k).length = 64 := by simp [toK]
theorem fromK_length (cs : List Int) (k : Nat) : (fromK cs k).length = 64 := by simp [fromK]
theorem zero64_map (f : Nat → Int) (h : ∀ i, f i = 0) : (List.range 64).map f = List.replicate 64 0 := by
  apply List.ext_getElem?
  intro i
  by_cases hi : i < 64
  · rw [List.getElem?_map, List.getElem?_range hi, List.getElem?_replicate, if_pos hi]; simp [h]
  · rw [List.getElem?_eq_none (by simp; omega), List.getElem?_eq_none (by simp; omega)]
theorem toK_zero (cs : List Int) : toK cs 0 = List.replicate 64 0 := zero64_map _ fun i => if_neg (by omega)
theorem fromK_zero (cs : List Int) : fromK cs 0 = List.replicate 64 0 := zero64_map _ fun i => if_neg (by omega)
theorem zz_at : ∀ k : Fin 64, ∃ n : Fin 64, zz[k.1]? = some ((n.1 : Nat) : Int) ∧ zz.idxOf ((n.1 : Nat) : Int) = k.1 := by decide +kernel
theorem zz_back : ∀ j : Fin 64, zz.idxOf ((j.1 : Nat) : Int) < 64 ∧ zz[zz.idxOf ((j.1 : Nat) : Int)]? = some ((j.1 : Nat) : Int) := by decide +kernel
theorem toK_next {cs : List Int} {k n : Nat} {x : Int} (hk : k < 64) (hn : zz[k]? = some (n : Int)) (hx : cs[n]? = some x) : toK cs (k + 1) = (toK cs k).set k x := by
  apply List.ext_getElem?
  intro i
  rw [List.getElem?_set]
  by_cases hi : i < 64
  · simp only [toK, List.getElem?_map, List.getElem?_range hi, List.length_map, List.length_range]
    by_cases e : k = i
    · subst e
      rw [if_pos rfl, if_pos hi]
      simp [List.getD_eq_getElem?_getD, hn, hx]
    · rw [if_neg e]
      simp only [Option.map_some, show i < k + 1 ↔ i < k by omega]
  · rw [List.getElem?_eq_none (by rw [toK_length]; omega), if_neg (by omega), List.getElem?_eq_none (by rw [toK_length]; omega)]
theorem fromK_next {cs : List Int} {k n : Nat} {x : Int} (hk : k < 64) (hn : zz[k]? = some (n : Int)) (hx : cs[k]? = some x) : fromK cs (k + 1) = (fromK cs k).set n x := by
  obtain ⟨⟨n', h64⟩, hn', hidx⟩ := zz_at ⟨k, hk⟩
  simp only at hn' hidx
  rw [hn] at hn'
  obtain rfl : n = n' := by injection hn' with hn'; omega
  apply List.ext_getElem?
  intro j
  rw [List.getElem?_set]
  by_cases hj : j < 64
  · simp only [fromK, List.getElem?_map, List.getElem?_range hj, List.length_map, List.length_range]
    by_cases e : n = j
    · subst e
      rw [if_pos rfl, if_pos hj]
      simp [List.getD_eq_getElem?_getD, hidx, hx]
    · rw [if_neg e]
      have hb := zz_back ⟨j, hj⟩
      simp only at hb
      have hne : zz.idxOf (j : Int) ≠ k := by
        intro h
        rw [h, hn] at hb
        have := hb.2
        injection this with this
        omega
      simp only [Option.map_some, show zz.idxOf (j : Int) < k + 1 ↔ zz.idxOf (j : Int) < k by omega]
  · rw [List.getElem?_eq_none (by rw [fromK_length]; omega), if_neg (by omega), List.getElem?_eq_none (by rw [fromK_length]; omega)]
theorem toL_at {cs : List Int} {k n : Nat} (hk : k < 64) (hn : zz[k]? = some (n : Int)) : (toL cs)[k]? = some (cs.getD n 0) := by
  simp only [toL, toK, List.getElem?_map, List.getElem?_range hk, Option.map_some, if_pos hk]
  simp [List.getD_eq_getElem?_getD, hn]
theorem fromL_at {cs : List Int} {j : Nat} (hj : j < 64) : (fromL cs)[j]? = some (cs.getD (zz.idxOf (j : Int)) 0) := by
  have hb := zz_back ⟨j, hj⟩
  simp only [fromL, fromK, List.getElem?_map, List.getElem?_range hj, Option.map_some, if_pos hb.1]
theorem getD_some {cs : List Int} {k : Nat} (hk : k < cs.length) : cs[k]? = some (cs.getD k 0) := by
  rw [List.getD_eq_getElem?_getD, List.getElem?_eq_getElem hk]; rfl
theorem from_to {cs : List Int} (hc : cs.length = 64) : fromL (toL cs) = cs := by
  apply List.ext_getElem?
  intro j
  by_cases hj : j < 64
  · obtain ⟨h1, h2⟩ := zz_back ⟨j, hj⟩
    simp only at h1 h2
    rw [fromL_at hj, List.getD_eq_getElem?_getD, toL_at h1 h2, getD_some (by omega)]; rfl
  · rw [List.getElem?_eq_none (by rw [fromL, fromK_length]; omega), List.getElem?_eq_none (by omega)]
theorem to_from {cs : List Int} (hc : cs.length = 64) : toL (fromL cs) = cs := by
  apply List.ext_getElem?
  intro k
  by_cases hk : k < 64
  · obtain ⟨⟨n, hn⟩, h1, h2⟩ := zz_at ⟨k, hk⟩
    simp only at h1 h2
    rw [toL_at hk h1, List.getD_eq_getElem?_getD, fromL_at hn, h2, getD_some (by omega)]; rfl
  · rw [List.getElem?_eq_none (by rw [toL, toK_length]; omega), List.getElem?_eq_none (by omega)]
end Go.Proofs.Ytbboakdfnjjddaa

/- A block's value (64 numbers), and whether two are equal. -/
namespace Go.Proofs.Ytbboakdfnjjddaa
open Go.RowKit
set_option linter.unusedVariables false
set_option linter.unusedSimpArgs false
set_option maxRecDepth 100000

/-- A block's value. -/
abbrev blkV (cs : List Int) : Value := .agg (ints .i64 cs).toArray
theorem info_blk : (Try.prog.info? 47).map (·.size) = some 64 := by kernel_rfl
theorem info_blkn {xs : List Value} (h : xs.length = 64) : (Try.prog.info? 47).map (·.size) = some xs.length := by rw [h]; exact info_blk
theorem run_eqItems_ints {P : Program} (w : World) (d : Nat) {e : TypeId} {k : IntKind} (he : P.underlying e = some (.int k)) (hp : P.plainKey e = true) (cs ds : List Int) : ∀ (is : List Nat), (∀ i ∈ is, i < cs.length ∧ i < ds.length) →
    (Op.eqItems (d + 1) e 1 (ints k cs).toArray (ints k ds).toArray is).run P w = .ok (decide (∀ i ∈ is, cs[i]? = ds[i]?)) w
  | [], _ => by simp [Op.eqItems]
  | i :: is, h => by
    obtain ⟨h1, h2⟩ := h i (by simp)
    obtain ⟨x, hx⟩ := some_at h1
    obtain ⟨y, hy⟩ := some_at h2
    have p1 : (part e (ints k cs).toArray (i * 1)).run P w = .ok (.int k x) w := run_part_plain w hp (by simpa using ints_at (k := k) hx)
    have p2 : (part e (ints k ds).toArray (i * 1)).run P w = .ok (.int k y) w := run_part_plain w hp (by simpa using ints_at (k := k) hy)
    have ih := run_eqItems_ints w d he hp cs ds is fun j hj => h j (by simp [hj])
    simp only [Op.eqItems, Sem.run_bind, p1, p2, Result.andThen_ok, run_equalIn_int w d e k k x y he]
    by_cases hxy : x = y
    · subst hxy
      simp only [beq_self_eq_true, Bool.not_true, Bool.false_eq_true, if_false, ih]
      congr 1
      simp only [decide_eq_decide]
      constructor
      · intro h j hj
        rcases List.mem_cons.1 hj with rfl | hj
        · rw [hx, hy]
        · exact h j hj
      · intro h j hj; exact h j (by simp [hj])
    · have hb : (x == y) = false := by simpa using hxy
      simp only [hb, Bool.not_false, if_true, Sem.run_pure]
      congr 1
      symm
      simp only [decide_eq_false_iff_not]
      intro h3
      have := h3 i (by simp)
      rw [hx, hy] at this
      exact hxy (by injection this)
theorem ext64 {cs ds : List Int} (hc : cs.length = 64) (hd : ds.length = 64) : (∀ i ∈ List.range 64, cs[i]? = ds[i]?) ↔ cs = ds := by
  constructor
  · intro h
    apply List.ext_getElem?
    intro i
    by_cases hi : i < 64
    · exact h i (List.mem_range.2 hi)
    · rw [List.getElem?_eq_none (by omega), List.getElem?_eq_none (by omega)]
  · rintro rfl i _; rfl
/-- Two blocks compared. -/
theorem blk_eql (cs ds : List Int) (hc : cs.length = 64) (hd : ds.length = 64) (u : World) : (binOp .eql 47 (blkV cs) (blkV ds)).run Try.prog u = .ok (.bool (decide (cs = ds))) u := by
  cases hi : Try.prog.info? 3 with
  | none => have : (Try.prog.info? 3).isSome = true := by kernel_rfl
            rw [hi] at this; cases this
  | some inf =>
    have hc1 : Try.prog.cellsOf 3 = 1 := by kernel_rfl
    rw [run_eql_struct u 47, show (10000 : Nat) = 9998 + 1 + 1 from rfl, run_equalIn_array u (9998 + 1) _ _ Try.underlying47 hi, hc1,
      run_eqItems_ints u 9998 Try.underlying3 (by kernel_rfl) cs ds (List.range 64) (fun i hi => by have := List.mem_range.1 hi; omega)]
    simp only [Result.andThen_ok]
    exact congrArg (fun b => Result.ok (Value.bool b) u) (decide_eq_decide.2 (ext64 hc hd))
theorem blk_same (cs : List Int) (hc : cs.length = 64) (u : World) : (binOp .eql 47 (blkV cs) (blkV cs)).run Try.prog u = .ok (.bool true) u := by
  rw [blk_eql cs cs hc hc]; simp
end Go.Proofs.Ytbboakdfnjjddaa

/- The zero block, three blocks just laid, a block and a code handed back: what the walks over blocks share. -/
namespace Go.Proofs.Ytbboakdfnjjddaa
open Go.RowKit
set_option linter.unusedVariables false
set_option linter.unusedSimpArgs false
set_option maxRecDepth 100000

def zeroB : List Value := ints .i64 (List.replicate 64 0)
theorem zeroB_length : zeroB.length = 64 := by simp [zeroB, ints_length]
def zero64 : List Int := List.replicate 64 0
theorem zero64_length : zero64.length = 64 := by simp [zero64]
theorem zero_blk : ints .i64 zero64 = zeroB := rfl
theorem drewN_grown (w : World) (q : Nat) (r : Option Nat) : w.grownBy (w.drewN q) r := ⟨rfl, rfl, rfl, Nat.le_refl _, fun _ _ _ => rfl⟩
theorem results_row_tmp {P : Program} {fn : Func} {p u : Tmp} {ty : TypeId} (h : fn.results = #[.cell p ty, .tmp u]) (tmps : Array Value) (w : World) (g : Nat) (t : TypeId) (cs : Array Value) (fr : Nat × Nat) (d : TypeDesc) (x : Value)
    (hp : tmps.getD p undef = .pointer (some ⟨g, 0, none⟩)) (hx : tmps.getD u undef = x) (hg : w.heap[g]? = some (.cells cs t fr))
    (hu : P.underlying ty = some d) (hd : (match d with | .struct _ | .array _ _ => true | _ => false) = true) (hi : (P.info? ty).map (·.size) = some cs.size) :
    (results fn tmps).run P w = .ok (.tuple #[.agg cs, x]) w := by
  rw [results_cell_tmp h, hp, hx]
  simp [asAddr, run_loadVar_row w g t ty cs fr d hg hu hd hi, Result.andThen]
/-- The three blocks that these functions lay. -/
def box3 (cs : List Int) (w : World) : World := ((w.alloc (.cells (ints .i64 cs).toArray 47)).alloc (.cells zeroB.toArray 47)).alloc (.cells zeroB.toArray 47)
theorem box3_is (cs : List Int) (w : World) : Below w.heap.size w (box3 cs w) ∧ Blk (box3 cs w) w.heap.size (ints .i64 cs) 47 ∧ Blk (box3 cs w) (w.heap.size + 1) zeroB 47 ∧ Blk (box3 cs w) (w.heap.size + 1 + 1) zeroB 47 ∧ (box3 cs w).heap.size = w.heap.size + 3 := by
  have e1 := World.size_alloc w (.cells (ints .i64 cs).toArray 47)
  have e2 := World.size_alloc (w.alloc (.cells (ints .i64 cs).toArray 47)) (.cells zeroB.toArray 47)
  have h0 := Blk.new w (ints .i64 cs) 47
  have h1 := Blk.new (w.alloc (.cells (ints .i64 cs).toArray 47)) zeroB 47
  have h2 := Blk.new ((w.alloc (.cells (ints .i64 cs).toArray 47)).alloc (.cells zeroB.toArray 47)) zeroB 47
  have b1 := below1 ((w.alloc (.cells (ints .i64 cs).toArray 47)).alloc (.cells zeroB.toArray 47)) (.cells zeroB.toArray 47)
  have b2 := below2 (w.alloc (.cells (ints .i64 cs).toArray 47)) (.cells zeroB.toArray 47) (.cells zeroB.toArray 47)
  refine ⟨below3 _ _ _ _, h0.below b2 (by omega), ?_, ?_, by simp [box3]⟩
  · have := h1.below b1 (by omega)
    rw [e1] at this; exact this
  · rw [e2, e1] at h2; exact h2
end Go.Proofs.Ytbboakdfnjjddaa

/- Rounding and clamping in numbers; blocks made number by number. -/
namespace Go.Proofs.Ytbboakdfnjjddaa
open Go.RowKit
set_option linter.unusedVariables false
set_option linter.unusedSimpArgs false
set_option maxRecDepth 100000

/-- The nearest whole number to n / d; of two, the one farther from zero. -/
def rnd (n d : Int) : Int :=
  if 0 < n.tmod d ∧ d - n.tmod d ≤ n.tmod d then n.tdiv d + 1 else if n.tmod d < 0 ∧ d + n.tmod d ≤ - n.tmod d then n.tdiv d - 1 else n.tdiv d
/-- n within bounds. -/
def clampZ (n lo hi : Int) : Int := if n < lo then lo else if hi < n then hi else n
theorem mul_step {a b d : Int} (hd : 0 < d) (h : a < b) : a * d + d ≤ b * d := by
  have := Int.mul_le_mul_of_nonneg_right (show a + 1 ≤ b by omega) (Int.le_of_lt hd)
  rw [Int.add_mul, Int.one_mul] at this
  exact this
theorem rnd_spec (n d : Int) (hd : 0 < d) : (0 ≤ n → 2 * (rnd n d * d) - d ≤ 2 * n ∧ 2 * n < 2 * (rnd n d * d) + d) ∧ (n ≤ 0 → 2 * (rnd n d * d) - d < 2 * n ∧ 2 * n ≤ 2 * (rnd n d * d) + d) := by
  have h1 := Int.tmod_lt_of_pos n hd
  have h2 := Int.lt_tmod_of_pos n hd
  have h3 := Int.tmod_add_mul_tdiv n d
  have h4 : 0 ≤ n → 0 ≤ n.tmod d := Int.tmod_nonneg d
  have h5 : n ≤ 0 → n.tmod d ≤ 0 := by
    intro h
    have := Int.tmod_nonneg (a := -n) d (by omega)
    rw [Int.neg_tmod] at this
    omega
  rw [Int.mul_comm] at h3
  have e1 : (n.tdiv d + 1) * d = n.tdiv d * d + d := by rw [Int.add_mul, Int.one_mul]
  have e2 : (n.tdiv d - 1) * d = n.tdiv d * d - d := by rw [Int.sub_mul, Int.one_mul]
  unfold rnd
  generalize n.tmod d = r at *
  obtain ⟨m, hm⟩ : ∃ m, n.tdiv d * d = m := ⟨_, rfl⟩
  rw [hm] at h3 e1 e2
  split
  · rw [e1]; exact ⟨fun h => by have := h4 h; omega, fun h => by have := h5 h; omega⟩
  · split
    · rw [e2]; exact ⟨fun h => by have := h4 h; omega, fun h => by have := h5 h; omega⟩
    · rw [hm]; exact ⟨fun h => by have := h4 h; omega, fun h => by have := h5 h; omega⟩
theorem rnd_only {n d r : Int} (hd : 0 < d) (h : (0 ≤ n ∧ 2 * (r * d) - d ≤ 2 * n ∧ 2 * n < 2 * (r * d) + d) ∨ (n ≤ 0 ∧ 2 * (r * d) - d < 2 * n ∧ 2 * n ≤ 2 * (r * d) + d)) : rnd n d = r := by
  obtain ⟨h1, h2⟩ := rnd_spec n d hd
  rcases Int.lt_trichotomy (rnd n d) r with h3 | h3 | h3
  · have := mul_step hd h3
    rcases h with ⟨h, h4, h5⟩ | ⟨h, h4, h5⟩
    · have := h1 h; omega
    · have := h2 h; omega
  · exact h3
  · have := mul_step hd h3
    rcases h with ⟨h, h4, h5⟩ | ⟨h, h4, h5⟩
    · have := h1 h; omega
    · have := h2 h; omega
theorem rnd_neg {n d : Int} (hd : 0 < d) : rnd (-n) d = - rnd n d := by
  obtain ⟨h1, h2⟩ := rnd_spec n d hd
  refine rnd_only hd ?_
  rw [Int.neg_mul]
  by_cases h : 0 ≤ n
  · have := h1 h; right; omega
  · have := h2 (by omega); left; omega
theorem rnd_mul {n d : Int} (hd : 0 < d) : rnd (n * d) d = n := by
  refine rnd_only hd ?_
  by_cases h : 0 ≤ n * d
  · left; omega
  · right; omega
theorem rnd_near {k d off : Int} (hd : 0 < d) (h1 : 2 * off < d) (h2 : -d < 2 * off) : rnd (k * d + off) d = k := by
  refine rnd_only hd ?_
  by_cases h : 0 ≤ k * d + off
  · left; omega
  · right; omega
theorem rnd_mono {n m d : Int} (hd : 0 < d) (h : n ≤ m) : rnd n d ≤ rnd m d := by
  obtain ⟨h1, h2⟩ := rnd_spec n d hd
  obtain ⟨h3, h4⟩ := rnd_spec m d hd
  refine Int.not_lt.1 fun h5 => ?_
  have := mul_step hd h5
  by_cases e1 : 0 ≤ n
  · have := h1 e1; have := h3 (by omega); omega
  · by_cases e2 : 0 ≤ m
    · have := h2 (by omega); have := h3 e2; omega
    · have := h2 (by omega); have := h4 (by omega); omega
theorem rnd_bound {n d M : Int} (hd : 0 < d) (hM : 0 ≤ M) (h1 : -M ≤ n) (h2 : n ≤ M) : -M - 1 ≤ rnd n d ∧ rnd n d ≤ M + 1 := by
  obtain ⟨h3, h4⟩ := rnd_spec n d hd
  constructor
  · refine Int.not_lt.1 fun h5 => ?_
    have h6 := mul_step hd h5
    have h7 := Int.mul_le_mul_of_nonneg_left (show 1 ≤ d by omega) (show 0 ≤ M + 1 by omega)
    have e : (-M - 1) * d = -((M + 1) * d) := by rw [← Int.neg_mul]; congr 1; omega
    rw [e] at h6
    by_cases h : 0 ≤ n
    · have := h3 h; omega
    · have := h4 (by omega); omega
  · refine Int.not_lt.1 fun h5 => ?_
    have h6 := mul_step hd h5
    have h7 := Int.mul_le_mul_of_nonneg_left (show 1 ≤ d by omega) (show 0 ≤ M + 1 by omega)
    by_cases h : 0 ≤ n
    · have := h3 h; omega
    · have := h4 (by omega); omega
theorem clampZ_in {n lo hi : Int} (h : lo ≤ hi) : lo ≤ clampZ n lo hi ∧ clampZ n lo hi ≤ hi := by unfold clampZ; split <;> (try split) <;> omega
theorem clampZ_of {n lo hi : Int} (h1 : lo ≤ n) (h2 : n ≤ hi) : clampZ n lo hi = n := by unfold clampZ; rw [if_neg (by omega), if_neg (by omega)]
theorem clampZ_neg {n m : Int} (h : 0 ≤ m) : clampZ (-n) (-m) m = - clampZ n (-m) m := by unfold clampZ; split <;> split <;> (try split) <;> (try split) <;> omega
theorem clampZ_mono {n m lo hi : Int} (h : n ≤ m) (hl : lo ≤ hi) : clampZ n lo hi ≤ clampZ m lo hi := by unfold clampZ; split <;> split <;> (try split) <;> (try split) <;> omega

/-- All numbers within bounds. -/
def inB (lo hi : Int) (cs : List Int) : Bool := cs.all fun x => decide (lo ≤ x) && decide (x ≤ hi)
theorem inB_mem {lo hi : Int} {cs : List Int} : inB lo hi cs = true ↔ ∀ x ∈ cs, lo ≤ x ∧ x ≤ hi := by simp [inB]
theorem inB_at {lo hi : Int} {cs : List Int} (h : inB lo hi cs = true) {i : Nat} {x : Int} (hx : cs[i]? = some x) : lo ≤ x ∧ x ≤ hi := inB_mem.1 h x (List.mem_of_getElem? hx)
def badB (lo hi : Int) (cs : List Int) : Int := if inB lo hi cs = true then 0 else 1
/-- The block made out of cs number by number, the first k of them. -/
def mapK (f : Nat → Int → Int) (cs : List Int) (k : Nat) : List Int := (List.range 64).map fun i => if i < k then f i (cs.getD i 0) else 0
def mapL (f : Nat → Int → Int) (cs : List Int) : List Int := mapK f cs 64
theorem mapK_length (f : Nat → Int → Int) (cs : List Int) (k : Nat) : (mapK f cs k).length = 64 := by simp [mapK]
theorem mapL_length (f : Nat → Int → Int) (cs : List Int) : (mapL f cs).length = 64 := mapK_length f cs 64
theorem mapK_zero (f : Nat → Int → Int) (cs : List Int) : mapK f cs 0 = List.replicate 64 0 := by
  apply List.ext_getElem?
  intro i
  by_cases hi : i < 64
  · rw [mapK, List.getElem?_map, List.getElem?_range hi, List.getElem?_replicate, if_pos hi]; simp
  · rw [List.getElem?_eq_none (by rw [mapK_length]; omega), List.getElem?_eq_none (by simp; omega)]
theorem mapK_next {f : Nat → Int → Int} {cs : List Int} {k : Nat} {x : Int} (hk : k < 64) (hx : cs[k]? = some x) : mapK f cs (k + 1) = (mapK f cs k).set k (f k x) := by
  apply List.ext_getElem?
  intro i
  rw [List.getElem?_set]
  by_cases hi : i < 64
  · simp only [mapK, List.getElem?_map, List.getElem?_range hi, List.length_map, List.length_range]
    by_cases e : k = i
    · subst e
      rw [if_pos rfl, if_pos hi]
      simp [List.getD_eq_getElem?_getD, hx]
    · rw [if_neg e]
      simp only [Option.map_some, show i < k + 1 ↔ i < k by omega]
  · rw [List.getElem?_eq_none (by rw [mapK_length]; omega), if_neg (by omega), List.getElem?_eq_none (by rw [mapK_length]; omega)]
theorem mapL_at {f : Nat → Int → Int} {cs : List Int} {i : Nat} {x : Int} (hi : i < 64) (hx : cs[i]? = some x) : (mapL f cs)[i]? = some (f i x) := by
  simp [mapL, mapK, List.getElem?_range hi, List.getD_eq_getElem?_getD, hx, hi]
theorem mapL_in {f : Nat → Int → Int} {cs : List Int} {lo hi : Int} (h : ∀ i x, lo ≤ f i x ∧ f i x ≤ hi) : inB lo hi (mapL f cs) = true := by
  rw [inB_mem]
  intro x hx
  simp only [mapL, mapK, List.mem_map, List.mem_range] at hx
  obtain ⟨i, hi, rfl⟩ := hx
  rw [if_pos hi]
  exact h _ _
/-- The same block overwritten in place: the first k numbers made, the others as they were. -/
def overK (f : Nat → Int → Int) (cs : List Int) (k : Nat) : List Int := (List.range 64).map fun i => if i < k then f i (cs.getD i 0) else cs.getD i 0
theorem overK_length (f : Nat → Int → Int) (cs : List Int) (k : Nat) : (overK f cs k).length = 64 := by simp [overK]
theorem overK_zero {f : Nat → Int → Int} {cs : List Int} (hc : cs.length = 64) : overK f cs 0 = cs := by
  apply List.ext_getElem?
  intro i
  by_cases hi : i < 64
  · obtain ⟨x, hx⟩ := some_at (xs := cs) (j := i) (by omega)
    rw [overK, List.getElem?_map, List.getElem?_range hi, hx]; simp [List.getD_eq_getElem?_getD, hx]
  · rw [List.getElem?_eq_none (by rw [overK_length]; omega), List.getElem?_eq_none (by omega)]
theorem overK_at {f : Nat → Int → Int} {cs : List Int} {k : Nat} {x : Int} (hk : k < 64) (hx : cs[k]? = some x) : (overK f cs k)[k]? = some x := by
  simp [overK, List.getElem?_range hk, List.getD_eq_getElem?_getD, hx]
theorem overK_next {f : Nat → Int → Int} {cs : List Int} {k : Nat} {x : Int} (hk : k < 64) (hx : cs[k]? = some x) : overK f cs (k + 1) = (overK f cs k).set k (f k x) := by
  apply List.ext_getElem?
  intro i
  rw [List.getElem?_set]
  by_cases hi : i < 64
  · simp only [overK, List.getElem?_map, List.getElem?_range hi, List.length_map, List.length_range]
    by_cases e : k = i
    · subst e
      rw [if_pos rfl, if_pos hi]
      simp [List.getD_eq_getElem?_getD, hx]
    · rw [if_neg e]
      simp only [Option.map_some, show i < k + 1 ↔ i < k by omega]
  · rw [List.getElem?_eq_none (by rw [overK_length]; omega), if_neg (by omega), List.getElem?_eq_none (by rw [overK_length]; omega)]
theorem overK_all (f : Nat → Int → Int) (cs : List Int) : overK f cs 64 = mapL f cs := by
  unfold overK mapL mapK
  apply List.map_congr_left
  intro i hi
  rw [if_pos (List.mem_range.1 hi), if_pos (List.mem_range.1 hi)]

def fDown (q : List Int) (i : Nat) (n : Int) : Int := clampZ (rnd n (q.getD i 1)) (-2047) 2047
def fUp (q : List Int) (i : Nat) (n : Int) : Int := clampZ (n * q.getD i 1) (-40000) 40000
def fScale (p : Int) (_ : Nat) (n : Int) : Int := clampZ (rnd (n * p) 100) 1 255
/-- The error of Down and Up, and of Scale. -/
def eBoth (M : Int) (b q : List Int) : Int := if inB 1 255 q = true ∧ inB (-M) M b = true then 0 else 1
def eScale (q : List Int) (p : Int) : Int := if inB 1 255 q = true ∧ 1 ≤ p ∧ p ≤ 1000 then 0 else 1
def oDown (b q : List Int) : List Int := if eBoth 40000 b q = 0 then mapL (fDown q) b else zero64
def oUp (b q : List Int) : List Int := if eBoth 2047 b q = 0 then mapL (fUp q) b else zero64
def oScale (q : List Int) (p : Int) : List Int := if eScale q p = 0 then mapL (fScale p) q else zero64
theorem oDown_length (b q : List Int) : (oDown b q).length = 64 := by unfold oDown; split; exact mapL_length _ _; exact zero64_length
theorem oUp_length (b q : List Int) : (oUp b q).length = 64 := by unfold oUp; split; exact mapL_length _ _; exact zero64_length
theorem oScale_length (q : List Int) (p : Int) : (oScale q p).length = 64 := by unfold oScale; split; exact mapL_length _ _; exact zero64_length
theorem eBoth_ok {M : Int} {b q : List Int} (h : eBoth M b q = 0) : inB 1 255 q = true ∧ inB (-M) M b = true := by unfold eBoth at h; split at h; assumption; cases h
theorem eBoth_bad {M : Int} {b q : List Int} (h : ¬ eBoth M b q = 0) : eBoth M b q = 1 := by unfold eBoth at h ⊢; split at h; exact absurd rfl h; rw [if_neg (by assumption)]
theorem eScale_ok {p : Int} {q : List Int} (h : eScale q p = 0) : inB 1 255 q = true ∧ 1 ≤ p ∧ p ≤ 1000 := by unfold eScale at h; split at h; assumption; cases h
theorem eScale_bad {p : Int} {q : List Int} (h : ¬ eScale q p = 0) : eScale q p = 1 := by unfold eScale at h ⊢; split at h; exact absurd rfl h; rw [if_neg (by assumption)]
theorem fDown_at {q : List Int} {i : Nat} {n d : Int} (hd : q[i]? = some d) : fDown q i n = clampZ (rnd n d) (-2047) 2047 := by simp [fDown, List.getD_eq_getElem?_getD, hd]
theorem fUp_at {q : List Int} {i : Nat} {n d : Int} (hd : q[i]? = some d) : fUp q i n = clampZ (n * d) (-40000) 40000 := by simp [fUp, List.getD_eq_getElem?_getD, hd]
end Go.Proofs.Ytbboakdfnjjddaa

/- What Tokens and Block answer, in numbers. No program is named here. -/
namespace Go.Proofs.Ytbboakdfnjjddaa
set_option linter.unusedVariables false
set_option linter.unusedSimpArgs false
set_option maxRecDepth 100000

/-- A token's value. -/
def tokV (t : Int × Int × Int) : Value := .agg #[.int .i64 t.1, .int .i64 t.2.1, .int .i64 t.2.2]
def eT (b : Int) (cs : List Int) : Int := if -2047 ≤ b ∧ b ≤ 2047 ∧ inB (-2047) 2047 cs = true then 0 else 1
def oT (b : Int) (cs : List Int) : List (Int × Int × Int) := if eT b cs = 0 then toksZ b (toL cs) else []
theorem eT_ok {b : Int} {cs : List Int} (h1 : -2047 ≤ b) (h2 : b ≤ 2047) (h3 : inB (-2047) 2047 cs = true) : eT b cs = 0 := if_pos ⟨h1, h2, h3⟩
theorem eT_bad {b : Int} {cs : List Int} (h : ¬ (-2047 ≤ b ∧ b ≤ 2047 ∧ inB (-2047) 2047 cs = true)) : eT b cs = 1 := if_neg h
theorem eT_zero {b : Int} {cs : List Int} (h : eT b cs = 0) : -2047 ≤ b ∧ b ≤ 2047 ∧ inB (-2047) 2047 cs = true := by unfold eT at h; split at h; assumption; cases h
theorem eT_two (b : Int) (cs : List Int) : eT b cs = 0 ∨ eT b cs = 1 := by unfold eT; split <;> simp
theorem oT_ok {b : Int} {cs : List Int} (h : eT b cs = 0) : oT b cs = toksZ b (toL cs) := if_pos h
theorem oT_bad {b : Int} {cs : List Int} (h : eT b cs ≠ 0) : oT b cs = [] := if_neg h
theorem toL_length (cs : List Int) : (toL cs).length = 64 := toK_length _ _
theorem fromL_length (cs : List Int) : (fromL cs).length = 64 := fromK_length _ _
theorem toL_mem {cs : List Int} (hc : cs.length = 64) {z : Int} (h : z ∈ toL cs) : z ∈ cs := by
  obtain ⟨k, hk⟩ := List.getElem?_of_mem h
  have h64 : k < 64 := by have := (List.getElem?_eq_some_iff.1 hk).1; rw [toL_length] at this; exact this
  obtain ⟨⟨n, hn⟩, h1, _⟩ := zz_at ⟨k, h64⟩
  rw [toL_at h64 h1] at hk
  injection hk with hk
  have := getD_some (cs := cs) (k := n) (by omega)
  rw [hk] at this
  exact List.mem_of_getElem? this
theorem fromL_mem {cs : List Int} (hc : cs.length = 64) {z : Int} (h : z ∈ fromL cs) : z ∈ cs := by
  obtain ⟨k, hk⟩ := List.getElem?_of_mem h
  have h64 : k < 64 := by have := (List.getElem?_eq_some_iff.1 hk).1; rw [fromL_length] at this; exact this
  rw [fromL_at h64] at hk
  injection hk with hk
  have := getD_some (cs := cs) (k := zz.idxOf (k : Int)) (by have := (zz_back ⟨k, h64⟩).1; simp only at this; omega)
  rw [hk] at this
  exact List.mem_of_getElem? this
theorem toL_in {cs : List Int} (hc : cs.length = 64) (h : inB (-2047) 2047 cs = true) : ∀ z ∈ toL cs, -2047 ≤ z ∧ z ≤ 2047 := fun z hz => inB_mem.1 h z (toL_mem hc hz)
theorem toks_len (b : Int) {zs : List Int} (h : zs.length = 64) : (toksZ b zs).length ≤ 64 := by
  match zs, h with
  | z :: zs, h =>
    have := len_rest zs 0
    rw [List.length_cons] at h
    rw [toksZ, List.length_cons]; omega
theorem oT_len (b : Int) (cs : List Int) : (oT b cs).length ≤ 64 := by
  unfold oT; split
  · exact toks_len b (toL_length cs)
  · simp
end Go.Proofs.Ytbboakdfnjjddaa
