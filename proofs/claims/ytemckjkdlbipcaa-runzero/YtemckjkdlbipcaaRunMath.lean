/- Tokens of the numbers of a block, and numbers of tokens. No program is named here. -/
import Derived.Test.YtemckjkdlbipcaaSizeMath
namespace Go.Proofs.Ytemckjkdlbipcaa
set_option linter.unusedVariables false
set_option linter.unusedSimpArgs false
set_option maxRecDepth 100000

/-- A token: its symbol, its width, its value. -/
def tkN (r : Nat) (n : Int) : Int × Int × Int := (16 * (r : Int) + szZ n, (szZ n : Int), vbZ n)
def tkLong : Int × Int × Int := (240, 0, 0)
def tkEnd : Int × Int × Int := (0, 0, 0)
/-- The tokens of the numbers behind the first one, r zeros being ahead. -/
def restT : Nat → List Int → List (Int × Int × Int)
  | r, [] => if r = 0 then [] else [tkEnd]
  | r, z :: zs => if z = 0 then restT (r + 1) zs else List.replicate (r / 16) tkLong ++ tkN (r % 16) z :: restT 0 zs
/-- The tokens of a block's numbers in their order. -/
def toksZ (before : Int) : List Int → List (Int × Int × Int)
  | [] => []
  | z :: zs => tkN 0 (z - before) :: restT 0 zs
theorem restT_nil (r : Nat) : restT r [] = if r = 0 then [] else [tkEnd] := rfl
theorem restT_zero (r : Nat) (zs : List Int) : restT r (0 :: zs) = restT (r + 1) zs := by rw [restT, if_pos rfl]
theorem restT_cons {z : Int} (r : Nat) (zs : List Int) (h : z ≠ 0) : restT r (z :: zs) = List.replicate (r / 16) tkLong ++ tkN (r % 16) z :: restT 0 zs := by rw [restT, if_neg h]
/-- Is a token told by a width and bits? -/
def fitT (t : Int × Int × Int) : Bool := decide (0 ≤ t.2.1 ∧ t.2.1 ≤ 12 ∧ 0 ≤ t.2.2 ∧ t.2.2 < pw t.2.1.toNat)
/-- May a token come behind the first one? -/
def okT (t : Int × Int × Int) : Bool := fitT t && decide (0 ≤ t.1 ∧ t.1 ≤ 255 ∧ t.1 % 16 = t.2.1 ∧ t.2.1 ≤ 11 ∧ (t.2.1 = 0 → t.1 = 0 ∨ t.1 = 240))
/-- The number of a token. -/
def numT (t : Int × Int × Int) : Int := bkZ t.2.1.toNat t.2.2
/-- How many numbers a token tells. -/
def farT (t : Int × Int × Int) : Nat := (t.1 / 16).toNat + 1
/-- k numbers out of tokens: an error's code, the numbers, how many tokens were taken. -/
def decR : Nat → List (Int × Int × Int) → Int × List Int × Nat
  | 0, _ => (0, [], 0)
  | _ + 1, [] => (3, [], 0)
  | k + 1, t :: l =>
    if okT t = true then
      if t.1 = 0 then (0, List.replicate (k + 1) 0, 1)
      else if k + 1 < farT t then (4, [], 0)
      else
        let d := decR (k + 1 - farT t) l
        if d.1 = 0 then (0, List.replicate (farT t - 1) 0 ++ numT t :: d.2.1, d.2.2 + 1) else (d.1, [], 0)
    else (4, [], 0)
theorem decR_zero (l : List (Int × Int × Int)) : decR 0 l = (0, [], 0) := by cases l <;> rfl
theorem decR_none (k : Nat) : decR (k + 1) [] = (3, [], 0) := rfl
theorem tkN_fit {r : Nat} {n : Int} (h1 : -4095 ≤ n) (h2 : n ≤ 4095) : fitT (tkN r n) = true := by
  have h := vbZ_in n
  have := sz_12 h1 h2
  unfold fitT tkN
  simp only [decide_eq_true_eq, Int.toNat_natCast]
  omega
theorem numT_tkN (r : Nat) (n : Int) : numT (tkN r n) = n := by
  unfold numT tkN
  simp only [Int.toNat_natCast]
  exact bk_vb n
theorem tkN_ok {r : Nat} {n : Int} (hr : r ≤ 15) (hn : n ≠ 0) (h1 : -2047 ≤ n) (h2 : n ≤ 2047) : okT (tkN r n) = true := by
  have h3 := sz_11 h1 h2
  have h4 := szZ_pos hn
  unfold okT
  rw [tkN_fit (by omega) (by omega)]
  unfold tkN
  simp only [Bool.true_and, decide_eq_true_eq]
  refine ⟨by omega, by omega, by omega, by omega, fun h => by omega⟩
theorem tkN_far {r : Nat} {n : Int} (h1 : -2047 ≤ n) (h2 : n ≤ 2047) : farT (tkN r n) = r + 1 := by
  have h3 := sz_11 h1 h2
  unfold farT tkN
  simp only []
  omega
theorem tkN_sym {r : Nat} {n : Int} (hn : n ≠ 0) (h1 : -2047 ≤ n) (h2 : n ≤ 2047) : (tkN r n).1 ≠ 0 ∧ (tkN r n).1 ≠ 240 := by
  have h3 := sz_11 h1 h2
  have h4 := szZ_pos hn
  unfold tkN
  simp only []
  omega
theorem tkLong_ok : okT tkLong = true := by decide
theorem tkEnd_ok : okT tkEnd = true := by decide
theorem tkLong_far : farT tkLong = 16 := by decide
theorem tkLong_num : numT tkLong = 0 := by decide
/-- Sixteen zeros. -/
theorem decR_long (k : Nat) (l : List (Int × Int × Int)) : decR (k + 16) (tkLong :: l) = if (decR k l).1 = 0 then (0, List.replicate 16 0 ++ (decR k l).2.1, (decR k l).2.2 + 1) else ((decR k l).1, [], 0) := by
  rw [show k + 16 = (k + 15) + 1 from rfl, decR]
  simp only [tkLong_ok, tkLong_far, tkLong_num, if_true]
  rw [if_neg (by decide), if_neg (by omega), show k + 15 + 1 - 16 = k by omega]
  by_cases h : (decR k l).1 = 0
  · rw [if_pos h, if_pos h]
    have e : List.replicate (16 - 1) (0 : Int) ++ 0 :: (decR k l).2.1 = List.replicate 16 0 ++ (decR k l).2.1 := by
      rw [show List.replicate 16 (0 : Int) = List.replicate 15 0 ++ [0] from rfl, List.append_assoc]; rfl
    rw [e]
  · rw [if_neg h, if_neg h]
theorem decR_longs (q k : Nat) (l : List (Int × Int × Int)) : decR (k + 16 * q) (List.replicate q tkLong ++ l) = if (decR k l).1 = 0 then (0, List.replicate (16 * q) 0 ++ (decR k l).2.1, (decR k l).2.2 + q) else ((decR k l).1, [], 0) := by
  induction q with
  | zero =>
    simp only [List.replicate_zero, List.nil_append, Nat.mul_zero, Nat.add_zero]
    by_cases h : (decR k l).1 = 0
    · rw [if_pos h, ← h]
    · rw [if_neg h]
      have : ∀ k l, (decR k l).1 ≠ 0 → (decR k l) = ((decR k l).1, [], 0) := by
        intro k l h
        cases k with
        | zero => rw [decR_zero] at h; exact absurd rfl h
        | succ k =>
          cases l with
          | nil => rfl
          | cons t l =>
            rw [decR] at h ⊢
            split at h
            · split at h
              · exact absurd rfl h
              · split at h
                · rw [if_pos ‹_›, if_neg ‹_›, if_pos ‹_›]
                · rw [if_pos ‹_›, if_neg ‹_›, if_neg ‹_›]
                  simp only [] at h ⊢
                  split at h
                  · exact absurd rfl h
                  · rw [if_neg ‹_›]
            · rw [if_neg ‹_›]
      exact this k l h
  | succ q ih =>
    rw [List.replicate_succ, List.cons_append, show k + 16 * (q + 1) = k + 16 * q + 16 by omega, decR_long, ih]
    by_cases h : (decR k l).1 = 0
    · simp only [if_pos h, if_true]
      rw [show List.replicate (16 * (q + 1)) (0 : Int) = List.replicate 16 0 ++ List.replicate (16 * q) 0 by rw [List.replicate_append_replicate]; congr 1; omega, List.append_assoc]
      congr 2
    · simp only [if_neg h]
/-- One number that is not 0. -/
theorem decR_num {r k : Nat} {z : Int} (hr : r ≤ 15) (hz : z ≠ 0) (h1 : -2047 ≤ z) (h2 : z ≤ 2047) (l : List (Int × Int × Int)) : decR (k + (r + 1)) (tkN r z :: l) = if (decR k l).1 = 0 then (0, List.replicate r 0 ++ z :: (decR k l).2.1, (decR k l).2.2 + 1) else ((decR k l).1, [], 0) := by
  rw [show k + (r + 1) = (k + r) + 1 from rfl, decR]
  simp only [tkN_ok hr hz h1 h2, tkN_far h1 h2, numT_tkN, if_true]
  rw [if_neg (tkN_sym hz h1 h2).1, if_neg (by omega), show k + r + 1 - (r + 1) = k by omega, Nat.add_sub_cancel]
/-- What was told is read. -/
theorem decR_restT : ∀ (zs : List Int) (r : Nat) (more : List (Int × Int × Int)), (∀ z ∈ zs, -2047 ≤ z ∧ z ≤ 2047) → decR (r + zs.length) (restT r zs ++ more) = (0, List.replicate r 0 ++ zs, (restT r zs).length)
  | [], r, more, _ => by
    cases r with
    | zero => simp [restT, decR_zero]
    | succ r =>
      rw [restT_nil, if_neg (by omega)]
      simp only [List.length_nil, Nat.add_zero, List.append_nil, List.length_singleton, List.singleton_append]
      rw [decR]
      simp only [tkEnd_ok, if_true]
      rw [if_pos (by decide)]
  | z :: zs, r, more, h => by
    have hzs : ∀ z ∈ zs, -2047 ≤ z ∧ z ≤ 2047 := fun x hx => h x (List.mem_cons_of_mem _ hx)
    have hz := h z List.mem_cons_self
    by_cases h0 : z = 0
    · subst h0
      rw [restT_zero, List.length_cons, show r + (zs.length + 1) = r + 1 + zs.length by omega, decR_restT zs (r + 1) more hzs]
      congr 2
      rw [List.replicate_succ', List.append_assoc]; rfl
    · rw [restT_cons r zs h0, List.append_assoc, List.cons_append]
      have e : r + (z :: zs).length = (zs.length + (r % 16 + 1)) + 16 * (r / 16) := by rw [List.length_cons]; omega
      have ih := decR_restT zs 0 more hzs
      rw [Nat.zero_add] at ih
      rw [e, decR_longs, decR_num (by omega) h0 hz.1 hz.2, ih]
      simp only [if_true]
      have e2 : List.replicate (16 * (r / 16)) (0 : Int) ++ (List.replicate (r % 16) 0 ++ z :: (List.replicate 0 0 ++ zs)) = List.replicate r 0 ++ z :: zs := by
        rw [← List.append_assoc, List.replicate_append_replicate, show 16 * (r / 16) + r % 16 = r by omega]; rfl
      rw [e2]
      congr 2
      simp only [List.length_append, List.length_replicate, List.length_cons]
      omega
/-- The numbers of a block out of tokens. -/
def decB (before : Int) (l : List (Int × Int × Int)) : Int × List Int × Nat :=
  if before < -2047 ∨ 2047 < before then (1, [], 0) else
  match l with
  | [] => (3, [], 0)
  | t :: l =>
    if fitT t = true ∧ t.1 = t.2.1 ∧ -2047 ≤ before + numT t ∧ before + numT t ≤ 2047 then
      let d := decR 63 l
      if d.1 = 0 then
        if toksZ before ((before + numT t) :: d.2.1) = t :: l.take d.2.2 then (0, (before + numT t) :: d.2.1, d.2.2 + 1) else (4, [], 0)
      else (d.1, [], 0)
    else (4, [], 0)
/-- A block is told by its tokens, whatever comes behind. -/
theorem decB_toksZ {before : Int} {zs : List Int} (hb : -2047 ≤ before ∧ before ≤ 2047) (hl : zs.length = 64) (h : ∀ z ∈ zs, -2047 ≤ z ∧ z ≤ 2047) (more : List (Int × Int × Int)) :
    decB before (toksZ before zs ++ more) = (0, zs, (toksZ before zs).length) := by
  match zs, hl, h with
  | z :: zs, hl, h =>
    have hz := h z List.mem_cons_self
    have hzs : ∀ z ∈ zs, -2047 ≤ z ∧ z ≤ 2047 := fun x hx => h x (List.mem_cons_of_mem _ hx)
    rw [List.length_cons] at hl
    have hr := decR_restT zs 0 more hzs
    rw [Nat.zero_add, show zs.length = 63 by omega] at hr
    unfold decB
    rw [if_neg (by omega)]
    simp only [toksZ, List.cons_append]
    have e : before + numT (tkN 0 (z - before)) = z := by rw [numT_tkN]; omega
    rw [if_pos ⟨tkN_fit (by omega) (by omega), by unfold tkN; simp, by rw [e]; exact hz.1, by rw [e]; exact hz.2⟩, hr, e]
    simp only [if_true, List.replicate_zero, List.nil_append]
    rw [List.take_append_of_le_length (Nat.le_refl _), List.take_length]
    exact if_pos rfl
/-- What is read has just these tokens. -/
theorem decB_again {before : Int} {l : List (Int × Int × Int)} {zs : List Int} {n : Nat} (h : decB before l = (0, zs, n)) : (-2047 ≤ before ∧ before ≤ 2047) ∧ toksZ before zs = l.take n ∧ 0 < n ∧ n ≤ l.length := by
  have used : ∀ (l : List (Int × Int × Int)) (k : Nat), (decR k l).2.2 ≤ l.length := by
    intro l
    induction l with
    | nil => intro k; cases k <;> simp [decR]
    | cons t l ih =>
      intro k
      cases k with
      | zero => rw [decR_zero]; simp
      | succ k =>
        rw [decR]
        split
        · split
          · simp
          · split
            · simp
            · simp only []
              split
              · have := ih (k + 1 - farT t); simp only [List.length_cons]; omega
              · simp
        · simp
  unfold decB at h
  by_cases hb : before < -2047 ∨ 2047 < before
  · rw [if_pos hb] at h; simp at h
  · rw [if_neg hb] at h
    cases l with
    | nil => simp at h
    | cons t l =>
      simp only [] at h
      split at h
      · split at h
        · split at h
          · rename_i h1 h2 h3
            simp only [Prod.mk.injEq, true_and] at h
            obtain ⟨rfl, rfl⟩ := h
            have := used l 63
            exact ⟨by omega, h3, by omega, by rw [List.length_cons]; omega⟩
          · simp at h
        · simp only [Prod.mk.injEq] at h
          rename_i h2
          exact absurd h.1 h2
      · simp at h
end Go.Proofs.Ytemckjkdlbipcaa
