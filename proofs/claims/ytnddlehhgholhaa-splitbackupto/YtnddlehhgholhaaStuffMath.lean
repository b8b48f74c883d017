/- Stuffing, its undoing, and the division at markers, as functions of lists. No program is named here. -/
import Derived.Test.YtnddlehhgholhaaOwn
namespace Go.Proofs.Ytnddlehhgholhaa
set_option linter.unusedVariables false
set_option linter.unusedSimpArgs false

def stuff1 (x : Int) : List Int := if x = 255 then [255, 0] else [x]
def stuffB (bs : List Int) : List Int := bs.flatMap stuff1
theorem stuffB_cons (x : Int) (bs : List Int) : stuffB (x :: bs) = stuff1 x ++ stuffB bs := by simp [stuffB]
theorem stuffB_append (a b : List Int) : stuffB (a ++ b) = stuffB a ++ stuffB b := by simp [stuffB]
theorem stuffB_one (x : Int) : stuffB [x] = stuff1 x := by simp [stuffB]
theorem stuffB_length_le (bs : List Int) : (stuffB bs).length ≤ 2 * bs.length := by
  induction bs with
  | nil => simp [stuffB]
  | cons x bs ih =>
    rw [stuffB_cons, List.length_append, List.length_cons]
    have : (stuff1 x).length ≤ 2 := by unfold stuff1; split <;> simp
    omega
theorem stuffB_length (bs : List Int) : (stuffB bs).length = bs.length + bs.countP (· == 255) := by
  induction bs with
  | nil => simp [stuffB]
  | cons x bs ih =>
    rw [stuffB_cons, List.length_append, List.length_cons, ih, List.countP_cons]
    unfold stuff1
    by_cases h : x = 255
    · simp [h]; omega
    · simp [h]; omega

/-- What the undoing gives; none: a byte 255 that no byte 0 follows. -/
def plainR : List Int → Option (List Int)
  | [] => some []
  | [x] => if x = 255 then none else some [x]
  | x :: y :: r => if x = 255 then (if y = 0 then (plainR r).map (255 :: ·) else none) else (plainR (y :: r)).map (x :: ·)
theorem plainR_other {x : Int} (h : x ≠ 255) (r : List Int) : plainR (x :: r) = (plainR r).map (x :: ·) := by
  cases r with
  | nil => simp [plainR, h]
  | cons y r => simp [plainR, h]
theorem plainR_lead (r : List Int) : plainR (255 :: 0 :: r) = (plainR r).map (255 :: ·) := by simp [plainR]
theorem plainR_bad {y : Int} (h : y ≠ 0) (r : List Int) : plainR (255 :: y :: r) = none := by simp [plainR, h]
theorem plainR_end : plainR [255] = none := by simp [plainR]
def plainOut (bs : List Int) : List Int := (plainR bs).getD []
def plainErr (bs : List Int) : Int := if (plainR bs).isSome then 0 else 4
theorem plain_some {bs p : List Int} (h : plainR bs = some p) : plainOut bs = p ∧ plainErr bs = 0 := by simp [plainOut, plainErr, h]
theorem plain_none {bs : List Int} (h : plainR bs = none) : plainOut bs = [] ∧ plainErr bs = 4 := by simp [plainOut, plainErr, h]
theorem plainR_stuffB (bs : List Int) : plainR (stuffB bs) = some bs := by
  induction bs with
  | nil => rfl
  | cons x bs ih =>
    rw [stuffB_cons]
    unfold stuff1
    by_cases h : x = 255
    · subst h; simp [plainR_lead, ih]
    · simp [h, plainR_other h, ih]
theorem stuffB_plainR : ∀ (bs p : List Int), plainR bs = some p → stuffB p = bs
  | [], p, h => by simp [plainR] at h; subst h; rfl
  | [x], p, h => by
    by_cases hx : x = 255
    · simp [plainR, hx] at h
    · simp [plainR, hx] at h; subst h; simp [stuffB, stuff1, hx]
  | x :: y :: r, p, h => by
    by_cases hx : x = 255
    · by_cases hy : y = 0
      · subst hx hy
        rw [plainR_lead] at h
        cases hr : plainR r with
        | none => rw [hr] at h; simp at h
        | some q =>
          rw [hr] at h
          simp at h
          subst h
          rw [stuffB_cons, stuffB_plainR r q hr]; rfl
      · subst hx; rw [plainR_bad hy] at h; cases h
    · rw [plainR_other hx] at h
      cases hr : plainR (y :: r) with
      | none => rw [hr] at h; simp at h
      | some q =>
        rw [hr] at h
        simp at h
        subst h
        rw [stuffB_cons, stuffB_plainR (y :: r) q hr]; simp [stuff1, hx]
theorem length_le_stuffB (p : List Int) : p.length ≤ (stuffB p).length := by rw [stuffB_length]; omega

/-- The division at markers; the second list: the piece so far. -/
def splitR : List Int → List Int → Option (List (List Int) × List Int)
  | [], cur => some ([cur], [])
  | [x], cur => if x = 255 then none else some ([cur ++ [x]], [])
  | x :: y :: r, cur =>
    if x = 255 then (if y = 255 then none else if y = 0 then splitR r (cur ++ [255, 0]) else (splitR r []).map fun q => (cur :: q.1, y :: q.2))
    else splitR (y :: r) (cur ++ [x])
theorem splitR_other {x : Int} (h : x ≠ 255) (r cur : List Int) : splitR (x :: r) cur = splitR r (cur ++ [x]) := by
  cases r with
  | nil => simp [splitR, h]
  | cons y r => simp [splitR, h]
theorem splitR_pad (r cur : List Int) : splitR (255 :: 0 :: r) cur = splitR r (cur ++ [255, 0]) := by simp [splitR]
theorem splitR_mark {y : Int} (h : y ≠ 255) (h0 : y ≠ 0) (r cur : List Int) : splitR (255 :: y :: r) cur = (splitR r []).map fun q => (cur :: q.1, y :: q.2) := by simp [splitR, h, h0]
theorem splitR_end (cur : List Int) : splitR [255] cur = none := by simp [splitR]
theorem splitR_two (r cur : List Int) : splitR (255 :: 255 :: r) cur = none := by simp [splitR]
def splitP (bs : List Int) : List (List Int) := ((splitR bs []).map (·.1)).getD []
def splitM (bs : List Int) : List Int := ((splitR bs []).map (·.2)).getD []
def splitErr (bs : List Int) : Int := if (splitR bs []).isSome then 0 else 4
theorem split_some {bs : List Int} {q : List (List Int) × List Int} (h : splitR bs [] = some q) : splitP bs = q.1 ∧ splitM bs = q.2 ∧ splitErr bs = 0 := by simp [splitP, splitM, splitErr, h]
theorem split_none {bs : List Int} (h : splitR bs [] = none) : splitP bs = [] ∧ splitM bs = [] ∧ splitErr bs = 4 := by simp [splitP, splitM, splitErr, h]

/-- Where a division stands: what is done, and what is left. -/
structure SInv (bs : List Int) (k : Nat) (ps : List (List Int)) (ms cur : List Int) : Prop where
  eq : splitR bs [] = (splitR (bs.drop k) cur).map fun q => (ps ++ q.1, ms ++ q.2)
  few : ps.length = ms.length
  room : 2 * ps.length + cur.length ≤ k
theorem drop_one {xs : List Int} {k : Nat} {x : Int} (h : xs[k]? = some x) : xs.drop k = x :: xs.drop (k + 1) := by
  obtain ⟨hk, rfl⟩ := List.getElem?_eq_some_iff.1 h
  exact List.drop_eq_getElem_cons hk
section
variable {bs ms cur : List Int} {k : Nat} {ps : List (List Int)} {x y : Int}
theorem SInv.start (bs : List Int) : SInv bs 0 [] [] [] := ⟨by simp, rfl, by simp⟩
theorem SInv.other (h : SInv bs k ps ms cur) (hx : bs[k]? = some x) (hn : x ≠ 255) : SInv bs (k + 1) ps ms (cur ++ [x]) :=
  ⟨by rw [h.eq, drop_one hx, splitR_other hn], h.few, by have := h.room; simp; omega⟩
theorem SInv.pad (h : SInv bs k ps ms cur) (hx : bs[k]? = some 255) (hy : bs[k + 1]? = some 0) : SInv bs (k + 2) ps ms (cur ++ [255, 0]) :=
  ⟨by rw [h.eq, drop_one hx, drop_one hy, splitR_pad], h.few, by have := h.room; simp; omega⟩
theorem SInv.mark (h : SInv bs k ps ms cur) (hx : bs[k]? = some 255) (hy : bs[k + 1]? = some y) (h1 : y ≠ 255) (h0 : y ≠ 0) : SInv bs (k + 2) (ps ++ [cur]) (ms ++ [y]) [] :=
  ⟨by rw [h.eq, drop_one hx, drop_one hy, splitR_mark h1 h0, Option.map_map]; simp [Function.comp_def], by simp [h.few], by have := h.room; simp; omega⟩
theorem SInv.two (h : SInv bs k ps ms cur) (hx : bs[k]? = some 255) (hy : bs[k + 1]? = some 255) : splitR bs [] = none := by rw [h.eq, drop_one hx, drop_one hy, splitR_two]; rfl
theorem SInv.last (h : SInv bs k ps ms cur) (hx : bs[k]? = some 255) (hl : k + 1 = bs.length) : splitR bs [] = none := by rw [h.eq, drop_one hx, hl, List.drop_length, splitR_end]; rfl
theorem SInv.done (h : SInv bs bs.length ps ms cur) : splitR bs [] = some (ps ++ [cur], ms) := by rw [h.eq, List.drop_length]; simp [splitR]
end
/-- Where an undoing stands. -/
structure PlInv (bs : List Int) (k : Nat) (acc : List Int) : Prop where
  eq : plainR bs = (plainR (bs.drop k)).map (acc ++ ·)
  room : acc.length ≤ k
section
variable {bs acc : List Int} {k : Nat} {x y : Int}
theorem PlInv.start (bs : List Int) : PlInv bs 0 [] := ⟨by simp, Nat.le_refl _⟩
theorem PlInv.other (h : PlInv bs k acc) (hx : bs[k]? = some x) (hn : x ≠ 255) : PlInv bs (k + 1) (acc ++ [x]) :=
  ⟨by rw [h.eq, drop_one hx, plainR_other hn, Option.map_map]; simp [Function.comp_def], by have := h.room; simp; omega⟩
theorem PlInv.lead (h : PlInv bs k acc) (hx : bs[k]? = some 255) (hy : bs[k + 1]? = some 0) : PlInv bs (k + 2) (acc ++ [255]) :=
  ⟨by rw [h.eq, drop_one hx, drop_one hy, plainR_lead, Option.map_map]; simp [Function.comp_def], by have := h.room; simp; omega⟩
theorem PlInv.bad (h : PlInv bs k acc) (hx : bs[k]? = some 255) (hy : bs[k + 1]? = some y) (hn : y ≠ 0) : plainR bs = none := by rw [h.eq, drop_one hx, drop_one hy, plainR_bad hn]; rfl
theorem PlInv.last (h : PlInv bs k acc) (hx : bs[k]? = some 255) (hl : k + 1 = bs.length) : plainR bs = none := by rw [h.eq, drop_one hx, hl, List.drop_length, plainR_end]; rfl
theorem PlInv.done (h : PlInv bs bs.length acc) : plainR bs = some acc := by rw [h.eq, List.drop_length]; simp [plainR]
end
theorem splitR_stuffB (bs cur : List Int) : splitR (stuffB bs) cur = some ([cur ++ stuffB bs], []) := by
  induction bs generalizing cur with
  | nil => simp [stuffB, splitR]
  | cons x bs ih =>
    rw [stuffB_cons]
    unfold stuff1
    by_cases h : x = 255
    · subst h; simp [splitR_pad, ih]
    · simp [h, splitR_other h, ih]
/-- The pieces with the markers between them. -/
def joinP : List (List Int) → List Int → List Int
  | [], _ => []
  | p :: ps, ms => p ++ match ps, ms with
    | [], _ => []
    | q :: qs, [] => []
    | q :: qs, m :: ms => [255, m] ++ joinP (q :: qs) ms
theorem plainR_snoc : ∀ (a : List Int) (x : Int), (plainR a).isSome = true → x ≠ 255 → (plainR (a ++ [x])).isSome = true
  | [], x, _, hx => by simp [plainR, hx]
  | [y], x, h, hx => by
    by_cases hy : y = 255
    · simp [plainR, hy] at h
    · simp [plainR, hy, hx]
  | y :: z :: r, x, h, hx => by
    by_cases hy : y = 255
    · by_cases hz : z = 0
      · subst hy hz
        rw [plainR_lead] at h
        rw [List.cons_append, List.cons_append, plainR_lead]
        simp at h ⊢
        exact plainR_snoc r x h hx
      · subst hy; rw [plainR_bad hz] at h; cases h
    · rw [plainR_other hy] at h
      rw [List.cons_append, plainR_other hy]
      simp at h ⊢
      simpa using plainR_snoc (z :: r) x h hx
theorem plainR_pad : ∀ (a : List Int), (plainR a).isSome = true → (plainR (a ++ [255, 0])).isSome = true
  | [], _ => by simp [plainR]
  | [y], h => by
    by_cases hy : y = 255
    · simp [plainR, hy] at h
    · simp [plainR, hy]
  | y :: z :: r, h => by
    by_cases hy : y = 255
    · by_cases hz : z = 0
      · subst hy hz
        rw [plainR_lead] at h
        rw [List.cons_append, List.cons_append, plainR_lead]
        simp at h ⊢
        exact plainR_pad r h
      · subst hy; rw [plainR_bad hz] at h; cases h
    · rw [plainR_other hy] at h
      rw [List.cons_append, plainR_other hy]
      simp at h ⊢
      simpa using plainR_pad (z :: r) h
/-- What a division gives: one piece more than markers, each piece plain, each marker neither 0 nor 255, and all together what there was. -/
theorem splitR_back : ∀ (bs cur : List Int) (q : List (List Int) × List Int), splitR bs cur = some q → (plainR cur).isSome = true → (∀ x ∈ bs, 0 ≤ x ∧ x ≤ 255) →
    q.1.length = q.2.length + 1 ∧ (∀ p ∈ q.1, (plainR p).isSome = true) ∧ (∀ m ∈ q.2, 1 ≤ m ∧ m ≤ 254) ∧ joinP q.1 q.2 = cur ++ bs
  | [], cur, q, h, hc, _ => by
    simp [splitR] at h; subst h
    refine ⟨rfl, by simpa using hc, by simp, by simp [joinP]⟩
  | [x], cur, q, h, hc, _ => by
    by_cases hx : x = 255
    · simp [splitR, hx] at h
    · simp [splitR, hx] at h; subst h
      refine ⟨rfl, by simpa using plainR_snoc cur x hc hx, by simp, by simp [joinP]⟩
  | x :: y :: r, cur, q, h, hc, hb => by
    by_cases hx : x = 255
    · subst hx
      by_cases hy : y = 255
      · subst hy; rw [splitR_two] at h; cases h
      · by_cases h0 : y = 0
        · subst h0
          rw [splitR_pad] at h
          obtain ⟨h1, h2, h3, h4⟩ := splitR_back r _ q h (plainR_pad cur hc) fun z hz => hb z (by simp [hz])
          exact ⟨h1, h2, h3, by rw [h4]; simp⟩
        · rw [splitR_mark hy h0] at h
          cases hr : splitR r [] with
          | none => rw [hr] at h; cases h
          | some q' =>
            rw [hr] at h
            simp at h
            obtain ⟨h1, h2, h3, h4⟩ := splitR_back r [] q' hr rfl fun z hz => hb z (by simp [hz])
            subst h
            have hyb := hb y (by simp)
            refine ⟨by simp [h1], ?_, ?_, ?_⟩
            · intro p hp
              rcases List.mem_cons.1 hp with rfl | hp
              · exact hc
              · exact h2 p hp
            · intro m hm
              rcases List.mem_cons.1 hm with rfl | hm
              · omega
              · exact h3 m hm
            · obtain ⟨ps, ms⟩ := q'
              cases ps with
              | nil => simp at h1
              | cons p ps =>
                simp only [joinP] at h4 ⊢
                rw [h4]; simp
    · rw [splitR_other hx] at h
      obtain ⟨h1, h2, h3, h4⟩ := splitR_back (y :: r) _ q h (plainR_snoc cur x hc hx) fun z hz => hb z (by simp [hz])
      exact ⟨h1, h2, h3, by rw [h4]; simp⟩
end Go.Proofs.Ytnddlehhgholhaa
