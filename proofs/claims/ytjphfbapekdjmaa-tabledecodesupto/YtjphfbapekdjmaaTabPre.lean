/- Words of which none begins another one: which of them begins a row of bits. -/
import Derived.Test.YtjphfbapekdjmaaTabEnc
import Derived.Test.YtjphfbapekdjmaaBitsNumber
namespace Go.Proofs.Ytjphfbapekdjmaa
open Go.RowKit
set_option linter.unusedVariables false
set_option linter.unusedSimpArgs false
set_option maxRecDepth 100000

structure PF (ws : List (Int × Nat × Nat)) : Prop where
  small : ∀ t ∈ ws, (1 ≤ t.2.1 ∧ t.2.1 ≤ 16) ∧ t.2.2 < 2 ^ t.2.1
  uniq : ∀ t ∈ ws, ∀ u ∈ ws, ∀ b, bitsN t.2.1 t.2.2 <+: b → bitsN u.2.1 u.2.2 <+: b → t = u
theorem Fine.pf {cs syms : List Int} {l : List (Nat × Nat)} (h : Fine cs syms l) (hcs : cs.length = 16) : PF (mkWords syms l) where
  small t ht := by have := h.word hcs ht; exact ⟨this.2.1, by omega⟩
  uniq t ht u hu b h1 h2 := by
    obtain ⟨i, hi1, hi2⟩ := mem_mkWords ht
    obtain ⟨k, hk1, hk2⟩ := mem_mkWords hu
    obtain rfl := (h.kr hcs).bits hi2 hk2 h1 h2
    rw [hi1] at hk1
    rw [hi2] at hk2
    injection hk1 with e1
    injection hk2 with e2
    exact Prod.ext e1 e2
def begins (t : Int × Nat × Nat) (b : List Bool) : Bool := (bitsN t.2.1 t.2.2).isPrefixOf b
theorem begins_iff (t : Int × Nat × Nat) (b : List Bool) : begins t b = true ↔ bitsN t.2.1 t.2.2 <+: b := List.isPrefixOf_iff_prefix
/-- The word at the front of a row of bits: its symbol and its length. -/
def find1 (ws : List (Int × Nat × Nat)) (b : List Bool) : Option (Int × Nat) := (ws.find? (begins · b)).map fun t => (t.1, t.2.1)
theorem PF.find {ws : List (Int × Nat × Nat)} (h : PF ws) {t : Int × Nat × Nat} (ht : t ∈ ws) {b : List Bool} (hb : bitsN t.2.1 t.2.2 <+: b) : find1 ws b = some (t.1, t.2.1) := by
  unfold find1
  cases hq : ws.find? (begins · b) with
  | none => exact absurd ((begins_iff t b).2 hb) (by simpa using List.find?_eq_none.1 hq t ht)
  | some u =>
    have h1 := List.find?_some hq
    have h2 := List.mem_of_find?_eq_some hq
    rw [h.uniq u h2 t ht b ((begins_iff u b).1 h1) hb]
    rfl
theorem find1_mem {ws : List (Int × Nat × Nat)} {b : List Bool} {s : Int} {n : Nat} (h : find1 ws b = some (s, n)) : ∃ t ∈ ws, t.1 = s ∧ t.2.1 = n ∧ bitsN t.2.1 t.2.2 <+: b := by
  unfold find1 at h
  cases hq : ws.find? (begins · b) with
  | none => simp [hq] at h
  | some u =>
    simp [hq] at h
    have h1 := List.find?_some hq
    exact ⟨u, List.mem_of_find?_eq_some hq, h.1, h.2, (begins_iff u b).1 h1⟩
theorem codeF_mem {ws : List (Int × Nat × Nat)} {x : Int} {p : Int × Int} (h : codeF ws p = some x) : ∃ t ∈ ws, fi t = p ∧ t.1 = x := by
  induction ws using snoc_ind with
  | h0 => simp [codeF] at h
  | h1 ws t ih =>
    rw [codeF_snoc] at h
    unfold upd at h
    by_cases e : p = fi t
    · rw [if_pos e] at h; injection h with h; exact ⟨t, by simp, e.symm, h⟩
    · rw [if_neg e] at h
      obtain ⟨u, hu, h2⟩ := ih h
      exact ⟨u, by simp [hu], h2⟩
theorem codeF_some {ws : List (Int × Nat × Nat)} {t : Int × Nat × Nat} (h : t ∈ ws) : (codeF ws (fi t)).isSome = true := by
  induction ws using snoc_ind with
  | h0 => simp at h
  | h1 ws u ih =>
    rw [codeF_snoc]
    unfold upd
    by_cases e : fi t = fi u
    · rw [if_pos e]; rfl
    · rw [if_neg e]
      rcases List.mem_append.1 h with h | h
      · exact ih h
      · simp at h; subst h; exact absurd rfl e
/-- A hit. -/
theorem PF.hit {ws : List (Int × Nat × Nat)} (h : PF ws) {b : List Bool} {k : Nat} (hk : k ≤ b.length) {s : Int} (hc : codeF ws ((k : Int), (valB (b.take k) : Int)) = some s) : find1 ws b = some (s, k) := by
  obtain ⟨t, ht, e1, e2⟩ := codeF_mem hc
  simp only [fi, Prod.mk.injEq] at e1
  have h1 : t.2.1 = k := by omega
  have h2 : t.2.2 = valB (b.take k) := by omega
  have h3 : bitsN t.2.1 t.2.2 <+: b := by
    rw [h1, h2]
    have := bitsN_valB (b.take k)
    rw [List.length_take, Nat.min_eq_left hk] at this
    rw [this]
    exact List.take_prefix _ _
  rw [h.find ht h3, e2, h1]
/-- No hit at all. -/
theorem PF.miss {ws : List (Int × Nat × Nat)} (h : PF ws) {b : List Bool} {k : Nat} (hk : k = 16 ∨ b.length ≤ k) (hc : ∀ j : Nat, 1 ≤ j → j ≤ k → codeF ws ((j : Int), (valB (b.take j) : Int)) = none) : find1 ws b = none := by
  cases hq : find1 ws b with
  | none => rfl
  | some p =>
    obtain ⟨s, n⟩ := p
    obtain ⟨t, ht, e1, e2, h1⟩ := find1_mem hq
    obtain ⟨h2, h3⟩ := h.small t ht
    have h4 := h1.length_le
    rw [bitsN_length] at h4
    have h5 := List.prefix_iff_eq_take.1 h1
    rw [bitsN_length] at h5
    have h6 : valB (b.take t.2.1) = t.2.2 := by rw [← h5]; exact valB_bitsN _ _ h3
    have h7 := hc t.2.1 h2.1 (by omega)
    rw [h6] at h7
    have h8 := codeF_some ht
    rw [show fi t = ((t.2.1 : Int), (t.2.2 : Int)) from rfl, h7] at h8
    cases h8
/-- What next answers. -/
def nextS (ws : List (Int × Nat × Nat)) (b : List Bool) : Int := ((find1 ws b).map (·.1)).getD 0
def nextL (ws : List (Int × Nat × Nat)) (b : List Bool) : Nat := ((find1 ws b).map (·.2)).getD 0
def nextE (ws : List (Int × Nat × Nat)) (b : List Bool) : Int := if (find1 ws b).isSome = true then 0 else if b.length < 16 then 3 else 4
end Go.Proofs.Ytjphfbapekdjmaa
