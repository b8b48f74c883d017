/- A symbol that has a word: where it stands. -/
import Derived.Test.YtjphfbapekdjmaaTabCheck
namespace Go.Proofs.Ytjphfbapekdjmaa
open Go.RowKit
set_option linter.unusedVariables false
set_option linter.unusedSimpArgs false
set_option maxRecDepth 100000

theorem symF_mem {ws : List (Int × Nat × Nat)} {x : Int} {p : Int × Int} (h : symF ws x = some p) : ∃ t ∈ ws, t.1 = x ∧ fi t = p := by
  induction ws using snoc_ind with
  | h0 => simp [symF, symGo] at h
  | h1 ws t ih =>
    rw [symF_snoc] at h
    unfold upd at h
    by_cases e : x = t.1
    · rw [if_pos e] at h; injection h with h; exact ⟨t, by simp, e.symm, h⟩
    · rw [if_neg e] at h
      obtain ⟨u, hu, h2⟩ := ih h
      exact ⟨u, by simp [hu], h2⟩
theorem mem_mkWords {syms : List Int} {l : List (Nat × Nat)} {t : Int × Nat × Nat} (h : t ∈ mkWords syms l) : ∃ i : Nat, syms[i]? = some t.1 ∧ l[i]? = some t.2 := by
  obtain ⟨i, hi⟩ := List.getElem?_of_mem h
  refine ⟨i, ?_⟩
  unfold mkWords at hi
  rw [List.getElem?_zipWith] at hi
  cases h1 : syms[i]? with
  | none => simp [h1] at hi
  | some s =>
    cases h2 : l[i]? with
    | none => simp [h1, h2] at hi
    | some p => simp [h1, h2] at hi; subst hi; exact ⟨rfl, rfl⟩
end Go.Proofs.Ytjphfbapekdjmaa
