/- From the form's reading of a block that came in to its numbers. -/
import Derived.Test.YtemckjkdlbipcaaOpen
import Derived.Test.YtemckjkdlbipcaaBlkVal
namespace Go.Proofs.Ytemckjkdlbipcaa
open Go.RowKit Go.ChangeShapes Go.WideShapes Go.ChangeAt Go.Deep
set_option linter.unusedVariables false
set_option linter.unusedSimpArgs false
set_option maxRecDepth 100000
section
variable {H : Type} {enc : TypeId × Value → H}
theorem one_at {α : Type} {l : List α} {i : Nat} {x : α} (h : l[i]? = some x) : (l.drop i).take 1 = [x] := by
  obtain ⟨hi, e⟩ := List.getElem?_eq_some_iff.1 h
  rw [List.drop_eq_getElem_cons hi, e]; rfl
theorem okWide_array {P : Program} {w : World} {r : Reach} {base : Nat} {t e : TypeId} {n : Nat} {v : Value} (ht : P.underlying t = some (.array n e)) (h : Value.okWide P w r base t v) : ∃ cs, v = .agg cs ∧ cs.size = P.cellsOf t := by
  simp only [Value.okWide, ht] at h
  obtain ⟨cs, h1, h2, _⟩ := h
  exact ⟨cs, h1, h2⟩
/-- Cells that read as an array of integers. -/
theorem openCells {W : World} {t e : TypeId} {k : IntKind} {n fuel : Nat} {l : List Value} {x : DataW H × List MemPlace} {sp : Nat → Bool} {hd : Bool}
    (ht : Try.prog.underlying t = some (.array n e)) (he : Try.prog.underlying e = some (.int k)) (hc : Try.prog.cellsOf e = 1) (hct : Try.prog.cellsOf t = n)
    (h : DataW.trod enc Try.prog W 0 sp hd fuel t l = some x) : ∃ cs : List Int, l = ints k cs ∧ cs.length = n ∧ ∀ c ∈ cs, (Lit.int k c).wf = true := by
  obtain ⟨xs, m, _, _, hl, hx, hi⟩ := DataW.trod_array ht h
  rw [hct] at hl
  rw [hc] at hi
  have each : ∀ i, i < n → ∃ c : Int, l[i]? = some (.int k c) ∧ (Lit.int k c).wf = true := by
    intro i hin
    obtain ⟨v, hv⟩ := some_at (xs := l) (j := i) (by omega)
    have h2 := hi i hin
    rw [Nat.mul_one, one_at hv] at h2
    obtain ⟨y, hy⟩ := some_at (xs := xs) (j := i) (by omega)
    rw [hy] at h2
    obtain ⟨c, e0, _, w0⟩ := DataW.trod_int he h2
    simp at e0
    exact ⟨c, by rw [hv, e0], w0⟩
  obtain ⟨q, hq⟩ := choose_lt each
  refine ⟨(List.range n).map q, ?_, by simp, ?_⟩
  · apply List.ext_getElem?
    intro i
    by_cases hin : i < n
    · rw [(hq i hin).1]; simp [ints, hin]
    · rw [List.getElem?_eq_none (by omega), List.getElem?_eq_none (by simp [ints]; omega)]
  · intro c hc
    obtain ⟨i, hi', rfl⟩ := List.mem_map.1 hc
    exact (hq i (by simpa using hi')).2
/-- A block that came in. -/
theorem openBlock {W : World} {base : Nat} {v : Value} {d : DataW H} {p : List MemPlace} {sp : Nat → Bool} {hd : Bool} (hv : Value.okWide Try.prog W .any base 23 v) (h : DataW.Trod enc Try.prog W 0 sp hd 23 v d p) :
    ∃ cs : List Int, v = blkV cs ∧ cs.length = 64 ∧ ∀ x ∈ cs, -9223372036854775808 ≤ x ∧ x ≤ 9223372036854775807 := by
  obtain ⟨cells, rfl, hsz⟩ := okWide_array Try.underlying23 hv
  obtain ⟨fuel, hf⟩ := h
  obtain ⟨L⟩ := cells
  simp only [Value.cells] at hf
  obtain ⟨cs, e0, hcs, hwf⟩ := openCells Try.underlying23 Try.underlying3 (by kernel_rfl) (by kernel_rfl) hf
  exact ⟨cs, by rw [e0], hcs, fun x hx => bounds_i64 (hwf x hx)⟩
end
end Go.Proofs.Ytemckjkdlbipcaa
