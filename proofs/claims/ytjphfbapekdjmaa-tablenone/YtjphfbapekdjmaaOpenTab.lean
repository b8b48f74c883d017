/- From the form's reading of a table that came in to its counts and its symbols. -/
import Derived.Test.YtjphfbapekdjmaaOpen
import Derived.Test.YtjphfbapekdjmaaTabBase
import Derived.Lib.SmallJoins
namespace Go.Proofs.Ytjphfbapekdjmaa
open Go.RowKit Go.ChangeShapes Go.WideShapes Go.ChangeAt Go.Deep
set_option linter.unusedVariables false
set_option linter.unusedSimpArgs false
set_option maxRecDepth 100000
section
variable {H : Type} {enc : TypeId × Value → H}
theorem take_drop_one {α : Type} {l : List α} {i : Nat} {x : α} (h : l[i]? = some x) : (l.drop i).take 1 = [x] := by
  obtain ⟨hi, e⟩ := List.getElem?_eq_some_iff.1 h
  rw [List.drop_eq_getElem_cons hi, e]; rfl
/-- Cells that read as an array of integers. -/
theorem openArr {W : World} {t e : TypeId} {k : IntKind} {n fuel : Nat} {l : List Value} {x : DataW H × List MemPlace} {sp : Nat → Bool} {hd : Bool}
    (ht : Try.prog.underlying t = some (.array n e)) (he : Try.prog.underlying e = some (.int k)) (hc : Try.prog.cellsOf e = 1) (hct : Try.prog.cellsOf t = n)
    (h : DataW.trod enc Try.prog W 0 sp hd fuel t l = some x) : ∃ cs : List Int, l = ints k cs ∧ cs.length = n ∧ ∀ c ∈ cs, (Lit.int k c).wf = true := by
  obtain ⟨xs, m, _, _, hl, hx, hi⟩ := DataW.trod_array ht h
  rw [hct] at hl
  rw [hc] at hi
  have each : ∀ i, i < n → ∃ c : Int, l[i]? = some (.int k c) ∧ (Lit.int k c).wf = true := by
    intro i hin
    obtain ⟨v, hv⟩ := some_at (xs := l) (j := i) (by omega)
    have h2 := hi i hin
    rw [Nat.mul_one, take_drop_one hv] at h2
    obtain ⟨y, hy⟩ := some_at (xs := xs) (j := i) (by omega)
    rw [hy] at h2
    obtain ⟨c, e0, _, w0⟩ := DataW.trod_int he h2
    simp at e0
    exact ⟨c, by rw [hv, e0], w0⟩
  obtain ⟨q, hq⟩ := choose_lt each
  refine ⟨(List.range n).map q, ?_, by simp, ?_⟩
  · apply List.ext_getElem?
    intro i
    by_cases hin : i < n
    · rw [(hq i hin).1]; simp [ints, hin]
    · rw [List.getElem?_eq_none (by omega), List.getElem?_eq_none (by simp [ints]; omega)]
  · intro c hc
    obtain ⟨i, hi', rfl⟩ := List.mem_map.1 hc
    exact (hq i (by simpa using hi')).2
/-- A table that came in. -/
theorem openTable {W : World} {base : Nat} {v : Value} {d : DataW H} {p : List MemPlace} {sp : Nat → Bool} {hd : Bool} (hv : Value.okWide Try.prog W .any base 25 v) (h : DataW.Trod enc Try.prog W 0 sp hd 25 v d p) :
    ∃ (cs : List Int) (A : Option Addr) (c : Nat) (syms : List Int), v = tabV cs A syms.length c ∧ cs.length = 16 ∧ (∀ x ∈ cs, -9223372036854775808 ≤ x ∧ x ≤ 9223372036854775807) ∧ Seen W W.heap.size A (ints .i64 syms) ∧ (∀ x ∈ syms, (Lit.int .i64 x).wf = true) ∧ syms.length ≤ maxLen ∧ syms.length ≤ Rows.uptoBulk d ∧ syms.length ≤ c := by
  obtain ⟨cells, rfl, hsz⟩ := okWide_struct Try.underlying25 hv
  have h17 : Try.prog.cellsOf 25 = 17 := by kernel_rfl
  rw [h17] at hsz
  obtain ⟨fuel, hf⟩ := h
  obtain ⟨y0, y1, n, hx, _, h0, h1⟩ := trod_struct2 Try.underlying25 hf
  have c0 : Try.prog.cellsOf 22 = 16 := by kernel_rfl
  have c1 : Try.prog.cellsOf 23 = 1 := by kernel_rfl
  simp only [Value.cells] at h0 h1
  rw [c0] at h0
  rw [c1] at h1
  obtain ⟨L⟩ := cells
  simp only [List.size_toArray] at hsz
  simp only [List.drop_zero] at h0
  obtain ⟨cs, e0, hcs, hwf⟩ := openArr Try.underlying22 Try.underlying3 (by kernel_rfl) c0 h0
  obtain ⟨A, len, cap, e1⟩ := Go.Joins.slice_form Try.underlying23 h1
  rw [e1] at h1
  obtain ⟨syms, rfl, hs, hw, hl, _, hlc, hb⟩ := openInts (W := W) (a := A) (len := len) (cap := cap) (d := y1.1) (p := y1.2) Try.underlying23 Try.underlying3 (by kernel_rfl) ⟨n, h1⟩
  have e2 : L = tabCells cs A syms.length cap := by
    rw [tabCells, ← e0, ← e1, List.take_of_length_le (l := L.drop 16) (by simp; omega), List.take_append_drop]
  simp only [Prod.mk.injEq] at hx
  refine ⟨cs, A, cap, syms, by rw [e2], hcs, fun x hx => bounds_i64 (hwf x hx), hs, hw, hl, ?_, hlc⟩
  rw [hx.1]
  simp only [Rows.uptoBulk, Rows.uptoBulkAll]
  omega
end
end Go.Proofs.Ytjphfbapekdjmaa
