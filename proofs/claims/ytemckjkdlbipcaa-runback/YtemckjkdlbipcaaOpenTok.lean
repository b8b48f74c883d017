/- From the form's reading of a slice of tokens that came in to its tokens. -/
import Derived.Test.YtemckjkdlbipcaaOpenRows
import Derived.Test.YtemckjkdlbipcaaOpen
import Derived.Test.YtemckjkdlbipcaaTokMem
namespace Go.Proofs.Ytemckjkdlbipcaa
open Go.RowKit Go.ChangeShapes Go.WideShapes Go.ChangeAt Go.Deep
set_option linter.unusedVariables false
set_option linter.unusedSimpArgs false
set_option maxRecDepth 100000

def tripL (r : List Int) : Int × Int × Int := (r.getD 0 0, r.getD 1 0, r.getD 2 0)
theorem tripL_cells {L : List (List Int)} (h : ∀ r ∈ L, r.length = 3) : tokCells (L.map tripL) = rowsC L := by
  induction L with
  | nil => rfl
  | cons r L ih =>
    have h2 := h r List.mem_cons_self
    rw [List.map_cons, tokCells, List.flatMap_cons, rowsC, List.flatMap_cons]
    congr 1
    · match r, h2 with
      | [a, b, c], _ => rfl
    · exact ih fun x hx => h x (List.mem_cons_of_mem _ hx)
section
variable {H : Type} {enc : TypeId × Value → H}
theorem tok_cells {W : World} {sp : Nat → Bool} {hd : Bool} (fuel : Nat) (cs : List Value) (x : DataW H × List MemPlace) (h : DataW.trod enc Try.prog W 0 sp hd fuel 30 cs = some x) : ∃ is : List Int, cs = ints .i64 is ∧ is.length = 3 ∧ ∀ c ∈ is, (Lit.int .i64 c).wf = true := by
  obtain ⟨xs, k, _, _, hcs, hxl, hf⟩ := DataW.trod_struct Try.underlying30 h
  have hc3 : Try.prog.cellsOf 30 = 3 := by kernel_rfl
  have hci : Try.prog.cellsOf 3 = 1 := by kernel_rfl
  rw [hc3] at hcs
  match xs, hxl, cs, hcs with
  | [y0, y1, y2], _, [v0, v1, v2], _ =>
    have g0 := hf 0 _ rfl
    have g1 := hf 1 _ rfl
    have g2 := hf 2 _ rfl
    simp [hci] at g0 g1 g2
    obtain ⟨a0, e0, _, w0⟩ := DataW.trod_int Try.underlying3 g0
    obtain ⟨a1, e1, _, w1⟩ := DataW.trod_int Try.underlying3 g1
    obtain ⟨a2, e2, _, w2⟩ := DataW.trod_int Try.underlying3 g2
    simp at e0 e1 e2
    subst e0 e1 e2
    exact ⟨[a0, a1, a2], rfl, rfl, by simp [w0, w1, w2]⟩
/-- A slice of tokens that came in, and its symbols' bound. -/
theorem openToksB {W : World} {a : Option Addr} {len cap : Nat} {d : DataW H} {p : List MemPlace} {sp : Nat → Bool} {hd : Bool} (h : DataW.Trod enc Try.prog W 0 sp hd 24 (.slice a len cap) d p) :
    ∃ l : List (Int × Int × Int), len = l.length ∧ Seen W W.heap.size a (tokCells l) ∧ l.length ≤ maxLen ∧ cap ≤ maxLen ∧ l.length ≤ cap ∧ ∀ t ∈ l, t.1 ≤ 9223372036854775807 := by
  obtain ⟨L, h1, h2, h3, h4, h5, h6⟩ := openRows (n := 3) Try.underlying24 (by kernel_rfl) (by omega) tok_cells h
  refine ⟨L.map tripL, by rw [List.length_map]; exact h1, ?_, by rw [List.length_map]; exact h4, h5, by rw [List.length_map]; exact h6, fun t ht => ?_⟩
  · rw [tripL_cells fun r hr => (h3 r hr).1]
    exact h2
  · obtain ⟨r, hr, rfl⟩ := List.mem_map.1 ht
    obtain ⟨g1, g2⟩ := h3 r hr
    match r, g1, g2 with
    | [x, y, z], _, g2 => exact (bounds_i64 (g2 x (by simp))).2
/-- A slice of tokens that came in. -/
theorem openToks {W : World} {a : Option Addr} {len cap : Nat} {d : DataW H} {p : List MemPlace} {sp : Nat → Bool} {hd : Bool} (h : DataW.Trod enc Try.prog W 0 sp hd 24 (.slice a len cap) d p) :
    ∃ l : List (Int × Int × Int), len = l.length ∧ Seen W W.heap.size a (tokCells l) ∧ l.length ≤ maxLen ∧ cap ≤ maxLen ∧ l.length ≤ cap := by
  obtain ⟨l, h1, h2, h3, h4, h5, _⟩ := openToksB h
  exact ⟨l, h1, h2, h3, h4, h5⟩
end
end Go.Proofs.Ytemckjkdlbipcaa
