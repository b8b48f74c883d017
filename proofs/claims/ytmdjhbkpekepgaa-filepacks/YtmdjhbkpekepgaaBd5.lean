/- Texts shared by the claims of this seat, in one. -/
import Derived.Test.YtmdjhbkpekepgaaBd1
import Derived.Test.YtmdjhbkpekepgaaRows
import Derived.ProofKit
import Derived.OpenShut
import Derived.ShutString
import Derived.ChangeOld
import Derived.JoinedCond
import Derived.Deep.Slices
import Derived.Deep.SlicePairs
import Derived.Deep.Fields
import Derived.ChangeSame
import Derived.SizedLaws
import Derived.Lib.SmallJoins
import Derived.Test.YtmdjhbkpekepgaaBd4
import Derived.Test.YtmdjhbkpekepgaaBd2
import Derived.Test.YtmdjhbkpekepgaaBd3
/- From the form's readings of the arguments to the words of Mem: slices of integers, slices of structs of integers. -/
namespace Go.Proofs.Ytmdjhbkpekepgaa
open Go.RowKit Go.ChangeShapes Go.WideShapes Go.ChangeAt Go.Deep
set_option linter.unusedVariables false
set_option linter.unusedSimpArgs false
set_option maxRecDepth 100000

theorem own : ownKnob Try.prog.godebug = none := by kernel_rfl
theorem laidOut : laidOutB Try.prog = true := by kernel_rfl

section
variable {H : Type} {enc : TypeId × Value → H}

theorem bulk_pos (d : DataW H) : 1 ≤ Rows.uptoBulk d := by
  cases d with
  | lit l => cases l <;> simp [Rows.uptoBulk]
  | nil => simp [Rows.uptoBulk]
  | ptr d => simp [Rows.uptoBulk]
  | slice elems spare => simp [Rows.uptoBulk]
  | agg parts => simp [Rows.uptoBulk]
  | iface t d => simp [Rows.uptoBulk]
  | map entries => simp [Rows.uptoBulk]
  | held h => simp [Rows.uptoBulk]
theorem bulk_length (l : List (DataW H)) : l.length ≤ Rows.uptoBulkAll l := by
  induction l with
  | nil => simp [Rows.uptoBulkAll]
  | cons x r ih => have := bulk_pos x; simp only [Rows.uptoBulkAll, List.length_cons]; omega

/-- A slice of integers that came in. -/
theorem openInts {W : World} {t e : TypeId} {k : IntKind} {a : Option Addr} {len cap : Nat} {d : DataW H} {p : List MemPlace} {sp : Nat → Bool} {hd : Bool}
    (ht : Try.prog.underlying t = some (.slice e)) (he : Try.prog.underlying e = some (.int k)) (hc : Try.prog.cellsOf e = 1)
    (h : DataW.Trod enc Try.prog W 0 sp hd t (.slice a len cap) d p) :
    ∃ xs : List Int, len = xs.length ∧ Seen W W.heap.size a (ints k xs) ∧ (∀ x ∈ xs, (Lit.int k x).wf = true) ∧ xs.length ≤ maxLen ∧ cap ≤ maxLen ∧ xs.length ≤ cap ∧ xs.length ≤ Rows.uptoBulk d := by
  obtain ⟨fuel, hf⟩ := h
  rcases open_ints ht he hc hf with ⟨hcs, _⟩ | ⟨x, l, c, zs, hcs, _, hl, hm, hz, hx, hcell, hwz⟩
  · simp [Value.cells] at hcs
    obtain ⟨rfl, rfl, rfl⟩ := hcs
    exact ⟨[], rfl, .inl rfl, by simp, Nat.zero_le _, Nat.zero_le _, Nat.zero_le _, Nat.zero_le _⟩
  · simp [Value.cells] at hcs
    obtain ⟨rfl, rfl, rfl⟩ := hcs
    have hlz : len ≤ zs.length := by rw [hz]; split <;> omega
    simp only [Prod.mk.injEq] at hx
    refine ⟨zs.take len, by simp [Nat.min_eq_left hlz], ?_, fun x hx => hwz x (List.mem_of_mem_take hx), by simp; omega, hm, by simp; omega, ?_⟩
    · by_cases h0 : len = 0
      · subst h0; exact .inl rfl
      · have h1 := hcell 0 (by omega)
        have hsp := World.cell?_spot h1
        have hb := World.block_lt_of_cell? W _ h1
        obtain ⟨b, o, s⟩ := x
        simp [Addr.add] at hsp hb
        subst hsp
        refine .inr ⟨b, o, rfl, hb, fun j u hu => ?_⟩
        have hj : j < zs.length := by
          have := (List.getElem?_eq_some_iff.1 hu).1
          simp [ints] at this; omega
        have h2 := hcell j hj
        have h3 : (ints k (zs.take len))[j]? = some (.int k (zs.getD j 0)) := by
          have hjl : j < len := by
            have := (List.getElem?_eq_some_iff.1 hu).1
            simp [ints] at this; omega
          simp [ints, List.getElem?_take, hjl, hj]
        rw [h3] at hu
        injection hu with hu
        subst hu
        rw [← h2]
        unfold Addr.add
        split
        · rename_i e; subst e; rfl
        · rfl
    · rw [hx.1]
      simp only [Rows.uptoBulk]
      have h1 := bulk_length (lits (H := H) k (zs.take len))
      have h2 : (lits (H := H) k (zs.take len)).length = (zs.take len).length := by simp [lits]
      omega

end
end Go.Proofs.Ytmdjhbkpekepgaa

/- From the form's reading of a table that came in to its counts and its symbols. -/
namespace Go.Proofs.Ytmdjhbkpekepgaa
open Go.RowKit Go.ChangeShapes Go.WideShapes Go.ChangeAt Go.Deep
set_option linter.unusedVariables false
set_option linter.unusedSimpArgs false
set_option maxRecDepth 100000
section
variable {H : Type} {enc : TypeId × Value → H}
theorem take_drop_one {α : Type} {l : List α} {i : Nat} {x : α} (h : l[i]? = some x) : (l.drop i).take 1 = [x] := by
  obtain ⟨hi, e⟩ := List.getElem?_eq_some_iff.1 h
  rw [List.drop_eq_getElem_cons hi, e]; rfl
/-- Cells that read as an array of integers. -/
theorem openArr {W : World} {t e : TypeId} {k : IntKind} {n fuel : Nat} {l : List Value} {x : DataW H × List MemPlace} {sp : Nat → Bool} {hd : Bool}
    (ht : Try.prog.underlying t = some (.array n e)) (he : Try.prog.underlying e = some (.int k)) (hc : Try.prog.cellsOf e = 1) (hct : Try.prog.cellsOf t = n)
    (h : DataW.trod enc Try.prog W 0 sp hd fuel t l = some x) : ∃ cs : List Int, l = ints k cs ∧ cs.length = n ∧ ∀ c ∈ cs, (Lit.int k c).wf = true := by
  obtain ⟨xs, m, _, _, hl, hx, hi⟩ := DataW.trod_array ht h
  rw [hct] at hl
  rw [hc] at hi
  have each : ∀ i, i < n → ∃ c : Int, l[i]? = some (.int k c) ∧ (Lit.int k c).wf = true := by
    intro i hin
    obtain ⟨v, hv⟩ := some_at (xs := l) (j := i) (by omega)
    have h2 := hi i hin
    rw [Nat.mul_one, take_drop_one hv] at h2
    obtain ⟨y, hy⟩ := some_at (xs := xs) (j := i) (by omega)
    rw [hy] at h2
    obtain ⟨c, e0, _, w0⟩ := DataW.trod_int he h2
    simp at e0
    exact ⟨c, by rw [hv, e0], w0⟩
  obtain ⟨q, hq⟩ := choose_lt each
  refine ⟨(List.range n).map q, ?_, by simp, ?_⟩
  · apply List.ext_getElem?
    intro i
    by_cases hin : i < n
    · rw [(hq i hin).1]; simp [ints, hin]
    · rw [List.getElem?_eq_none (by omega), List.getElem?_eq_none (by simp [ints]; omega)]
  · intro c hc
    obtain ⟨i, hi', rfl⟩ := List.mem_map.1 hc
    exact (hq i (by simpa using hi')).2
end
end Go.Proofs.Ytmdjhbkpekepgaa

/- From the form's reading of two tables, and of a slice of blocks, to the words of Mem. -/
namespace Go.Proofs.Ytmdjhbkpekepgaa
open Go.RowKit Go.ChangeShapes Go.WideShapes Go.ChangeAt Go.Deep
set_option linter.unusedVariables false
set_option linter.unusedSimpArgs false
set_option maxRecDepth 100000
section
variable {H : Type} {enc : TypeId × Value → H}
theorem block_cells {W : World} {sp : Nat → Bool} {hd : Bool} (fuel : Nat) (cs : List Value) (x : DataW H × List MemPlace) (h : DataW.trod enc Try.prog W 0 sp hd fuel 23 cs = some x) : ∃ is : List Int, cs = ints .i64 is ∧ is.length = 64 ∧ ∀ c ∈ is, (Lit.int .i64 c).wf = true :=
  openArr Try.underlying23 Try.underlying3 (by kernel_rfl) (by kernel_rfl) h
theorem tab_cells {W : World} {fuel : Nat} {L : List Value} {x : DataW H × List MemPlace} {sp : Nat → Bool} {hd : Bool} (hsz : L.length = 17) (hf : DataW.trod enc Try.prog W 0 sp hd fuel 27 L = some x) :
    ∃ (cs : List Int) (A : Option Addr) (c : Nat) (syms : List Int), L = tabCells cs A syms.length c ∧ cs.length = 16 ∧ (∀ x ∈ cs, -9223372036854775808 ≤ x ∧ x ≤ 9223372036854775807) ∧ Seen W W.heap.size A (ints .i64 syms) ∧ syms.length ≤ maxLen ∧ syms.length ≤ c := by
  obtain ⟨y0, y1, n, hx, _, h0, h1⟩ := trod_struct2 Try.underlying27 hf
  have c0 : Try.prog.cellsOf 24 = 16 := by kernel_rfl
  have c1 : Try.prog.cellsOf 25 = 1 := by kernel_rfl
  rw [c0] at h0
  rw [c1] at h1
  simp only [List.drop_zero] at h0
  obtain ⟨cs, e0, hcs, hwf⟩ := openArr Try.underlying24 Try.underlying3 (by kernel_rfl) c0 h0
  obtain ⟨A, len, cap, e1⟩ := Go.Joins.slice_form Try.underlying25 h1
  rw [e1] at h1
  obtain ⟨syms, rfl, hs, hw, hl, _, hlc, hb⟩ := openInts (W := W) (a := A) (len := len) (cap := cap) (d := y1.1) (p := y1.2) Try.underlying25 Try.underlying3 (by kernel_rfl) ⟨n, h1⟩
  have e2 : L = tabCells cs A syms.length cap := by
    rw [tabCells, ← e0, ← e1, List.take_of_length_le (l := L.drop 16) (by simp; omega), List.take_append_drop]
  exact ⟨cs, A, cap, syms, e2, hcs, fun x hx => bounds_i64 (hwf x hx), hs, hl, hlc⟩
end
end Go.Proofs.Ytmdjhbkpekepgaa

/- From the form's reading of a file that came in to the words of FileMem. -/
namespace Go.Proofs.Ytmdjhbkpekepgaa
open Go.RowKit Go.ChangeShapes Go.WideShapes Go.ChangeAt Go.Deep
set_option linter.unusedVariables false
set_option linter.unusedSimpArgs false
set_option maxRecDepth 100000
section
variable {H : Type} {enc : TypeId × Value → H}
theorem tabs_cells {W : World} {fuel : Nat} {L : List Value} {x : DataW H × List MemPlace} {sp : Nat → Bool} {hd : Bool} (hsz : L.length = 34) (hf : DataW.trod enc Try.prog W 0 sp hd fuel 29 L = some x) :
    ∃ (cs : List Int) (A : Option Addr) (c : Nat) (syms : List Int) (cs2 : List Int) (A2 : Option Addr) (c2 : Nat) (syms2 : List Int), L = tabsCells cs A syms.length c cs2 A2 syms2.length c2 ∧ cs.length = 16 ∧ (∀ x ∈ cs, -9223372036854775808 ≤ x ∧ x ≤ 9223372036854775807) ∧ Seen W W.heap.size A (ints .i64 syms) ∧ syms.length ≤ maxLen ∧ syms.length ≤ c ∧
      cs2.length = 16 ∧ (∀ x ∈ cs2, -9223372036854775808 ≤ x ∧ x ≤ 9223372036854775807) ∧ Seen W W.heap.size A2 (ints .i64 syms2) ∧ syms2.length ≤ maxLen ∧ syms2.length ≤ c2 := by
  obtain ⟨y0, y1, n, hx, _, h0, h1⟩ := trod_struct2 Try.underlying29 hf
  have c0 : Try.prog.cellsOf 27 = 17 := by kernel_rfl
  rw [c0] at h0 h1
  simp only [List.drop_zero] at h0
  obtain ⟨cs, A, c, syms, e0, g1, g2, g3, g4, g5⟩ := tab_cells (by simp; omega) h0
  obtain ⟨cs2, A2, c2, syms2, e1, k1, k2, k3, k4, k5⟩ := tab_cells (by simp; omega) h1
  have e2 : L = tabsCells cs A syms.length c cs2 A2 syms2.length c2 := by
    rw [tabsCells, ← e0, ← e1, List.take_of_length_le (l := L.drop 17) (by simp; omega), List.take_append_drop]
  exact ⟨cs, A, c, syms, cs2, A2, c2, syms2, e2, g1, g2, g3, g4, g5, k1, k2, k3, k4, k5⟩
theorem cut_on (L : List Value) (a n : Nat) : L.drop a = (L.drop a).take n ++ L.drop (a + n) := by rw [← List.drop_drop, List.take_append_drop]
/-- A file that came in. -/
theorem openFile {W : World} {base : Nat} {v : Value} {d : DataW H} {p : List MemPlace} {sp : Nat → Bool} {hd : Bool} (hv : Value.okWide Try.prog W .any base 32 v) (h : DataW.Trod enc Try.prog W 0 sp hd 32 v d p) :
    ∃ (f : FileL) (A : Option Addr) (c : Nat) (A2 : Option Addr) (c2 : Nat) (A3 : Option Addr) (c3 : Nat), v = fileV f A c A2 c2 A3 c3 ∧ FileIn f A c A2 c2 A3 c3 W.heap.size W := by
  obtain ⟨cells, rfl, hsz⟩ := okWide_struct Try.underlying32 hv
  have h103 : Try.prog.cellsOf 32 = 103 := by kernel_rfl
  rw [h103] at hsz
  obtain ⟨fuel, hf⟩ := h
  obtain ⟨xs, n, _, hx, hl, hxl, hi⟩ := DataW.trod_struct Try.underlying32 hf
  obtain ⟨L⟩ := cells
  simp only [List.size_toArray] at hsz
  simp only [Value.cells] at hi
  have h0 : DataW.trod enc Try.prog W 0 sp hd n 3 ((L.drop 0).take (Try.prog.cellsOf 3)) = xs[0]? := hi 0 _ rfl
  have h1 : DataW.trod enc Try.prog W 0 sp hd n 3 ((L.drop 1).take (Try.prog.cellsOf 3)) = xs[1]? := hi 1 _ rfl
  have h2 : DataW.trod enc Try.prog W 0 sp hd n 3 ((L.drop 2).take (Try.prog.cellsOf 3)) = xs[2]? := hi 2 _ rfl
  have h3 : DataW.trod enc Try.prog W 0 sp hd n 23 ((L.drop 3).take (Try.prog.cellsOf 23)) = xs[3]? := hi 3 _ rfl
  have h4 : DataW.trod enc Try.prog W 0 sp hd n 29 ((L.drop 67).take (Try.prog.cellsOf 29)) = xs[4]? := hi 4 _ rfl
  have h5 : DataW.trod enc Try.prog W 0 sp hd n 3 ((L.drop 101).take (Try.prog.cellsOf 3)) = xs[5]? := hi 5 _ rfl
  have h6 : DataW.trod enc Try.prog W 0 sp hd n 30 ((L.drop 102).take (Try.prog.cellsOf 30)) = xs[6]? := hi 6 _ rfl
  have hx7 : xs.length = 7 := hxl
  obtain ⟨y0, e0⟩ := some_at (xs := xs) (j := 0) (by omega)
  obtain ⟨y1, e1⟩ := some_at (xs := xs) (j := 1) (by omega)
  obtain ⟨y2, e2⟩ := some_at (xs := xs) (j := 2) (by omega)
  obtain ⟨y3, e3⟩ := some_at (xs := xs) (j := 3) (by omega)
  obtain ⟨y4, e4⟩ := some_at (xs := xs) (j := 4) (by omega)
  obtain ⟨y5, e5⟩ := some_at (xs := xs) (j := 5) (by omega)
  obtain ⟨y6, e6⟩ := some_at (xs := xs) (j := 6) (by omega)
  have c1 : Try.prog.cellsOf 3 = 1 := by kernel_rfl
  have c64 : Try.prog.cellsOf 23 = 64 := by kernel_rfl
  have c34 : Try.prog.cellsOf 29 = 34 := by kernel_rfl
  have cb : Try.prog.cellsOf 30 = 1 := by kernel_rfl
  rw [e0] at h0; rw [e1] at h1; rw [e2] at h2; rw [e3] at h3; rw [e4] at h4; rw [e5] at h5; rw [e6] at h6
  rw [c1] at h0 h1 h2 h5
  rw [c64] at h3
  rw [c34] at h4
  rw [cb] at h6
  obtain ⟨wide, q0, _, _⟩ := DataW.trod_int Try.underlying3 h0
  obtain ⟨high, q1, _, _⟩ := DataW.trod_int Try.underlying3 h1
  obtain ⟨parts, q2, _, _⟩ := DataW.trod_int Try.underlying3 h2
  obtain ⟨q, q3, hq64, hqw⟩ := block_cells n _ y3 h3
  obtain ⟨cs, A, c, syms, cs2, A2, c2, syms2, q4, g1, g2, g3, g4, g5, k1, k2, k3, k4, k5⟩ := tabs_cells (by simp; omega) h4
  obtain ⟨every, q5, _, _⟩ := DataW.trod_int Try.underlying3 h5
  obtain ⟨A3, len, cap, q6⟩ := Go.Joins.slice_form Try.underlying30 h6
  rw [q6] at h6
  obtain ⟨data, rfl, hs, hw, hdl, _, hlc, hb⟩ := openInts (W := W) (a := A3) (len := len) (cap := cap) (d := y6.1) (p := y6.2) Try.underlying30 Try.underlying5 (by kernel_rfl) ⟨n, h6⟩
  have e : L = fileCells { wide := wide, high := high, parts := parts, q := q, cs := cs, syms := syms, cs2 := cs2, syms2 := syms2, every := every, data := data } A c A2 c2 A3 cap := by
    have t0 := cut_on L 0 1
    have t1 := cut_on L 1 1
    have t2 := cut_on L 2 1
    have t3 := cut_on L 3 64
    have t4 := cut_on L 67 34
    have t5 := cut_on L 101 1
    have t6 := cut_on L 102 1
    have t7 : L.drop 103 = [] := List.drop_of_length_le (by omega)
    simp only [Nat.reduceAdd, Nat.zero_add] at t0 t1 t2 t3 t4 t5 t6
    rw [q0, t1, q1, t2, q2, t3, q3, t4, q4, t5, q5, t6, q6, t7] at t0
    rw [List.drop_zero] at t0
    rw [t0]
    simp [fileCells]
  refine ⟨_, A, c, A2, c2, A3, cap, by rw [fileV, ← e], ⟨⟨hq64, g1, k1⟩, g4, g5, g2, g3, k4, k5, k2, k3, fun x hx => bounds_u8 (hw x hx), hdl, hlc, hs⟩⟩
end
end Go.Proofs.Ytmdjhbkpekepgaa
