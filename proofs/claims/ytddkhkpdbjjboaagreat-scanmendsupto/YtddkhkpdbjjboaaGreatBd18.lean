/- Texts shared by the claims of this seat, in one. -/
import Derived.Test.YtddkhkpdbjjboaaGreatBd1
import Derived.Test.YtddkhkpdbjjboaaGreatRows
import Derived.ProofKit
import Derived.OpenShut
import Derived.ShutString
import Derived.ChangeOld
import Derived.JoinedCond
import Derived.Deep.Slices
import Derived.Deep.SlicePairs
import Derived.Deep.Fields
import Derived.ChangeSame
import Derived.SizedLaws
import Derived.Test.YtddkhkpdbjjboaaGreatBd2
import Derived.Lib.SmallJoins
import Derived.Test.YtddkhkpdbjjboaaGreatBd17
import Derived.Test.YtddkhkpdbjjboaaGreatBd9
/- From the form's readings of the arguments to the words of Mem: slices of integers, slices of structs of integers. -/
namespace Go.Proofs.YtddkhkpdbjjboaaGreat
open Go.RowKit Go.ChangeShapes Go.WideShapes Go.ChangeAt Go.Deep
set_option linter.unusedVariables false
set_option linter.unusedSimpArgs false
set_option maxRecDepth 100000

theorem own : ownKnob Tryz.prog.godebug = none := by kernel_rfl
theorem laidOut : laidOutB Tryz.prog = true := by kernel_rfl

section
variable {H : Type} {enc : TypeId × Value → H}

theorem bulk_pos (d : DataW H) : 1 ≤ Rows.uptoBulk d := by
  cases d with
  | lit l => cases l <;> simp [Rows.uptoBulk]
  | nil => simp [Rows.uptoBulk]
  | ptr d => simp [Rows.uptoBulk]
  | slice elems spare => simp [Rows.uptoBulk]
  | agg parts => simp [Rows.uptoBulk]
  | iface t d => simp [Rows.uptoBulk]
  | map entries => simp [Rows.uptoBulk]
  | held h => simp [Rows.uptoBulk]
theorem bulk_length (l : List (DataW H)) : l.length ≤ Rows.uptoBulkAll l := by
  induction l with
  | nil => simp [Rows.uptoBulkAll]
  | cons x r ih => have := bulk_pos x; simp only [Rows.uptoBulkAll, List.length_cons]; omega

/-- A slice of integers that came in. -/
theorem openInts {W : World} {t e : TypeId} {k : IntKind} {a : Option Addr} {len cap : Nat} {d : DataW H} {p : List MemPlace} {sp : Nat → Bool} {hd : Bool}
    (ht : Tryz.prog.underlying t = some (.slice e)) (he : Tryz.prog.underlying e = some (.int k)) (hc : Tryz.prog.cellsOf e = 1)
    (h : DataW.Trod enc Tryz.prog W 0 sp hd t (.slice a len cap) d p) :
    ∃ xs : List Int, len = xs.length ∧ Seen W W.heap.size a (ints k xs) ∧ (∀ x ∈ xs, (Lit.int k x).wf = true) ∧ xs.length ≤ maxLen ∧ cap ≤ maxLen ∧ xs.length ≤ cap ∧ xs.length ≤ Rows.uptoBulk d := by
  obtain ⟨fuel, hf⟩ := h
  rcases open_ints ht he hc hf with ⟨hcs, _⟩ | ⟨x, l, c, zs, hcs, _, hl, hm, hz, hx, hcell, hwz⟩
  · simp [Value.cells] at hcs
    obtain ⟨rfl, rfl, rfl⟩ := hcs
    exact ⟨[], rfl, .inl rfl, by simp, Nat.zero_le _, Nat.zero_le _, Nat.zero_le _, Nat.zero_le _⟩
  · simp [Value.cells] at hcs
    obtain ⟨rfl, rfl, rfl⟩ := hcs
    have hlz : len ≤ zs.length := by rw [hz]; split <;> omega
    simp only [Prod.mk.injEq] at hx
    refine ⟨zs.take len, by simp [Nat.min_eq_left hlz], ?_, fun x hx => hwz x (List.mem_of_mem_take hx), by simp; omega, hm, by simp; omega, ?_⟩
    · by_cases h0 : len = 0
      · subst h0; exact .inl rfl
      · have h1 := hcell 0 (by omega)
        have hsp := World.cell?_spot h1
        have hb := World.block_lt_of_cell? W _ h1
        obtain ⟨b, o, s⟩ := x
        simp [Addr.add] at hsp hb
        subst hsp
        refine .inr ⟨b, o, rfl, hb, fun j u hu => ?_⟩
        have hj : j < zs.length := by
          have := (List.getElem?_eq_some_iff.1 hu).1
          simp [ints] at this; omega
        have h2 := hcell j hj
        have h3 : (ints k (zs.take len))[j]? = some (.int k (zs.getD j 0)) := by
          have hjl : j < len := by
            have := (List.getElem?_eq_some_iff.1 hu).1
            simp [ints] at this; omega
          simp [ints, List.getElem?_take, hjl, hj]
        rw [h3] at hu
        injection hu with hu
        subst hu
        rw [← h2]
        unfold Addr.add
        split
        · rename_i e; subst e; rfl
        · rfl
    · rw [hx.1]
      simp only [Rows.uptoBulk]
      have h1 := bulk_length (lits (H := H) k (zs.take len))
      have h2 : (lits (H := H) k (zs.take len)).length = (zs.take len).length := by simp [lits]
      omega

end
end Go.Proofs.YtddkhkpdbjjboaaGreat

/- From the form's reading of a table that came in to its counts and its symbols. -/
namespace Go.Proofs.YtddkhkpdbjjboaaGreat
open Go.RowKit Go.ChangeShapes Go.WideShapes Go.ChangeAt Go.Deep
set_option linter.unusedVariables false
set_option linter.unusedSimpArgs false
set_option maxRecDepth 100000
section
variable {H : Type} {enc : TypeId × Value → H}
theorem take_drop_one {α : Type} {l : List α} {i : Nat} {x : α} (h : l[i]? = some x) : (l.drop i).take 1 = [x] := by
  obtain ⟨hi, e⟩ := List.getElem?_eq_some_iff.1 h
  rw [List.drop_eq_getElem_cons hi, e]; rfl
/-- Cells that read as an array of integers. -/
theorem openArr {W : World} {t e : TypeId} {k : IntKind} {n fuel : Nat} {l : List Value} {x : DataW H × List MemPlace} {sp : Nat → Bool} {hd : Bool}
    (ht : Tryz.prog.underlying t = some (.array n e)) (he : Tryz.prog.underlying e = some (.int k)) (hc : Tryz.prog.cellsOf e = 1) (hct : Tryz.prog.cellsOf t = n)
    (h : DataW.trod enc Tryz.prog W 0 sp hd fuel t l = some x) : ∃ cs : List Int, l = ints k cs ∧ cs.length = n ∧ ∀ c ∈ cs, (Lit.int k c).wf = true := by
  obtain ⟨xs, m, _, _, hl, hx, hi⟩ := DataW.trod_array ht h
  rw [hct] at hl
  rw [hc] at hi
  have each : ∀ i, i < n → ∃ c : Int, l[i]? = some (.int k c) ∧ (Lit.int k c).wf = true := by
    intro i hin
    obtain ⟨v, hv⟩ := some_at (xs := l) (j := i) (by omega)
    have h2 := hi i hin
    rw [Nat.mul_one, take_drop_one hv] at h2
    obtain ⟨y, hy⟩ := some_at (xs := xs) (j := i) (by omega)
    rw [hy] at h2
    obtain ⟨c, e0, _, w0⟩ := DataW.trod_int he h2
    simp at e0
    exact ⟨c, by rw [hv, e0], w0⟩
  obtain ⟨q, hq⟩ := choose_lt each
  refine ⟨(List.range n).map q, ?_, by simp, ?_⟩
  · apply List.ext_getElem?
    intro i
    by_cases hin : i < n
    · rw [(hq i hin).1]; simp [ints, hin]
    · rw [List.getElem?_eq_none (by omega), List.getElem?_eq_none (by simp [ints]; omega)]
  · intro c hc
    obtain ⟨i, hi', rfl⟩ := List.mem_map.1 hc
    exact (hq i (by simpa using hi')).2
end
end Go.Proofs.YtddkhkpdbjjboaaGreat

/- From the form's reading of two tables, and of a slice of blocks, to the words of Mem. -/
namespace Go.Proofs.YtddkhkpdbjjboaaGreat
open Go.RowKit Go.ChangeShapes Go.WideShapes Go.ChangeAt Go.Deep
set_option linter.unusedVariables false
set_option linter.unusedSimpArgs false
set_option maxRecDepth 100000
section
variable {H : Type} {enc : TypeId × Value → H}
theorem tab_cells {W : World} {fuel : Nat} {L : List Value} {x : DataW H × List MemPlace} {sp : Nat → Bool} {hd : Bool} (hsz : L.length = 17) (hf : DataW.trod enc Tryz.prog W 0 sp hd fuel 25 L = some x) :
    ∃ (cs : List Int) (A : Option Addr) (c : Nat) (syms : List Int), L = tabCells cs A syms.length c ∧ cs.length = 16 ∧ (∀ x ∈ cs, -9223372036854775808 ≤ x ∧ x ≤ 9223372036854775807) ∧ Seen W W.heap.size A (ints .i64 syms) ∧ syms.length ≤ maxLen ∧ syms.length ≤ c := by
  obtain ⟨y0, y1, n, hx, _, h0, h1⟩ := trod_struct2 Tryz.underlying25 hf
  have c0 : Tryz.prog.cellsOf 22 = 16 := by kernel_rfl
  have c1 : Tryz.prog.cellsOf 23 = 1 := by kernel_rfl
  rw [c0] at h0
  rw [c1] at h1
  simp only [List.drop_zero] at h0
  obtain ⟨cs, e0, hcs, hwf⟩ := openArr Tryz.underlying22 Tryz.underlying3 (by kernel_rfl) c0 h0
  obtain ⟨A, len, cap, e1⟩ := Go.Joins.slice_form Tryz.underlying23 h1
  rw [e1] at h1
  obtain ⟨syms, rfl, hs, hw, hl, _, hlc, hb⟩ := openInts (W := W) (a := A) (len := len) (cap := cap) (d := y1.1) (p := y1.2) Tryz.underlying23 Tryz.underlying3 (by kernel_rfl) ⟨n, h1⟩
  have e2 : L = tabCells cs A syms.length cap := by
    rw [tabCells, ← e0, ← e1, List.take_of_length_le (l := L.drop 16) (by simp; omega), List.take_append_drop]
  exact ⟨cs, A, cap, syms, e2, hcs, fun x hx => bounds_i64 (hwf x hx), hs, hl, hlc⟩
/-- Two tables that came in. -/
theorem openTables {W : World} {base : Nat} {v : Value} {d : DataW H} {p : List MemPlace} {sp : Nat → Bool} {hd : Bool} (hv : Value.okWide Tryz.prog W .any base 27 v) (h : DataW.Trod enc Tryz.prog W 0 sp hd 27 v d p) :
    ∃ (cs : List Int) (A : Option Addr) (c : Nat) (syms : List Int) (cs2 : List Int) (A2 : Option Addr) (c2 : Nat) (syms2 : List Int), v = tabsV cs A syms.length c cs2 A2 syms2.length c2 ∧ cs.length = 16 ∧ (∀ x ∈ cs, -9223372036854775808 ≤ x ∧ x ≤ 9223372036854775807) ∧ Seen W W.heap.size A (ints .i64 syms) ∧ syms.length ≤ maxLen ∧ syms.length ≤ c ∧
      cs2.length = 16 ∧ (∀ x ∈ cs2, -9223372036854775808 ≤ x ∧ x ≤ 9223372036854775807) ∧ Seen W W.heap.size A2 (ints .i64 syms2) ∧ syms2.length ≤ maxLen ∧ syms2.length ≤ c2 := by
  obtain ⟨cells, rfl, hsz⟩ := okWide_struct Tryz.underlying27 hv
  have h34 : Tryz.prog.cellsOf 27 = 34 := by kernel_rfl
  rw [h34] at hsz
  obtain ⟨fuel, hf⟩ := h
  obtain ⟨y0, y1, n, hx, _, h0, h1⟩ := trod_struct2 Tryz.underlying27 hf
  have c0 : Tryz.prog.cellsOf 25 = 17 := by kernel_rfl
  simp only [Value.cells] at h0 h1
  rw [c0] at h0 h1
  obtain ⟨L⟩ := cells
  simp only [List.size_toArray] at hsz
  simp only [List.drop_zero] at h0
  obtain ⟨cs, A, c, syms, e0, g1, g2, g3, g4, g5⟩ := tab_cells (by simp; omega) h0
  obtain ⟨cs2, A2, c2, syms2, e1, k1, k2, k3, k4, k5⟩ := tab_cells (by simp; omega) h1
  have e2 : L = tabsCells cs A syms.length c cs2 A2 syms2.length c2 := by
    rw [tabsCells, ← e0, ← e1, List.take_of_length_le (l := L.drop 17) (by simp; omega), List.take_append_drop]
  exact ⟨cs, A, c, syms, cs2, A2, c2, syms2, by rw [tabsV, e2], g1, g2, g3, g4, g5, k1, k2, k3, k4, k5⟩
end
end Go.Proofs.YtddkhkpdbjjboaaGreat
