/- table.Encode: its contract. -/
import Derived.Test.YtjphfbapekdjmaaTabWords
import Derived.Test.YtjphfbapekdjmaaSymMem
import Derived.Test.YtjphfbapekdjmaaWrittenMath
namespace Go.Proofs.Ytjphfbapekdjmaa
open Go.RowKit
set_option linter.unusedVariables false
set_option linter.unusedSimpArgs false
set_option maxRecDepth 100000

theorem info_field : (Try.prog.info? 48).map (fun i => (i.zero, i.size, i.bytes)) = some (some (.agg #[.int .i64 0, .int .i64 0]), 2, 16) := by kernel_rfl
theorem run_make_fields (n : Nat) (h : n ≤ 1099511627776) (u : World) : ∃ cur, (Instr.makeSlice 46 (.int .i64 0) (.int .i64 (n : Int))).run Try.prog u =
    .ok (.slice (some ⟨u.heap.size, 0, none⟩) 0 n) (u.alloc (.cells cur 48)) ∧ cur.size = n * 2 := by
  obtain ⟨i0, hi, hz0, hz1, hz2⟩ := info_parts info_field
  have h := run_make (P := Try.prog) u 46 48 i0 (.agg #[.int .i64 0, .int .i64 0]) Try.underlying46 hi hz0 .i64 .i64 0 n (by omega) (by omega) (by rw [hz2]; omega) (by omega)
  exact ⟨_, h, by simp [madeCells, hz1, Value.cells]⟩

/-- The fields of symbols. -/
def fieldsOf (ws : List (Int × Nat × Nat)) (xs : List Int) : List (Int × Int) := xs.map fun x => (symF ws x).getD (0, 0)
theorem fieldsOf_snoc {ws : List (Int × Nat × Nat)} {xs : List Int} {k : Nat} {x : Int} (h : xs[k]? = some x) : fieldsOf ws (xs.take (k + 1)) = fieldsOf ws (xs.take k) ++ [(symF ws x).getD (0, 0)] := by
  rw [take_snoc h]; simp [fieldsOf]
def AllIn (ws : List (Int × Nat × Nat)) (xs : List Int) : Prop := ∀ x ∈ xs, (symF ws x).isSome = true
instance (ws : List (Int × Nat × Nat)) (xs : List Int) : Decidable (AllIn ws xs) := by unfold AllIn; infer_instance
def encErr (cs syms xs : List Int) : Int := if checkErr cs syms = 0 then if 20000 < xs.length then 2 else if AllIn (outWords cs syms) xs then 0 else 5 else checkErr cs syms
/-- What Encode makes. -/
def Encd (cs syms xs out : List Int) : Prop := (encErr cs syms xs ≠ 0 → out = []) ∧ (encErr cs syms xs = 0 → Bytes out ∧ ∃ p, p < 8 ∧ unpack out = fieldBits (fieldsOf (outWords cs syms) xs) ++ List.replicate p true)
theorem encd_err {cs syms xs : List Int} (h : encErr cs syms xs ≠ 0) : Encd cs syms xs [] := ⟨fun _ => rfl, fun e => absurd e h⟩
theorem encErr_zero {cs syms xs : List Int} (h : encErr cs syms xs = 0) : checkErr cs syms = 0 ∧ xs.length ≤ 20000 ∧ AllIn (outWords cs syms) xs := by
  unfold encErr at h
  split at h
  · rename_i h1
    split at h
    · cases h
    · rename_i h2
      split at h
      · rename_i h3; exact ⟨h1, by omega, h3⟩
      · cases h
  · rename_i h1; exact absurd h h1
/-- Each word that a symbol has is one of the words. -/
theorem Fine.kr {cs syms : List Int} {l : List (Nat × Nat)} (h : Fine cs syms l) (hcs : cs.length = 16) : Kr 0 l := codes_kr (by rw [nats_length]; exact hcs) h.code
theorem Fine.word {cs syms : List Int} {l : List (Nat × Nat)} (h : Fine cs syms l) (hcs : cs.length = 16) {t : Int × Nat × Nat} (ht : t ∈ mkWords syms l) : (0 ≤ t.1 ∧ t.1 ≤ 255) ∧ (1 ≤ t.2.1 ∧ t.2.1 ≤ 16) ∧ t.2.2 + 1 < 2 ^ t.2.1 := by
  obtain ⟨i, h1, h2⟩ := mem_mkWords ht
  have hm := List.mem_of_getElem? h2
  have := (h.kr hcs).ge _ hm
  exact ⟨h.ok _ (List.mem_of_getElem? h1), ⟨this.1, this.2.1⟩, (h.kr hcs).small hm⟩
theorem fields_ok {cs syms xs : List Int} (hcs : cs.length = 16) (h : encErr cs syms xs = 0) : writeErr (fieldsOf (outWords cs syms) xs) = 0 := by
  obtain ⟨h1, h2, h3⟩ := encErr_zero h
  obtain ⟨l, hf, hw, _⟩ := fine_of h1
  unfold writeErr
  rw [if_neg (by simp [fieldsOf]; omega), if_pos]
  intro f hf2
  simp only [fieldsOf, List.mem_map] at hf2
  obtain ⟨x, hx, rfl⟩ := hf2
  obtain ⟨p, hp⟩ := Option.isSome_iff_exists.1 (h3 x hx)
  rw [hp]
  obtain ⟨t, ht, _, rfl⟩ := symF_mem hp
  rw [hw] at ht
  obtain ⟨_, h5, h6⟩ := hf.word hcs ht
  exact (okF_nat t.2.1 t.2.2).2 ⟨by omega, by omega⟩
theorem fi_small {cs syms : List Int} {l : List (Nat × Nat)} (h : Fine cs syms l) (hcs : cs.length = 16) {t : Int × Nat × Nat} (ht : t ∈ mkWords syms l) : WF t.1 ∧ WF (t.2.1 : Int) ∧ WF (t.2.2 : Int) := by
  obtain ⟨h1, h2, h3⟩ := h.word hcs ht
  have : 2 ^ t.2.1 ≤ 2 ^ 16 := Nat.pow_le_pow_right (by omega) h2.2
  exact ⟨wf_of (by omega), wf_of (by omega), wf_of (by omega)⟩

end Go.Proofs.Ytjphfbapekdjmaa
