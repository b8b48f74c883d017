/- What Tokens and Block answer, in numbers. No program is named here. -/
import Derived.Test.YtemckjkdlbipcaaRunMath2
import Derived.Test.YtemckjkdlbipcaaZigMath
import Derived.Test.YtemckjkdlbipcaaQMath
namespace Go.Proofs.Ytemckjkdlbipcaa
set_option linter.unusedVariables false
set_option linter.unusedSimpArgs false
set_option maxRecDepth 100000

/-- A token's value. -/
def tokV (t : Int × Int × Int) : Value := .agg #[.int .i64 t.1, .int .i64 t.2.1, .int .i64 t.2.2]
def eT (b : Int) (cs : List Int) : Int := if -2047 ≤ b ∧ b ≤ 2047 ∧ inB (-2047) 2047 cs = true then 0 else 1
def oT (b : Int) (cs : List Int) : List (Int × Int × Int) := if eT b cs = 0 then toksZ b (toL cs) else []
theorem eT_ok {b : Int} {cs : List Int} (h1 : -2047 ≤ b) (h2 : b ≤ 2047) (h3 : inB (-2047) 2047 cs = true) : eT b cs = 0 := if_pos ⟨h1, h2, h3⟩
theorem eT_bad {b : Int} {cs : List Int} (h : ¬ (-2047 ≤ b ∧ b ≤ 2047 ∧ inB (-2047) 2047 cs = true)) : eT b cs = 1 := if_neg h
theorem eT_zero {b : Int} {cs : List Int} (h : eT b cs = 0) : -2047 ≤ b ∧ b ≤ 2047 ∧ inB (-2047) 2047 cs = true := by unfold eT at h; split at h; assumption; cases h
theorem eT_two (b : Int) (cs : List Int) : eT b cs = 0 ∨ eT b cs = 1 := by unfold eT; split <;> simp
theorem oT_ok {b : Int} {cs : List Int} (h : eT b cs = 0) : oT b cs = toksZ b (toL cs) := if_pos h
theorem oT_bad {b : Int} {cs : List Int} (h : eT b cs ≠ 0) : oT b cs = [] := if_neg h
theorem toL_length (cs : List Int) : (toL cs).length = 64 := toK_length _ _
theorem fromL_length (cs : List Int) : (fromL cs).length = 64 := fromK_length _ _
theorem toL_mem {cs : List Int} (hc : cs.length = 64) {z : Int} (h : z ∈ toL cs) : z ∈ cs := by
  obtain ⟨k, hk⟩ := List.getElem?_of_mem h
  have h64 : k < 64 := by have := (List.getElem?_eq_some_iff.1 hk).1; rw [toL_length] at this; exact this
  obtain ⟨⟨n, hn⟩, h1, _⟩ := zz_at ⟨k, h64⟩
  rw [toL_at h64 h1] at hk
  injection hk with hk
  have := getD_some (cs := cs) (k := n) (by omega)
  rw [hk] at this
  exact List.mem_of_getElem? this
theorem fromL_mem {cs : List Int} (hc : cs.length = 64) {z : Int} (h : z ∈ fromL cs) : z ∈ cs := by
  obtain ⟨k, hk⟩ := List.getElem?_of_mem h
  have h64 : k < 64 := by have := (List.getElem?_eq_some_iff.1 hk).1; rw [fromL_length] at this; exact this
  rw [fromL_at h64] at hk
  injection hk with hk
  have := getD_some (cs := cs) (k := zz.idxOf (k : Int)) (by have := (zz_back ⟨k, h64⟩).1; simp only at this; omega)
  rw [hk] at this
  exact List.mem_of_getElem? this
theorem toL_in {cs : List Int} (hc : cs.length = 64) (h : inB (-2047) 2047 cs = true) : ∀ z ∈ toL cs, -2047 ≤ z ∧ z ≤ 2047 := fun z hz => inB_mem.1 h z (toL_mem hc hz)
theorem toks_len (b : Int) {zs : List Int} (h : zs.length = 64) : (toksZ b zs).length ≤ 64 := by
  match zs, h with
  | z :: zs, h =>
    have := len_rest zs 0
    rw [List.length_cons] at h
    rw [toksZ, List.length_cons]; omega
theorem oT_len (b : Int) (cs : List Int) : (oT b cs).length ≤ 64 := by
  unfold oT; split
  · exact toks_len b (toL_length cs)
  · simp
end Go.Proofs.Ytemckjkdlbipcaa
