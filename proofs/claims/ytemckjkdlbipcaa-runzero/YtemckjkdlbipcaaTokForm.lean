/- Rows of tokens, their slices written out; tokens of blocks that are zero but for number 0. -/
import Derived.Test.YtemckjkdlbipcaaTokMem
import Derived.Test.YtemckjkdlbipcaaRunBase
namespace Go.Proofs.Ytemckjkdlbipcaa
open Go.RowKit
set_option linter.unusedVariables false
set_option linter.unusedSimpArgs false
set_option maxRecDepth 100000

theorem tok_form {w : World} {B : Nat} {v : Value} {T : List (Int × Int × Int)} {rs : List Row} (h : Owns B (tokRow v T :: rs) w) : ∃ A c, v = .slice A T.length c ∧ Seen w w.heap.size A (tokCells T) ∧ T.length ≤ c ∧ c ≤ maxLen := by
  obtain ⟨A, c, e, h1, h2, h3⟩ := h.seen (List.mem_cons_self ..)
  exact ⟨A, c, e, h1, h2, h3⟩
theorem big_eT (cs : List Int) : eT 2048 cs = 1 := eT_bad (by omega)
theorem zz_pos : ∀ i : Fin 64, i.1 ≠ 0 → (zz.getD i.1 0).toNat ≠ 0 ∧ (zz.getD i.1 0).toNat < 64 := by decide +kernel
theorem toL_one (n : Int) : toL (n :: List.replicate 63 0) = n :: List.replicate 63 0 := by
  apply List.ext_getElem?
  intro i
  by_cases hi : i < 64
  · simp only [toL, toK, List.getElem?_map, List.getElem?_range hi, Option.map_some, if_pos hi]
    by_cases h0 : i = 0
    · subst h0; rfl
    · obtain ⟨h1, h2⟩ := zz_pos ⟨i, hi⟩ h0
      simp only at h1 h2
      obtain ⟨j, hj⟩ : ∃ j, (zz.getD i 0).toNat = j + 1 := ⟨(zz.getD i 0).toNat - 1, by omega⟩
      obtain ⟨k, rfl⟩ : ∃ k, i = k + 1 := ⟨i - 1, by omega⟩
      rw [hj, List.getElem?_cons_succ, List.getD_cons_succ, List.getElem?_replicate, if_pos (by omega), List.getD_eq_getElem?_getD, List.getElem?_replicate, if_pos (by omega)]; rfl
  · rw [List.getElem?_eq_none (by rw [toL_length]; omega), List.getElem?_eq_none (by simp; omega)]
theorem one_eT {b n : Int} (hb : -2047 ≤ b ∧ b ≤ 2047) (h : -2047 ≤ n ∧ n ≤ 2047) : eT b (n :: List.replicate 63 0) = 0 := by
  refine eT_ok hb.1 hb.2 (inB_mem.2 fun z hz => ?_)
  rcases List.mem_cons.1 hz with rfl | hz
  · exact h
  · rw [(List.mem_replicate.1 hz).2]; omega
theorem one_oT {n : Int} (h : -2047 ≤ n ∧ n ≤ 2047) : oT n (n :: List.replicate 63 0) = [(0, 0, 0), (0, 0, 0)] := by
  rw [oT_ok (one_eT h h), toL_one, zero_all]; rfl
end Go.Proofs.Ytemckjkdlbipcaa
