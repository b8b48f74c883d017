/- A block stored in a drawn region; blocks told apart; steps of 1 and 100 percent, in numbers. -/
import Derived.Test.YtpbeehalicmdjaaQNum
import Derived.Test.YtpbeehalicmdjaaQScale
import Derived.Test.YtpbeehalicmdjaaDrive
namespace Go.Proofs.Ytpbeehalicmdjaa
open Go.RowKit
set_option linter.unusedVariables false
set_option linter.unusedSimpArgs false

theorem step_store_blk {P : Program} {ops : Array Oper} {o : Oper} {a : Act} {K : Act → World → Prop} {Q : Exit → Act → World → Prop} {F : Prop} (w : World) (hgd : o.guard = none) (t : TypeId) (x y : Operand) (ho : o.op = .store t x y) (b : Nat) (xs ys : List Value) (e : TypeId) (hB : Blk w b xs e)
    (hx : a.eval x = .pointer (some ⟨b, 0, none⟩)) (hy : a.eval y = .agg ys.toArray) (hi : (P.info? t).map (·.size) = some ys.length) (hl : ys.length = xs.length) (h1 : ∀ u ∈ ys, u.oneCell' = true)
    (h : ∀ w', Blk w' b ys e → w.grownBy w' (some b) → K (a.put o.dst undef) w') : if Region.wanted o (yielded ops a.tmps) = true then Oper.wp P o a w K Q else F := by
  have hw : Region.wanted o (yielded ops a.tmps) = true := by simp [Region.wanted, hgd]
  rw [if_pos hw]
  obtain ⟨h2, h3⟩ := setCells_blk ys xs [] w hl hB
  refine wp_store_mid t x y ho b 0 ys.toArray hx hy (fun j hj => ⟨?_, by rw [Nat.zero_add]; exact hB.frozen j⟩) (by simpa using hi) (all_oneCell_toArray h1) (h _ h2 h3)
  obtain ⟨u, hu⟩ := some_at (xs := xs) (j := j) (by simp at hj; omega)
  rw [Nat.zero_add, hB.cell hu]; rfl
theorem blk_neq_same (cs : List Int) (hc : cs.length = 64) (u : World) : (binOp .neq 23 (blkV cs) (blkV cs)).run Try.prog u = .ok (.bool false) u := by
  have h := blk_same cs hc u
  rw [run_eql_struct] at h
  rw [run_neq_struct]
  generalize (Op.equalIn 10000 23 (blkV cs) (blkV cs)).run Try.prog u = r at *
  cases r with
  | ok b w' => simp at h; obtain ⟨rfl, rfl⟩ := h; rfl
  | _ => simp at h
theorem scale_same {qs : List Int} (hq : qs.length = 64) (h : eScale qs 100 = 0) : oScale qs 100 = qs := by
  obtain ⟨hi, _⟩ := eScale_ok h
  rw [oScale_ok h]
  apply List.ext_getElem?
  intro i
  by_cases hi64 : i < 64
  · obtain ⟨x, hx⟩ := some_at (xs := qs) (j := i) (by omega)
    have h1 := inB_at hi hx
    rw [mapL_at hi64 hx, hx, fScale, rnd_mul (by omega), clampZ_of h1.1 h1.2]
  · rw [List.getElem?_eq_none (by rw [mapL_length]; omega), List.getElem?_eq_none (by omega)]
theorem scale_E (qs : List Int) : eScale qs 100 = badB 1 255 qs := by
  unfold eScale badB
  by_cases h : inB 1 255 qs = true <;> simp [h]
theorem ones_num {x : Int} (h1 : -2047 ≤ x) (h2 : x ≤ 2047) : clampZ (rnd x 1) (-2047) 2047 = x := by
  have := rnd_mul (n := x) (d := 1) (by omega)
  rw [Int.mul_one] at this
  rw [this, clampZ_of h1 h2]
theorem ones_at {bs : List Int} (hb : bs.length = 64) (hE : eBoth 40000 bs (onesL 1) = 0) (k : Nat) (hk : k < 64) : ∃ x v : Int, (ints .i64 bs)[k]? = some (.int .i64 x) ∧ (ints .i64 (oDown bs (onesL 1)))[k]? = some (.int .i64 v) ∧ (-40000 ≤ x ∧ x ≤ 40000) ∧ (-2047 ≤ x → x ≤ 2047 → v = x) := by
  obtain ⟨_, hi2⟩ := eBoth_ok hE
  obtain ⟨x, hx⟩ := some_at (xs := bs) (j := k) (by omega)
  refine ⟨x, clampZ (rnd x 1) (-2047) 2047, ints_at hx, ints_at ?_, inB_at hi2 hx, ones_num⟩
  rw [oDown_ok hE, mapL_at hk hx, fDown_at (onesL_at hk)]
end Go.Proofs.Ytpbeehalicmdjaa
