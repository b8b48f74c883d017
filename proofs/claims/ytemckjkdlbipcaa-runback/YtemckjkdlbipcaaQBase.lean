/- quant.Round, clamp, within, Check, checkBoth: their contracts. -/
import Derived.Test.YtemckjkdlbipcaaQMath
import Derived.BigQuiet
import Derived.Deep.LoopGhost
namespace Go.Proofs.Ytemckjkdlbipcaa
open Go.RowKit
set_option linter.unusedVariables false
set_option linter.unusedSimpArgs false
set_option maxRecDepth 100000

/-- A long load, also behind a guard that lets it run. -/
theorem wpList_load_long {P : Program} {ops : Array Oper} {rest : List Oper} {op : Oper} {a : Act} {w : World} {Q : Exit → Act → World → Prop} (hgd : Region.wanted op (yielded ops a.tmps) = true) (ty : TypeId) (x : Operand) (ho : op.op = .load ty x)
    (b o : Nat) (hx : a.eval x = .pointer (some ⟨b, o, none⟩)) (cs : List Value) (d : TypeDesc) (hc : w.rangeAt b o cs)
    (hu : P.underlying ty = some d) (hd : d.isRow = true) (hi : (P.info? ty).map (·.size) = some cs.length)
    (h : wpList P ops Q rest (a.put op.dst (.agg cs.toArray)) w) : wpList P ops Q (op :: rest) a w :=
  wpList_step fun K hK => by
    rw [if_pos hgd]
    exact wp_load_mid ty x ho b o hx cs d hc hu hd hi (hK _ _ h)
theorem retI {x y : Int} (h : x = y) : (Ending.returned (.int .i64 x)) = .returned (.int .i64 y) := by rw [h]
theorem wrap_small {x : Int} (h1 : -4611686018427387904 ≤ x) (h2 : x ≤ 4611686018427387904) : wrap64 x = x := by unfold wrap64; omega
theorem tdiv_small {n d M : Int} (h1 : -M ≤ n) (h2 : n ≤ M) : -M ≤ n.tdiv d ∧ n.tdiv d ≤ M := by
  have h3 := Int.natAbs_tdiv n d
  have h4 := Nat.div_le_self n.natAbs d.natAbs
  have h5 : n.natAbs.div d.natAbs = n.natAbs / d.natAbs := rfl
  rw [h5] at h3
  omega
theorem inB_take {lo hi : Int} {cs : List Int} {k : Nat} {x : Int} (hx : cs[k]? = some x) (h : inB lo hi (cs.take k) = true) (h1 : lo ≤ x) (h2 : x ≤ hi) : inB lo hi (cs.take (k + 1)) = true := by
  rw [take_snoc hx]; unfold inB at *; rw [List.all_append, h]; simp [h1, h2]
theorem inB_not {lo hi : Int} {cs : List Int} {k : Nat} {x : Int} (hx : cs[k]? = some x) (h : ¬ (lo ≤ x ∧ x ≤ hi)) : badB lo hi cs = 1 := by
  unfold badB; rw [if_neg]; intro h1; exact h (inB_at h1 hx)
theorem inB_all {lo hi : Int} {cs : List Int} (hc : cs.length = 64) (h : inB lo hi (cs.take 64) = true) : badB lo hi cs = 0 := by
  rw [List.take_of_length_le (by omega)] at h; unfold badB; rw [if_pos h]
end Go.Proofs.Ytemckjkdlbipcaa
