/- A whole value stored into a block that is known, in a region driven by hand. No program is named here. -/
import Derived.Test.YtemckjkdlbipcaaBlk
import Derived.Test.YtemckjkdlbipcaaDrive
namespace Go.Proofs.Ytemckjkdlbipcaa
open Go.RowKit
set_option linter.unusedVariables false
set_option linter.unusedSimpArgs false
set_option maxRecDepth 100000

theorem step_store_blk {P : Program} {ops : Array Oper} {o : Oper} {a : Act} {K : Act → World → Prop} {Q : Exit → Act → World → Prop} {F : Prop} (w : World) (hgd : o.guard = none) (t : TypeId) (x y : Operand) (ho : o.op = .store t x y) (b : Nat) (xs ys : List Value) (e : TypeId) (hB : Blk w b xs e)
    (hx : a.eval x = .pointer (some ⟨b, 0, none⟩)) (hy : a.eval y = .agg ys.toArray) (hi : (P.info? t).map (·.size) = some ys.length) (hl : ys.length = xs.length) (h1 : ∀ u ∈ ys, u.oneCell' = true)
    (h : ∀ w', Blk w' b ys e → w.grownBy w' (some b) → K (a.put o.dst undef) w') : if Region.wanted o (yielded ops a.tmps) = true then Oper.wp P o a w K Q else F := by
  have hw : Region.wanted o (yielded ops a.tmps) = true := by simp [Region.wanted, hgd]
  rw [if_pos hw]
  obtain ⟨h2, h3⟩ := setCells_blk ys xs [] w hl hB
  refine wp_store_mid t x y ho b 0 ys.toArray hx hy (fun j hj => ⟨?_, by rw [Nat.zero_add]; exact hB.frozen j⟩) (by simpa using hi) (all_oneCell_toArray h1) (h _ h2 h3)
  obtain ⟨u, hu⟩ := some_at (xs := xs) (j := j) (by simp at hj; omega)
  rw [Nat.zero_add, hB.cell hu]; rfl
end Go.Proofs.Ytemckjkdlbipcaa
