/- The zero block, three blocks just laid, a block and a code handed back: what the walks over blocks share. -/
import Derived.Test.YtemckjkdlbipcaaBlkVal
namespace Go.Proofs.Ytemckjkdlbipcaa
open Go.RowKit
set_option linter.unusedVariables false
set_option linter.unusedSimpArgs false
set_option maxRecDepth 100000

def zeroB : List Value := ints .i64 (List.replicate 64 0)
theorem zeroB_length : zeroB.length = 64 := by simp [zeroB, ints_length]
def zero64 : List Int := List.replicate 64 0
theorem zero64_length : zero64.length = 64 := by simp [zero64]
theorem zero_blk : ints .i64 zero64 = zeroB := rfl
theorem drewN_grown (w : World) (q : Nat) (r : Option Nat) : w.grownBy (w.drewN q) r := ⟨rfl, rfl, rfl, Nat.le_refl _, fun _ _ _ => rfl⟩
theorem results_row_tmp {P : Program} {fn : Func} {p u : Tmp} {ty : TypeId} (h : fn.results = #[.cell p ty, .tmp u]) (tmps : Array Value) (w : World) (g : Nat) (t : TypeId) (cs : Array Value) (fr : Nat × Nat) (d : TypeDesc) (x : Value)
    (hp : tmps.getD p undef = .pointer (some ⟨g, 0, none⟩)) (hx : tmps.getD u undef = x) (hg : w.heap[g]? = some (.cells cs t fr))
    (hu : P.underlying ty = some d) (hd : (match d with | .struct _ | .array _ _ => true | _ => false) = true) (hi : (P.info? ty).map (·.size) = some cs.size) :
    (results fn tmps).run P w = .ok (.tuple #[.agg cs, x]) w := by
  rw [results_cell_tmp h, hp, hx]
  simp [asAddr, run_loadVar_row w g t ty cs fr d hg hu hd hi, Result.andThen]
/-- The three blocks that these functions lay. -/
def box3 (cs : List Int) (w : World) : World := ((w.alloc (.cells (ints .i64 cs).toArray 23)).alloc (.cells zeroB.toArray 23)).alloc (.cells zeroB.toArray 23)
theorem box3_is (cs : List Int) (w : World) : Below w.heap.size w (box3 cs w) ∧ Blk (box3 cs w) w.heap.size (ints .i64 cs) 23 ∧ Blk (box3 cs w) (w.heap.size + 1) zeroB 23 ∧ Blk (box3 cs w) (w.heap.size + 1 + 1) zeroB 23 ∧ (box3 cs w).heap.size = w.heap.size + 3 := by
  have e1 := World.size_alloc w (.cells (ints .i64 cs).toArray 23)
  have e2 := World.size_alloc (w.alloc (.cells (ints .i64 cs).toArray 23)) (.cells zeroB.toArray 23)
  have h0 := Blk.new w (ints .i64 cs) 23
  have h1 := Blk.new (w.alloc (.cells (ints .i64 cs).toArray 23)) zeroB 23
  have h2 := Blk.new ((w.alloc (.cells (ints .i64 cs).toArray 23)).alloc (.cells zeroB.toArray 23)) zeroB 23
  have b1 := below1 ((w.alloc (.cells (ints .i64 cs).toArray 23)).alloc (.cells zeroB.toArray 23)) (.cells zeroB.toArray 23)
  have b2 := below2 (w.alloc (.cells (ints .i64 cs).toArray 23)) (.cells zeroB.toArray 23) (.cells zeroB.toArray 23)
  refine ⟨below3 _ _ _ _, h0.below b2 (by omega), ?_, ?_, by simp [box3]⟩
  · have := h1.below b1 (by omega)
    rw [e1] at this; exact this
  · rw [e2, e1] at h2; exact h2
end Go.Proofs.Ytemckjkdlbipcaa
