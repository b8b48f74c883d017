/- From the form's word on the package's variable to its nine cells; a start at which that word holds. -/
import Derived.Test.YtgnpjejjnhdejaaDoorWVal
import Derived.Test.YtgnpjejjnhdejaaDoorOpenBlk
import Derived.ProofKit
import Derived.LaidMore
import Derived.OpenShut
import Derived.Stop.Joined
namespace Go.Proofs.YtgnpjejjnhdejaaDoor
open Go.RowKit Go.ChangeShapes Go.WideShapes Go.ChangeAt Go.Deep
set_option linter.unusedVariables false
set_option linter.unusedSimpArgs false

theorem gQ : Tryd.prog.globalNamed "mezzotint/wave.quarter" = some 0 := by kernel_rfl
theorem tQ : (Tryd.prog.globals[0]?).map (·.type) = some 46 := by kernel_rfl
/-- The door's own heap meets the condition. -/
theorem door_met (os : Os) (args : Array Value) : laidMetH Tryd.prog [("mezzotint/wave.quarter", Rows.laid_mezzotint_wave_quarter)] ((World.doorLaid Tryd.prog 400 os).forCall (fun _ _ => 0) ⟨#[], args, []⟩).memory :=
  laidMetH_of_parts3 (fuel := 8) (laidMet_of_run' 8 (by kernel_rfl) (by kernel_rfl)) (by kernel_rfl) (by kernel_rfl)
theorem laid_is : (Rows.laid_mezzotint_wave_quarter (H := Unit)) = .agg (quart.map fun n => .lit (.int .i64 n)) := rfl
theorem quart_of {W : World} (h : laidMetH Tryd.prog [("mezzotint/wave.quarter", Rows.laid_mezzotint_wave_quarter)] W) : Quart W := by
  rw [MakeChecks.laidMetH_plain _ _ _ (by kernel_rfl)] at h
  obtain ⟨ps, ⟨g0, t0, cs0, f0, p0, q0, hg0, ht0, hv0, hd0, _, _⟩, _, _⟩ := h
  obtain rfl := Option.some.inj (gQ.symm.trans hg0)
  obtain rfl := Option.some.inj (tQ.symm.trans ht0)
  obtain ⟨xs, m, _, hx1, hl, hxl, hi⟩ := DataW.trod_array Tryd.underlying46 hd0
  have c3 : Tryd.prog.cellsOf 3 = 1 := by kernel_rfl
  have c9 : Tryd.prog.cellsOf 46 = 9 := by kernel_rfl
  rw [laid_is] at hx1
  simp only [Prod.mk.injEq, DataW.agg.injEq] at hx1
  rw [c9] at hl
  rw [c3] at hi
  intro k x hk
  have hk9 : k < 9 := (List.getElem?_eq_some_iff.1 hk).1
  obtain ⟨v, hv⟩ := some_at (xs := cs0.toList) (j := k) (by omega)
  have h2 := hi k hk9
  rw [Nat.mul_one, one_at hv] at h2
  obtain ⟨y, hy⟩ := some_at (xs := xs) (j := k) (by omega)
  rw [hy] at h2
  obtain ⟨c, e0, e1, w0⟩ := DataW.trod_int Tryd.underlying3 h2
  have e2 : (quart.map fun n => (DataW.lit (.int .i64 n) : DataW Unit))[k]? = some y.1 := by
    rw [hx1.1, List.getElem?_map, hy]; rfl
  rw [List.getElem?_map, hk, e1] at e2
  simp only [Option.map_some, Option.some.injEq, DataW.lit.injEq, Lit.int.injEq, true_and] at e2
  subst e2
  simp at e0
  subst e0
  have := World.var?_cell hg0 hv0 k
  rw [this, ← Array.getElem?_toList, hv]
end Go.Proofs.YtgnpjejjnhdejaaDoor
