/- A drawn region driven by hand: what may be taken first is taken first, where its result goes is told. No program is named here. -/
import Derived.Test.YtemckjkdlbipcaaMem
import Derived.Deep.RegionHeld3
namespace Go.Proofs.Ytemckjkdlbipcaa
open Go.RowKit
set_option linter.unusedVariables false
set_option linter.unusedSimpArgs false
set_option maxRecDepth 100000
section
variable {P : Program} {ops : Array Oper} {Q : Exit → Act → World → Prop} {md : Region.Mode} {S : World → Prop} {fuel : Nat} {listed : Array Bool} {ts : List Value} {w : World}
theorem put_some (ts : List Value) (d : Nat) (v : Value) : (({ tmps := ts.toArray, defers := [] } : Act).put (some d) v) = { tmps := (ts.set d v).toArray, defers := [] } := by
  simp [Act.put]
/-- What yields in every world that meets S is taken first. -/
theorem take_pure (i : Nat) (d : Nat) (v : Value) (ts' : List Value) {oi : Oper} (hi : ops[i]? = some oi) (hd : oi.dst = some d) (hs : Region.noSelect ops = true) (hf : Region.free md ops listed i = true) (hr : (Region.ready md ops listed).contains i = true)
    (hQ : ∀ c a w, Q (.panic c) (a.put oi.dst v) w → Q (.panic c) a w) (hw : Region.wanted oi (yielded ops ts.toArray) = true) (hy : ∀ w, S w → (execOp ({ tmps := ts.toArray, defers := [] } : Act).eval oi).run P w = .ok (.value v) w) (hS : S w) (ht : ts.set d v = ts')
    (h : wpAnyH P md ops Q S fuel (listed.setIfInBounds i true) { tmps := ts'.toArray, defers := [] } w) : wpAnyH P md ops Q S (fuel + 1) listed { tmps := ts.toArray, defers := [] } w := by
  refine wpAnyH_take hi hs hf hr hQ (.inl ⟨hw, hy⟩) hS ?_
  rw [hd, put_some, ht]
  exact h
/-- A long load is taken first. -/
theorem take_load (i : Nat) (d : Nat) (ty : TypeId) (x : Operand) (b o : Nat) (cs : List Value) (ts' : List Value) {oi : Oper} {dd : TypeDesc} (hi : ops[i]? = some oi) (hd : oi.dst = some d) (hs : Region.noSelect ops = true) (hf : Region.free md ops listed i = true) (hr : (Region.ready md ops listed).contains i = true)
    (hQ : ∀ c a w, Q (.panic c) (a.put oi.dst (.agg cs.toArray)) w → Q (.panic c) a w) (hw : Region.wanted oi (yielded ops ts.toArray) = true) (ho : oi.op = .load ty x) (hx : ({ tmps := ts.toArray, defers := [] } : Act).eval x = .pointer (some ⟨b, o, none⟩))
    (hc : ∀ w, S w → w.rangeAt b o cs) (hu : P.underlying ty = some dd) (hdd : dd.isRow = true) (hsz : (P.info? ty).map (·.size) = some cs.length) (hS : S w) (ht : ts.set d (.agg cs.toArray) = ts')
    (h : wpAnyH P md ops Q S fuel (listed.setIfInBounds i true) { tmps := ts'.toArray, defers := [] } w) : wpAnyH P md ops Q S (fuel + 1) listed { tmps := ts.toArray, defers := [] } w := by
  refine wpAnyH_take hi hs hf hr hQ (yieldsIf_load_mid hw ty x ho b o hx cs dd hc hu hdd hsz) hS ?_
  rw [hd, put_some, ht]
  exact h
end
end Go.Proofs.Ytemckjkdlbipcaa
