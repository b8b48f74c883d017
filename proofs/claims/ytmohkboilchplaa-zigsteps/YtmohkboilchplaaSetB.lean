/- A map from numbers to bools, as a function: made, written, asked. -/
import Derived.Test.YtmohkboilchplaaMem
import Derived.Test.YtmohkboilchplaaRows
import Derived.Maps.OwnSet
import Derived.Maps.OwnOps
import Derived.DeepKeys4
import Derived.MapViews
namespace Go.Proofs.Ytmohkboilchplaa
open Go.RowKit
open Go.Maps (Keyed)
set_option linter.unusedVariables false
set_option linter.unusedSimpArgs false

def boolElem : Value → Option (DataW Unit × List MemPlace)
  | .bool x => some (.lit (.bool x), [])
  | _ => none
theorem boolElem_inv {v : Value} {x : Bool} {ps : List MemPlace} (h : boolElem v = some (.lit (.bool x), ps)) : v = .bool x := by
  unfold boolElem at h
  split at h
  · simp at h; rw [h.1]
  · cases h
theorem keyIntB : Keyed Try.prog 3 := Go.Maps.int_keyed Try.underlying3
theorem zeroBool (w : World) : (zeroValue 4).run Try.prog w = .ok (.bool false) w := by kernel_rfl
/-- Block b is a map of at most n entries that holds true at the members of l alone. -/
def SetB (w : World) (b n : Nat) (l : List Int) : Prop :=
  ∃ D : DataW Unit, w.ownsMap Try.prog 3 boolElem b n D ∧ ∀ x, (Lit.int .i64 x).wf = true → D.atKey (.int .i64 x) (.lit (.bool false)) = .lit (.bool (decide (x ∈ l)))
theorem make_setB (w : World) : (Instr.makeMap 30 none).run Try.prog w = .ok (.map (some w.heap.size)) (w.alloc (.map #[] 0)) := by
  simp [Instr.makeMap, run_underlying Try.underlying30, asInt, newObj]
  rfl
section
variable {w w' : World} {b n : Nat} {l : List Int}
theorem SetB.made (w : World) : SetB (w.alloc (.map #[] 0)) w.heap.size 0 [] :=
  ⟨.map [], World.ownsMap_made _ _ _ _, fun x hx => rfl⟩
theorem SetB.lt (h : SetB w b n l) : b < w.heap.size := by obtain ⟨D, h1, _⟩ := h; exact h1.lt
theorem SetB.of (h : SetB w b n l) (hb : w'.heap[b]? = w.heap[b]?) : SetB w' b n l := by
  obtain ⟨D, ⟨es, clock, h1, h2⟩, h3⟩ := h
  exact ⟨D, ⟨es, clock, by rw [hb]; exact h1, h2⟩, h3⟩
theorem SetB.store (h : SetB w b n l) (hn : n < maxLen) {x : Int} (hx : (Lit.int .i64 x).wf = true) :
    ∃ w', (Instr.mapUpdate 30 (.map (some b)) (.int .i64 x) (.bool true)).run Try.prog w = .ok () w' ∧ SetB w' b (n + 1) (l ++ [x]) ∧ w.grownBy w' (some b) := by
  obtain ⟨D, h1, h3⟩ := h
  have hT := h1.tidy keyIntB
  obtain ⟨w', r1, r2, r3⟩ := h1.update keyIntB Try.underlying30 hn (Maps.keyOf_int_mk Try.underlying3 hx) (val := .bool true) (d := .lit (.bool true)) (ps := []) rfl
  refine ⟨w', r1, ⟨_, r2, fun y hy => ?_⟩, r3⟩
  by_cases e : y = x
  · subst e
    rw [Maps.atKey_put_same hT.isMap (by trivial)]
    simp
  · have hne : Lit.int IntKind.i64 y ≠ Lit.int IntKind.i64 x := by simpa using e
    rw [Maps.atKey_put_other hne, h3 y hy]
    simp [e]
theorem SetB.look (h : SetB w b n l) {x : Int} (hx : (Lit.int .i64 x).wf = true) :
    (Instr.lookup 30 (.map (some b)) (.int .i64 x) false).run Try.prog w = .ok (.bool (decide (x ∈ l))) w := by
  obtain ⟨D, h1, h3⟩ := h
  obtain ⟨v, ps, r1, r2⟩ := h1.lookup keyIntB Try.underlying30 (zeroBool w) (zd := .lit (.bool false)) (zp := []) rfl (Maps.keyOf_int_mk Try.underlying3 hx)
  rw [h3 x hx] at r2
  rw [r1, boolElem_inv r2]
end
end Go.Proofs.Ytmohkboilchplaa
