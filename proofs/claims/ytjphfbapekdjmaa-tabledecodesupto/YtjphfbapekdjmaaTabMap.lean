/- A map from numbers to fields, and one from fields to numbers, as functions: made, written, asked. -/
import Derived.Test.YtjphfbapekdjmaaTabAssign
import Derived.Maps.OwnSet
import Derived.Maps.OwnOps
import Derived.DeepKeys4
import Derived.MapViews
import Derived.Lib.SmallJoins
namespace Go.Proofs.Ytjphfbapekdjmaa
open Go.RowKit
open Go.Maps (Keyed)
set_option linter.unusedVariables false
set_option linter.unusedSimpArgs false
set_option maxRecDepth 100000

/-- What a field reads as. -/
def fd (p : Int × Int) : DataW Unit := .agg [.lit (.int .i64 p.1), .lit (.int .i64 p.2)]
abbrev fv (p : Int × Int) : Value := .agg #[.int .i64 p.1, .int .i64 p.2]
def fieldElem : Value → Option (DataW Unit × List MemPlace)
  | .agg cs => match cs.toList with
    | [.int .i64 a, .int .i64 b] => some (fd (a, b), [])
    | _ => none
  | _ => none
theorem fieldElem_mk (p : Int × Int) : fieldElem (fv p) = some (fd p, []) := rfl
theorem fieldElem_inv {v : Value} {p : Int × Int} {ps : List MemPlace} (h : fieldElem v = some (fd p, ps)) : v = fv p := by
  unfold fieldElem at h
  split at h
  · rename_i cs
    split at h
    · rename_i a b e
      simp only [Option.some.injEq, Prod.mk.injEq, fd, DataW.agg.injEq, List.cons.injEq, DataW.lit.injEq, Lit.int.injEq, true_and, and_true] at h
      obtain ⟨⟨h1, h2⟩, _⟩ := h
      have : cs = #[.int .i64 a, .int .i64 b] := by
        obtain ⟨l⟩ := cs
        simp at e
        rw [e]
      rw [this, fv, h1, h2]
    · cases h
  · cases h
abbrev WF (x : Int) : Prop := (Lit.int .i64 x).wf = true
theorem wf_of {x : Int} (h : -9223372036854775808 ≤ x ∧ x ≤ 9223372036854775807) : WF x := WalkArith.wf_i64 h

theorem keyInt : Keyed Try.prog 3 := Go.Maps.int_keyed Try.underlying3
theorem zeroField (w : World) : (zeroValue 48).run Try.prog w = .ok (fv (0, 0)) w := by kernel_rfl

/-- Block b is a map of at most n entries, s of them, that holds what f says. -/
def MapF (w : World) (b n : Nat) (f : Int → Option (Int × Int)) (s : Nat) : Prop :=
  ∃ D : DataW Unit, w.ownsMap Try.prog 3 fieldElem b n D ∧ Maps.size D = s ∧ ∀ x, WF x → Maps.has D (.int .i64 x) = (f x).isSome ∧ D.atKey (.int .i64 x) (fd (0, 0)) = fd ((f x).getD (0, 0))
def upd {α β : Type} [DecidableEq α] (f : α → Option β) (x : α) (p : β) : α → Option β := fun y => if y = x then some p else f y
section
variable {w w' : World} {b n s : Nat} {f : Int → Option (Int × Int)}
theorem MapF.made (w : World) : MapF (w.alloc (.map #[] 0)) w.heap.size 0 (fun _ => none) 0 :=
  ⟨.map [], World.ownsMap_made _ _ _ _, rfl, fun x hx => ⟨rfl, rfl⟩⟩
theorem MapF.lt (h : MapF w b n f s) : b < w.heap.size := by obtain ⟨D, h1, _⟩ := h; exact h1.lt
theorem MapF.below (h : MapF w b n f s) {C : Nat} (hb : Below C w w') (hC : b < C) : MapF w' b n f s := by
  have hlt := h.lt
  obtain ⟨D, ⟨es, clock, h1, h2⟩, h3⟩ := h
  exact ⟨D, ⟨es, clock, by rw [hb.block b hC]; exact h1, h2⟩, h3⟩
theorem MapF.store (h : MapF w b n f s) (hn : n < maxLen) {x : Int} (hx : WF x) (p : Int × Int) :
    ∃ w', (Instr.mapUpdate 43 (.map (some b)) (.int .i64 x) (fv p)).run Try.prog w = .ok () w' ∧ MapF w' b (n + 1) (upd f x p) (if (f x).isSome then s else s + 1) ∧ w.grownBy w' (some b) := by
  obtain ⟨D, h1, h2, h3⟩ := h
  have hT := h1.tidy keyInt
  obtain ⟨w', r1, r2, r3⟩ := h1.update keyInt Try.underlying43 hn (Maps.keyOf_int_mk Try.underlying3 hx) (fieldElem_mk p)
  refine ⟨w', r1, ⟨_, r2, ?_, fun y hy => ?_⟩, r3⟩
  · rw [Maps.size_put hT, (h3 x hx).1, h2]
  · by_cases e : y = x
    · subst e
      rw [Maps.has_put_same hT.isMap (by trivial), Maps.atKey_put_same hT.isMap (by trivial)]
      simp [upd]
    · have hne : Lit.int IntKind.i64 y ≠ Lit.int IntKind.i64 x := by simpa using e
      rw [Maps.has_put_other hne, Maps.atKey_put_other hne]
      simp only [upd, if_neg e]
      exact h3 y hy
theorem MapF.look (h : MapF w b n f s) {x : Int} (hx : WF x) :
    (Instr.lookup 43 (.map (some b)) (.int .i64 x) true).run Try.prog w = .ok (.tuple #[fv ((f x).getD (0, 0)), .bool (f x).isSome]) w := by
  obtain ⟨D, h1, h2, h3⟩ := h
  obtain ⟨v, ps, r1, r2⟩ := h1.look_ok keyInt Try.underlying43 (zeroField w) (fieldElem_mk (0, 0)) (Maps.keyOf_int_mk Try.underlying3 hx)
  rw [(h3 x hx).2] at r2
  rw [r1, fieldElem_inv r2, (h3 x hx).1]
theorem MapF.len (h : MapF w b n f s) (ty : TypeId) : (Builtin.len_ #[43] ty #[.map (some b)]).run Try.prog w = .ok (.int .i64 (s : Int)) w := by
  obtain ⟨D, h1, h2, h3⟩ := h
  rw [h1.len Try.underlying43 ty, h2]
/-- In a region: a store. -/
theorem step_mapF {ops : Array Oper} {o : Oper} {a : Act} {K : Act → World → Prop} {Q : Exit → Act → World → Prop} {E : Prop} (w : World) (hgd : Region.wanted o (yielded ops a.tmps) = true) (m x v : Operand)
    (ho : o.op = Op.mapUpdate 43 m x v) (b n : Nat) (f : Int → Option (Int × Int)) (s : Nat) (hm : a.eval m = .map (some b)) (H : MapF w b n f s) (hn : n < maxLen) (x0 : Int) (hx : a.eval x = .int .i64 x0) (hwf : WF x0)
    (p : Int × Int) (hv : a.eval v = fv p) (h : ∀ w', MapF w' b (n + 1) (upd f x0 p) (if (f x0).isSome then s else s + 1) → w.grownBy w' (some b) → K (a.put o.dst undef) w') :
    if Region.wanted o (yielded ops a.tmps) = true then Oper.wp Try.prog o a w K Q else E := by
  rw [if_pos hgd]
  obtain ⟨w', r1, r2, r3⟩ := H.store hn hwf p
  unfold Oper.wp
  simp [execOp, ho, hm, hx, hv, r1, Result.andThen]
  exact h w' r2 r3
/-- In a walk: a look-up. -/
theorem wpList_lookF {ops : Array Oper} {rest : List Oper} {o : Oper} {a : Act} {Q : Exit → Act → World → Prop} (w : World) (hg : o.guard = none) (m x : Operand) (hop : o.op = Op.lookup 43 m x true)
    (b n : Nat) (f : Int → Option (Int × Int)) (s : Nat) (hm : a.eval m = .map (some b)) (H : MapF w b n f s) (x0 : Int) (hx : a.eval x = .int .i64 x0) (hwf : WF x0) (p : Int × Int) (ok : Bool) (hp : (f x0).getD (0, 0) = p) (hok : (f x0).isSome = ok)
    (hK : wpList Try.prog ops Q rest (a.put o.dst (.tuple #[fv p, .bool ok])) w) : wpList Try.prog ops Q (o :: rest) a w := by
  refine wpList_plain hg fun K' hK' => ?_
  have := H.look hwf
  rw [hp, hok] at this
  unfold Oper.wp
  simp [execOp, hop, hm, hx, this, Result.andThen]
  exact hK' _ _ hK
end

theorem zeroInt (w : World) : (zeroValue 3).run Try.prog w = .ok (.int .i64 0) w := by kernel_rfl
/-! ### from fields to numbers -/
theorem wideField : (match Try.prog.underlying 48 with | some (.array _ _) | some (.struct _) => true | _ => false) = true := by kernel_rfl
theorem keyField : Keyed Try.prog 48 := Keyed.of_law (deep_law_laid (by kernel_rfl) (m := 2) (by omega) (of_decide_eq_true (by kernel_rfl)) (by kernel_rfl) wideField)
def kf (p : Int × Int) : Lit := (fd p).asKey
theorem field_key {p : Int × Int} (h1 : WF p.1) (h2 : WF p.2) : keyOf Try.prog 48 (fv p) = some (kf p) := by
  have hT : DataW.Trod (fun _ => ()) Try.prog default 0 (fun _ => true) true 48 (fv p) (.agg [(.lit (.int .i64 p.1)), (.lit (.int .i64 p.2))]) ([] ++ []) :=
    Go.Joins.shut_agg2 (y0 := (.lit (.int .i64 p.1), [])) (y1 := (.lit (.int .i64 p.2), [])) Try.underlying48 (by kernel_rfl) (by kernel_rfl) ⟨1, by simp [DataW.trod, Try.underlying3, h1]⟩ ⟨1, by simp [DataW.trod, Try.underlying3, h2]⟩
  have hf : (fv p).formed Try.prog 48 = true := by
    have hs : Try.prog.cellsOf 48 = 2 := by kernel_rfl
    simp [Value.formed, Try.underlying48, hs]
  exact (keyOf_asKey (by kernel_rfl) wideField hf hT).1
theorem kf_inj {p q : Int × Int} (h1 : WF p.1) (h2 : WF p.2) (h3 : WF q.1) (h4 : WF q.2) (h : kf p = kf q) : p = q := by
  have := keyField.inj (field_key h1 h2) (by rw [h]; exact field_key h3 h4)
  simp [fv] at this
  exact Prod.ext this.1 this.2
/-- Block b is a map of at most n entries that holds what f says. -/
def MapC (w : World) (b n : Nat) (f : Int × Int → Option Int) : Prop :=
  ∃ D : DataW Unit, w.ownsMap Try.prog 48 (plainElem Try.prog 3) b n D ∧ ∀ p : Int × Int, WF p.1 → WF p.2 → Maps.has D (kf p) = (f p).isSome ∧ D.atKey (kf p) (.lit (.int .i64 0)) = .lit (.int .i64 ((f p).getD 0))
section
variable {w w' : World} {b n : Nat} {f : Int × Int → Option Int}
theorem MapC.made (w : World) : MapC (w.alloc (.map #[] 0)) w.heap.size 0 (fun _ => none) :=
  ⟨.map [], World.ownsMap_made _ _ _ _, fun x hx _ => ⟨rfl, rfl⟩⟩
theorem MapC.lt (h : MapC w b n f) : b < w.heap.size := by obtain ⟨D, h1, _⟩ := h; exact h1.lt
theorem MapC.below (h : MapC w b n f) {C : Nat} (hb : Below C w w') (hC : b < C) : MapC w' b n f := by
  have hlt := h.lt
  obtain ⟨D, ⟨es, clock, h1, h2⟩, h3⟩ := h
  exact ⟨D, ⟨es, clock, by rw [hb.block b hC]; exact h1, h2⟩, h3⟩
theorem MapC.store (h : MapC w b n f) (hn : n < maxLen) {p : Int × Int} (h1 : WF p.1) (h2 : WF p.2) {x : Int} (hx : WF x) :
    ∃ w', (Instr.mapUpdate 59 (.map (some b)) (fv p) (.int .i64 x)).run Try.prog w = .ok () w' ∧ MapC w' b (n + 1) (upd f p x) ∧ w.grownBy w' (some b) := by
  obtain ⟨D, g1, g3⟩ := h
  have hT := g1.tidy keyField
  have hkl := keyField.key (field_key h1 h2)
  obtain ⟨w', r1, r2, r3⟩ := g1.update keyField Try.underlying59 hn (field_key h1 h2) (plainElem_int Try.underlying3 hx)
  refine ⟨w', r1, ⟨_, r2, fun q hq1 hq2 => ?_⟩, r3⟩
  by_cases e : q = p
  · subst e
    rw [Maps.has_put_same hT.isMap hkl, Maps.atKey_put_same hT.isMap hkl]
    simp [upd]
  · have hne : kf q ≠ kf p := fun h => e (kf_inj hq1 hq2 h1 h2 h)
    rw [Maps.has_put_other hne, Maps.atKey_put_other hne]
    simp only [upd, if_neg e]
    exact g3 q hq1 hq2
theorem MapC.look (h : MapC w b n f) {p : Int × Int} (h1 : WF p.1) (h2 : WF p.2) :
    (Instr.lookup 59 (.map (some b)) (fv p) true).run Try.prog w = .ok (.tuple #[.int .i64 ((f p).getD 0), .bool (f p).isSome]) w := by
  obtain ⟨D, g1, g3⟩ := h
  obtain ⟨v, ps, r1, r2⟩ := g1.look_ok keyField Try.underlying59 (zeroInt w) (plainElem_int Try.underlying3 (by decide)) (field_key h1 h2)
  rw [(g3 p h1 h2).2] at r2
  obtain ⟨c, rfl, hc, _⟩ := plainElem_int_inv Try.underlying3 r2
  simp only [Prod.mk.injEq, DataW.lit.injEq, Lit.int.injEq, true_and] at hc
  rw [r1, (g3 p h1 h2).1, hc.1]
/-- In a region: a store. -/
theorem step_mapC {ops : Array Oper} {o : Oper} {a : Act} {K : Act → World → Prop} {Q : Exit → Act → World → Prop} {E : Prop} (w : World) (hgd : Region.wanted o (yielded ops a.tmps) = true) (m x v : Operand)
    (ho : o.op = Op.mapUpdate 59 m x v) (b n : Nat) (f : Int × Int → Option Int) (hm : a.eval m = .map (some b)) (H : MapC w b n f) (hn : n < maxLen) (p : Int × Int) (hx : a.eval x = fv p) (h1 : WF p.1) (h2 : WF p.2)
    (x0 : Int) (hv : a.eval v = .int .i64 x0) (hwf : WF x0) (h : ∀ w', MapC w' b (n + 1) (upd f p x0) → w.grownBy w' (some b) → K (a.put o.dst undef) w') :
    if Region.wanted o (yielded ops a.tmps) = true then Oper.wp Try.prog o a w K Q else E := by
  rw [if_pos hgd]
  obtain ⟨w', r1, r2, r3⟩ := H.store hn h1 h2 hwf
  unfold Oper.wp
  simp [execOp, ho, hm, hx, hv, r1, Result.andThen]
  exact h w' r2 r3
/-- In a walk: a look-up. -/
theorem wpList_lookC {ops : Array Oper} {rest : List Oper} {o : Oper} {a : Act} {Q : Exit → Act → World → Prop} (w : World) (hg : o.guard = none) (m x : Operand) (hop : o.op = Op.lookup 59 m x true)
    (b n : Nat) (f : Int × Int → Option Int) (hm : a.eval m = .map (some b)) (H : MapC w b n f) (p : Int × Int) (hx : a.eval x = fv p) (h1 : WF p.1) (h2 : WF p.2) (y : Int) (ok : Bool) (hp : (f p).getD 0 = y) (hok : (f p).isSome = ok)
    (hK : wpList Try.prog ops Q rest (a.put o.dst (.tuple #[.int .i64 y, .bool ok])) w) : wpList Try.prog ops Q (o :: rest) a w := by
  refine wpList_plain hg fun K' hK' => ?_
  have := H.look h1 h2
  rw [hp, hok] at this
  unfold Oper.wp
  simp [execOp, hop, hm, hx, this, Result.andThen]
  exact hK' _ _ hK
end
end Go.Proofs.Ytjphfbapekdjmaa
