/- Texts shared by the claims of this seat, in one. -/
import Derived.Test.YtddkhkpdbjjboaaBd2
import Derived.Maps.OwnSet
import Derived.Maps.OwnOps
import Derived.DeepKeys4
import Derived.MapViews
import Derived.Lib.SmallJoins
import Derived.Test.YtddkhkpdbjjboaaBd1
import Derived.Test.YtddkhkpdbjjboaaRows
import Derived.Test.YtddkhkpdbjjboaaChecked
import Derived.Lib.OthersKept
/- A map from numbers to fields, and one from fields to numbers, as functions: made, written, asked. -/
namespace Go.Proofs.Ytddkhkpdbjjboaa
open Go.RowKit
open Go.Maps (Keyed)
set_option linter.unusedVariables false
set_option linter.unusedSimpArgs false
set_option maxRecDepth 100000

/-- What a field reads as. -/
def fd (p : Int × Int) : DataW Unit := .agg [.lit (.int .i64 p.1), .lit (.int .i64 p.2)]
abbrev fv (p : Int × Int) : Value := .agg #[.int .i64 p.1, .int .i64 p.2]
def fieldElem : Value → Option (DataW Unit × List MemPlace)
  | .agg cs => match cs.toList with
    | [.int .i64 a, .int .i64 b] => some (fd (a, b), [])
    | _ => none
  | _ => none
theorem fieldElem_mk (p : Int × Int) : fieldElem (fv p) = some (fd p, []) := rfl
theorem fieldElem_inv {v : Value} {p : Int × Int} {ps : List MemPlace} (h : fieldElem v = some (fd p, ps)) : v = fv p := by
  unfold fieldElem at h
  split at h
  · rename_i cs
    split at h
    · rename_i a b e
      simp only [Option.some.injEq, Prod.mk.injEq, fd, DataW.agg.injEq, List.cons.injEq, DataW.lit.injEq, Lit.int.injEq, true_and, and_true] at h
      obtain ⟨⟨h1, h2⟩, _⟩ := h
      have : cs = #[.int .i64 a, .int .i64 b] := by
        obtain ⟨l⟩ := cs
        simp at e
        rw [e]
      rw [this, fv, h1, h2]
    · cases h
  · cases h
abbrev WF (x : Int) : Prop := (Lit.int .i64 x).wf = true
theorem wf_of {x : Int} (h : -9223372036854775808 ≤ x ∧ x ≤ 9223372036854775807) : WF x := WalkArith.wf_i64 h

theorem keyInt : Keyed Try.prog 3 := Go.Maps.int_keyed Try.underlying3
theorem zeroField (w : World) : (zeroValue 78).run Try.prog w = .ok (fv (0, 0)) w := by kernel_rfl

/-- Block b is a map of at most n entries, s of them, that holds what f says. -/
def MapF (w : World) (b n : Nat) (f : Int → Option (Int × Int)) (s : Nat) : Prop :=
  ∃ D : DataW Unit, w.ownsMap Try.prog 3 fieldElem b n D ∧ Maps.size D = s ∧ ∀ x, WF x → Maps.has D (.int .i64 x) = (f x).isSome ∧ D.atKey (.int .i64 x) (fd (0, 0)) = fd ((f x).getD (0, 0))
def upd {α β : Type} [DecidableEq α] (f : α → Option β) (x : α) (p : β) : α → Option β := fun y => if y = x then some p else f y
section
variable {w w' : World} {b n s : Nat} {f : Int → Option (Int × Int)}
theorem MapF.made (w : World) : MapF (w.alloc (.map #[] 0)) w.heap.size 0 (fun _ => none) 0 :=
  ⟨.map [], World.ownsMap_made _ _ _ _, rfl, fun x hx => ⟨rfl, rfl⟩⟩
theorem MapF.lt (h : MapF w b n f s) : b < w.heap.size := by obtain ⟨D, h1, _⟩ := h; exact h1.lt
theorem MapF.below (h : MapF w b n f s) {C : Nat} (hb : Below C w w') (hC : b < C) : MapF w' b n f s := by
  have hlt := h.lt
  obtain ⟨D, ⟨es, clock, h1, h2⟩, h3⟩ := h
  exact ⟨D, ⟨es, clock, by rw [hb.block b hC]; exact h1, h2⟩, h3⟩
theorem MapF.store (h : MapF w b n f s) (hn : n < maxLen) {x : Int} (hx : WF x) (p : Int × Int) :
    ∃ w', (Instr.mapUpdate 68 (.map (some b)) (.int .i64 x) (fv p)).run Try.prog w = .ok () w' ∧ MapF w' b (n + 1) (upd f x p) (if (f x).isSome then s else s + 1) ∧ w.grownBy w' (some b) := by
  obtain ⟨D, h1, h2, h3⟩ := h
  have hT := h1.tidy keyInt
  obtain ⟨w', r1, r2, r3⟩ := h1.update keyInt Try.underlying68 hn (Maps.keyOf_int_mk Try.underlying3 hx) (fieldElem_mk p)
  refine ⟨w', r1, ⟨_, r2, ?_, fun y hy => ?_⟩, r3⟩
  · rw [Maps.size_put hT, (h3 x hx).1, h2]
  · by_cases e : y = x
    · subst e
      rw [Maps.has_put_same hT.isMap (by trivial), Maps.atKey_put_same hT.isMap (by trivial)]
      simp [upd]
    · have hne : Lit.int IntKind.i64 y ≠ Lit.int IntKind.i64 x := by simpa using e
      rw [Maps.has_put_other hne, Maps.atKey_put_other hne]
      simp only [upd, if_neg e]
      exact h3 y hy
theorem MapF.look (h : MapF w b n f s) {x : Int} (hx : WF x) :
    (Instr.lookup 68 (.map (some b)) (.int .i64 x) true).run Try.prog w = .ok (.tuple #[fv ((f x).getD (0, 0)), .bool (f x).isSome]) w := by
  obtain ⟨D, h1, h2, h3⟩ := h
  obtain ⟨v, ps, r1, r2⟩ := h1.look_ok keyInt Try.underlying68 (zeroField w) (fieldElem_mk (0, 0)) (Maps.keyOf_int_mk Try.underlying3 hx)
  rw [(h3 x hx).2] at r2
  rw [r1, fieldElem_inv r2, (h3 x hx).1]
theorem MapF.len (h : MapF w b n f s) (ty : TypeId) : (Builtin.len_ #[68] ty #[.map (some b)]).run Try.prog w = .ok (.int .i64 (s : Int)) w := by
  obtain ⟨D, h1, h2, h3⟩ := h
  rw [h1.len Try.underlying68 ty, h2]
/-- In a walk: a look-up. -/
theorem wpList_lookF {ops : Array Oper} {rest : List Oper} {o : Oper} {a : Act} {Q : Exit → Act → World → Prop} (w : World) (hg : o.guard = none) (m x : Operand) (hop : o.op = Op.lookup 68 m x true)
    (b n : Nat) (f : Int → Option (Int × Int)) (s : Nat) (hm : a.eval m = .map (some b)) (H : MapF w b n f s) (x0 : Int) (hx : a.eval x = .int .i64 x0) (hwf : WF x0) (p : Int × Int) (ok : Bool) (hp : (f x0).getD (0, 0) = p) (hok : (f x0).isSome = ok)
    (hK : wpList Try.prog ops Q rest (a.put o.dst (.tuple #[fv p, .bool ok])) w) : wpList Try.prog ops Q (o :: rest) a w := by
  refine wpList_plain hg fun K' hK' => ?_
  have := H.look hwf
  rw [hp, hok] at this
  unfold Oper.wp
  simp [execOp, hop, hm, hx, this, Result.andThen]
  exact hK' _ _ hK
end

theorem zeroInt (w : World) : (zeroValue 3).run Try.prog w = .ok (.int .i64 0) w := by kernel_rfl
/-! ### from fields to numbers -/
theorem wideField : (match Try.prog.underlying 78 with | some (.array _ _) | some (.struct _) => true | _ => false) = true := by kernel_rfl
theorem keyField : Keyed Try.prog 78 := Keyed.of_law (deep_law_laid (by kernel_rfl) (m := 2) (by omega) (of_decide_eq_true (by kernel_rfl)) (by kernel_rfl) wideField)
def kf (p : Int × Int) : Lit := (fd p).asKey
theorem field_key {p : Int × Int} (h1 : WF p.1) (h2 : WF p.2) : keyOf Try.prog 78 (fv p) = some (kf p) := by
  have hT : DataW.Trod (fun _ => ()) Try.prog default 0 (fun _ => true) true 78 (fv p) (.agg [(.lit (.int .i64 p.1)), (.lit (.int .i64 p.2))]) ([] ++ []) :=
    Go.Joins.shut_agg2 (y0 := (.lit (.int .i64 p.1), [])) (y1 := (.lit (.int .i64 p.2), [])) Try.underlying78 (by kernel_rfl) (by kernel_rfl) ⟨1, by simp [DataW.trod, Try.underlying3, h1]⟩ ⟨1, by simp [DataW.trod, Try.underlying3, h2]⟩
  have hf : (fv p).formed Try.prog 78 = true := by
    have hs : Try.prog.cellsOf 78 = 2 := by kernel_rfl
    simp [Value.formed, Try.underlying78, hs]
  exact (keyOf_asKey (by kernel_rfl) wideField hf hT).1
theorem kf_inj {p q : Int × Int} (h1 : WF p.1) (h2 : WF p.2) (h3 : WF q.1) (h4 : WF q.2) (h : kf p = kf q) : p = q := by
  have := keyField.inj (field_key h1 h2) (by rw [h]; exact field_key h3 h4)
  simp [fv] at this
  exact Prod.ext this.1 this.2
/-- Block b is a map of at most n entries that holds what f says. -/
def MapC (w : World) (b n : Nat) (f : Int × Int → Option Int) : Prop :=
  ∃ D : DataW Unit, w.ownsMap Try.prog 78 (plainElem Try.prog 3) b n D ∧ ∀ p : Int × Int, WF p.1 → WF p.2 → Maps.has D (kf p) = (f p).isSome ∧ D.atKey (kf p) (.lit (.int .i64 0)) = .lit (.int .i64 ((f p).getD 0))
section
variable {w w' : World} {b n : Nat} {f : Int × Int → Option Int}
theorem MapC.made (w : World) : MapC (w.alloc (.map #[] 0)) w.heap.size 0 (fun _ => none) :=
  ⟨.map [], World.ownsMap_made _ _ _ _, fun x hx _ => ⟨rfl, rfl⟩⟩
theorem MapC.lt (h : MapC w b n f) : b < w.heap.size := by obtain ⟨D, h1, _⟩ := h; exact h1.lt
theorem MapC.below (h : MapC w b n f) {C : Nat} (hb : Below C w w') (hC : b < C) : MapC w' b n f := by
  have hlt := h.lt
  obtain ⟨D, ⟨es, clock, h1, h2⟩, h3⟩ := h
  exact ⟨D, ⟨es, clock, by rw [hb.block b hC]; exact h1, h2⟩, h3⟩
theorem MapC.store (h : MapC w b n f) (hn : n < maxLen) {p : Int × Int} (h1 : WF p.1) (h2 : WF p.2) {x : Int} (hx : WF x) :
    ∃ w', (Instr.mapUpdate 102 (.map (some b)) (fv p) (.int .i64 x)).run Try.prog w = .ok () w' ∧ MapC w' b (n + 1) (upd f p x) ∧ w.grownBy w' (some b) := by
  obtain ⟨D, g1, g3⟩ := h
  have hT := g1.tidy keyField
  have hkl := keyField.key (field_key h1 h2)
  obtain ⟨w', r1, r2, r3⟩ := g1.update keyField Try.underlying102 hn (field_key h1 h2) (plainElem_int Try.underlying3 hx)
  refine ⟨w', r1, ⟨_, r2, fun q hq1 hq2 => ?_⟩, r3⟩
  by_cases e : q = p
  · subst e
    rw [Maps.has_put_same hT.isMap hkl, Maps.atKey_put_same hT.isMap hkl]
    simp [upd]
  · have hne : kf q ≠ kf p := fun h => e (kf_inj hq1 hq2 h1 h2 h)
    rw [Maps.has_put_other hne, Maps.atKey_put_other hne]
    simp only [upd, if_neg e]
    exact g3 q hq1 hq2
theorem MapC.look (h : MapC w b n f) {p : Int × Int} (h1 : WF p.1) (h2 : WF p.2) :
    (Instr.lookup 102 (.map (some b)) (fv p) true).run Try.prog w = .ok (.tuple #[.int .i64 ((f p).getD 0), .bool (f p).isSome]) w := by
  obtain ⟨D, g1, g3⟩ := h
  obtain ⟨v, ps, r1, r2⟩ := g1.look_ok keyField Try.underlying102 (zeroInt w) (plainElem_int Try.underlying3 (by decide)) (field_key h1 h2)
  rw [(g3 p h1 h2).2] at r2
  obtain ⟨c, rfl, hc, _⟩ := plainElem_int_inv Try.underlying3 r2
  simp only [Prod.mk.injEq, DataW.lit.injEq, Lit.int.injEq, true_and] at hc
  rw [r1, (g3 p h1 h2).1, hc.1]
/-- In a walk: a look-up. -/
theorem wpList_lookC {ops : Array Oper} {rest : List Oper} {o : Oper} {a : Act} {Q : Exit → Act → World → Prop} (w : World) (hg : o.guard = none) (m x : Operand) (hop : o.op = Op.lookup 102 m x true)
    (b n : Nat) (f : Int × Int → Option Int) (hm : a.eval m = .map (some b)) (H : MapC w b n f) (p : Int × Int) (hx : a.eval x = fv p) (h1 : WF p.1) (h2 : WF p.2) (y : Int) (ok : Bool) (hp : (f p).getD 0 = y) (hok : (f p).isSome = ok)
    (hK : wpList Try.prog ops Q rest (a.put o.dst (.tuple #[.int .i64 y, .bool ok])) w) : wpList Try.prog ops Q (o :: rest) a w := by
  refine wpList_plain hg fun K' hK' => ?_
  have := H.look h1 h2
  rw [hp, hok] at this
  unfold Oper.wp
  simp [execOp, hop, hm, hx, this, Result.andThen]
  exact hK' _ _ hK
end
end Go.Proofs.Ytddkhkpdbjjboaa

/- table.field, table.bySymbol, table.byCodeword: their contracts. -/
namespace Go.Proofs.Ytddkhkpdbjjboaa
open Go.RowKit
set_option linter.unusedVariables false
set_option linter.unusedSimpArgs false
set_option maxRecDepth 100000

theorem World.size_alloc' (w : World) (o : Obj) : (w.alloc o).heap.size = w.heap.size + 1 := by simp
theorem cell_far {w w' : World} {b g o : Nat} {v : Value} (h : w.grownBy w' (some b)) (hne : g ≠ b) (hc : w.cell? ⟨g, o, none⟩ = some v) : w'.cell? ⟨g, o, none⟩ = some v := by
  have hlt := World.block_lt_of_cell? w _ hc
  have := h.block g hlt (by simpa using hne)
  simp only [World.cell?] at hc ⊢
  rw [this]; exact hc
theorem field_any (s n c : Int) (w : World) : Calls Try.prog 72 #[.agg #[.int .i64 s, .int .i64 n, .int .i64 c]] w fun e w' => e = .returned (fv (n, c)) ∧ Below w.heap.size w w' := by
  go_enter Try.func72, Try.ntmps72
  go_wp2
  exact bodyPost_ret (v := fv (n, c)) (results_cell_row rfl _ _ (w.heap.size + 1) 78 #[.int .i64 n, .int .i64 c] (0, 0) _ rfl (by rw [← World.size_alloc' w (.cells #[.int .i64 s, .int .i64 n, .int .i64 c] 138)]; exact heap_alloc_new _ _) Try.underlying78 rfl (by kernel_rfl)) rfl ⟨rfl, below2 _ _ _⟩

abbrev fi (t : Int × Nat × Nat) : Int × Int := ((t.2.1 : Int), (t.2.2 : Int))
def symGo (ws : List (Int × Nat × Nat)) : (Int → Option (Int × Int)) × Nat := ws.foldl (fun st t => (upd st.1 t.1 (fi t), if (st.1 t.1).isSome then st.2 else st.2 + 1)) (fun _ => none, 0)
def symF (ws : List (Int × Nat × Nat)) : Int → Option (Int × Int) := (symGo ws).1
def symS (ws : List (Int × Nat × Nat)) : Nat := (symGo ws).2
theorem symF_snoc (ws : List (Int × Nat × Nat)) (t : Int × Nat × Nat) : symF (ws ++ [t]) = upd (symF ws) t.1 (fi t) := by simp [symF, symGo]
theorem symS_snoc (ws : List (Int × Nat × Nat)) (t : Int × Nat × Nat) : symS (ws ++ [t]) = if (symF ws t.1).isSome then symS ws else symS ws + 1 := by unfold symS symF symGo; rw [List.foldl_append]; rfl
def codeF (ws : List (Int × Nat × Nat)) : Int × Int → Option Int := ws.foldl (fun f t => upd f (fi t) t.1) (fun _ => none)
theorem codeF_snoc (ws : List (Int × Nat × Nat)) (t : Int × Nat × Nat) : codeF (ws ++ [t]) = upd (codeF ws) (fi t) t.1 := by simp [codeF]

theorem make_map (n : Nat) (w : World) : (Instr.makeMap 68 (some (.int .i64 (n : Int)))).run Try.prog w = .ok (.map (some w.heap.size)) (w.alloc (.map #[] 0)) := by
  simp [Instr.makeMap, run_underlying Try.underlying68, asInt, newObj]
  rfl
set_option maxRecDepth 100000 in
set_option maxHeartbeats 2000000 in
theorem bySymbol_any (A : Option Addr) (c G : Nat) (ws : List (Int × Nat × Nat)) (w : World) (hs : Seen w G A (tripleCells ws)) (hG : G ≤ w.heap.size) (hl : ws.length ≤ 1048576) (hwf : ∀ t ∈ ws, WF t.1) :
    Calls Try.prog 60 #[.slice A ws.length c] w fun e w' => ∃ b, e = .returned (.map (some b)) ∧ w.heap.size ≤ b ∧ MapF w' b ws.length (symF ws) (symS ws) ∧ Below w.heap.size w w' := by
  have hmm := make_map ws.length w
  have Hwf := veil hwf; clear hwf
  go_enter Try.func60, Try.ntmps60
  go_wp2_with fail
  go_loopg [5, 11] ws.length (fun gk p i wr => ∃ k : Nat, gk = ws.length - k ∧ k ≤ ws.length ∧ i = .int .i64 k ∧ MapF wr w.heap.size k (symF (ws.take k)) (symS (ws.take k)) ∧ Below w.heap.size w wr)
  case atStart => exact ⟨0, rfl, Nat.zero_le _, rfl, MapF.made w, below1 _ _⟩
  case round =>
    obtain ⟨k, rfl, hk, rfl, HM, hbel⟩ := hrel
    by_cases hlt : k < ws.length
    · obtain ⟨g, o, s, n, cd, rfl, hg, hx, h1, h2, h3⟩ := hs.triple hlt
      have hz := hbel.size
      rw [← hbel.cell (by simp; omega)] at h1 h2 h3
      have Hx := veil hx; clear hx
      go_wp2_with fail
      have hlen : k < maxLen := by unfold maxLen; omega
      have hwx : WF s := Hwf.out _ (List.mem_of_getElem? Hx.out)
      have Hwx := veil hwx; clear hwx
      have hne : wr.heap.size ≠ w.heap.size := by have := HM.lt; omega
      have HM2 := HM.below (below1 wr (Obj.cells #[Value.int IntKind.i64 s, Value.int IntKind.i64 (n : Int), Value.int IntKind.i64 (cd : Int)] 138)) HM.lt
      have hbel2 := hbel.trans ((below1 wr (Obj.cells #[Value.int IntKind.i64 s, Value.int IntKind.i64 (n : Int), Value.int IntKind.i64 (cd : Int)] 138)).mono hz)
      have c0 : (wr.alloc (Obj.cells #[Value.int IntKind.i64 s, Value.int IntKind.i64 (n : Int), Value.int IntKind.i64 (cd : Int)] 138)).cell? ⟨wr.heap.size, 0, none⟩ = some (.int .i64 s) := by simp
      have c1 : (wr.alloc (Obj.cells #[Value.int IntKind.i64 s, Value.int IntKind.i64 (n : Int), Value.int IntKind.i64 (cd : Int)] 138)).cell? ⟨wr.heap.size, 1, none⟩ = some (.int .i64 (n : Int)) := by simp
      have c2 : (wr.alloc (Obj.cells #[Value.int IntKind.i64 s, Value.int IntKind.i64 (n : Int), Value.int IntKind.i64 (cd : Int)] 138)).cell? ⟨wr.heap.size, 2, none⟩ = some (.int .i64 (cd : Int)) := by simp
      have hsz : wr.heap.size < (wr.alloc (Obj.cells #[Value.int IntKind.i64 s, Value.int IntKind.i64 (n : Int), Value.int IntKind.i64 (cd : Int)] 138)).heap.size := by simp
      generalize wr.alloc (Obj.cells #[Value.int IntKind.i64 s, Value.int IntKind.i64 (n : Int), Value.int IntKind.i64 (cd : Int)] 138) = W at *
      clear h1 h2 h3 HM hbel hs
      generalize wr.heap.size = B at *
      go_region_held3 (fun w' => w'.cell? ⟨B, 0, none⟩ = some (.int .i64 s) ∧ w'.cell? ⟨B, 1, none⟩ = some (.int .i64 (n : Int)) ∧ w'.cell? ⟨B, 2, none⟩ = some (.int .i64 (cd : Int)))
        (first
          | go_keep
          | (go_split_ands
             refine ⟨?_, ?_, ?_⟩
             · (first | (refine (hb1.cell hsz).trans ?_; assumption) | (refine cell_far hgr2 hne ?_; assumption))
             · (first | (refine (hb1.cell hsz).trans ?_; assumption) | (refine cell_far hgr2 hne ?_; assumption))
             · (first | (refine (hb1.cell hsz).trans ?_; assumption) | (refine cell_far hgr2 hne ?_; assumption))))
        (first
          | (go_at_call 72; refine (field_any s n cd _).mono ?_; rintro e w1 ⟨rfl, hb1⟩; obtain ⟨w2, hup, HM3, hgr2⟩ := (HM2.below (below_of_drew hb1) HM2.lt).store hlen Hwx.out ((n : Int), (cd : Int)))
          | fail)
      have hbel3 : Below w.heap.size w w2 := (hbel2.trans ((below_of_drew hb1).mono hbel2.size)).grown hgr2 (Nat.le_trans hbel2.size hb1.size) (fun j hj => by injection hj with hj; omega)
      have HM4 : MapF w2 w.heap.size (k + 1) (symF (ws.take (k + 1))) (symS (ws.take (k + 1))) := by
        rw [take_snoc Hx.out, symF_snoc, symS_snoc]; exact HM3
      clear HM2 HM3 hup hbel2 hb1 hgr2
      go_wp2_with fail
      go_roundg (ws.length - (k + 1))
      case rel => exact ⟨k + 1, rfl, by omega, by go_num, HM4, hbel3⟩
      case measure => omega
    · obtain rfl : k = ws.length := by omega
      rw [List.take_length] at HM
      go_wp2
      go_ret
      exact ⟨_, rfl, Nat.le_refl _, HM, hbel⟩
end Go.Proofs.Ytddkhkpdbjjboaa

/- table.Check and table.Words: their contracts. -/
namespace Go.Proofs.Ytddkhkpdbjjboaa
open Go.RowKit
set_option linter.unusedVariables false
set_option linter.unusedSimpArgs false
set_option maxRecDepth 100000

def nats (cs : List Int) : List Nat := cs.map Int.toNat
theorem nats_length (cs : List Int) : (nats cs).length = cs.length := by simp [nats]
theorem natI_nats {cs : List Int} (h : ∀ x ∈ cs, 0 ≤ x) : natI (nats cs) = cs := by
  unfold natI nats
  rw [List.map_map]
  conv => rhs; rw [← List.map_id cs]
  refine List.map_congr_left fun x hx => ?_
  have := h x hx
  simp; omega
theorem nats_sum {cs : List Int} (h : ∀ x ∈ cs, 0 ≤ x) : ((nats cs).sum : Int) = sumW cs := by
  induction cs with
  | nil => rfl
  | cons x l ih =>
    have h1 := ih fun y hy => h y (by simp [hy])
    have h2 := h x (by simp)
    simp [nats, sumW] at h1 ⊢
    omega
def SymOk (syms : List Int) : Prop := ∀ s ∈ syms, 0 ≤ s ∧ s ≤ 255
instance (syms : List Int) : Decidable (SymOk syms) := by unfold SymOk; infer_instance
/-- What Check says. -/
def checkErr (cs syms : List Int) : Int :=
  if Good cs syms.length then if SymOk syms then if (codes (nats cs)).isSome = true ∧ syms.Nodup then 0 else 4 else 1 else 4
theorem checkErr_form {cs syms : List Int} (h : ¬ Good cs syms.length) : checkErr cs syms = 4 := by unfold checkErr; rw [if_neg h]
theorem checkErr_arg {cs syms : List Int} (h : Good cs syms.length) (h2 : ¬ SymOk syms) : checkErr cs syms = 1 := by unfold checkErr; rw [if_pos h, if_neg h2]
theorem checkErr_bad {cs syms : List Int} (h : Good cs syms.length) (h2 : SymOk syms) (h3 : ¬ ((codes (nats cs)).isSome = true ∧ syms.Nodup)) : checkErr cs syms = 4 := by unfold checkErr; rw [if_pos h, if_pos h2, if_neg h3]
theorem checkErr_ok {cs syms : List Int} (h : Good cs syms.length) (h2 : SymOk syms) (h3 : (codes (nats cs)).isSome = true) (h4 : syms.Nodup) : checkErr cs syms = 0 := by unfold checkErr; rw [if_pos h, if_pos h2, if_pos ⟨h3, h4⟩]
theorem checkErr_zero {cs syms : List Int} (h : checkErr cs syms = 0) : Good cs syms.length ∧ SymOk syms ∧ (codes (nats cs)).isSome = true ∧ syms.Nodup := by
  unfold checkErr at h
  split at h
  · rename_i h1
    split at h
    · rename_i h2
      split at h
      · rename_i h3
        exact ⟨h1, h2, h3.1, h3.2⟩
      · cases h
    · cases h
  · cases h
/-! ### how many symbols a map of them has -/
theorem snoc_ind {α : Type} {p : List α → Prop} (h0 : p []) (h1 : ∀ l a, p l → p (l ++ [a])) (l : List α) : p l := by
  have key : ∀ n (l : List α), l.length = n → p l := by
    intro n
    induction n with
    | zero => intro l h; rw [List.length_eq_zero_iff.1 h]; exact h0
    | succ n ih =>
      intro l h
      obtain ⟨a, b, rfl⟩ := list_snoc l (by intro e; rw [e] at h; cases h)
      exact h1 a b (ih a (by simp at h; omega))
  exact key _ l rfl
theorem symF_some (ws : List (Int × Nat × Nat)) (x : Int) : (symF ws x).isSome = true ↔ x ∈ ws.map (·.1) := by
  induction ws using snoc_ind with
  | h0 => simp [symF, symGo]
  | h1 ws t ih =>
    rw [symF_snoc]
    unfold upd
    by_cases e : x = t.1
    · subst e; simp
    · rw [if_neg e, ih]; simp [e]
theorem symS_nodup (ws : List (Int × Nat × Nat)) : symS ws ≤ ws.length ∧ (symS ws = ws.length ↔ (ws.map (·.1)).Nodup) := by
  induction ws using snoc_ind with
  | h0 => simp [symS, symGo]
  | h1 ws t ih =>
    rw [symS_snoc]
    by_cases h : (symF ws t.1).isSome = true
    · rw [if_pos h]
      have h2 := (symF_some ws t.1).1 h
      refine ⟨by simp; omega, ⟨fun e => by simp at e; omega, fun e => ?_⟩⟩
      rw [List.map_append, List.nodup_append] at e
      exact absurd rfl (e.2.2 _ h2 t.1 (by simp))
    · rw [if_neg h]
      have h2 : t.1 ∉ ws.map (·.1) := fun e => h ((symF_some ws t.1).2 e)
      refine ⟨by simp; omega, ?_⟩
      rw [List.map_append, List.nodup_append, List.length_append, ← ih.2]
      simp only [List.length_cons, List.length_nil, Nat.add_right_cancel_iff]
      refine ⟨fun e => ⟨by omega, by simp, fun a ha b hb => ?_⟩, fun e => by omega⟩
      simp at hb
      subst hb
      intro e2
      subst e2
      exact h2 ha
/-- What a good table gives. -/
structure Fine (cs syms : List Int) (l : List (Nat × Nat)) : Prop where
  good : Good cs syms.length
  ok : SymOk syms
  code : codes (nats cs) = some l
  nodup : syms.Nodup
theorem mkWords_fst {syms : List Int} {l : List (Nat × Nat)} (h : l.length = syms.length) : (mkWords syms l).map (·.1) = syms := by
  unfold mkWords
  apply List.ext_getElem?
  intro i
  rw [List.getElem?_map, List.getElem?_zipWith]
  by_cases hi : i < syms.length
  · rw [List.getElem?_eq_getElem hi, List.getElem?_eq_getElem (by omega : i < l.length)]; rfl
  · rw [List.getElem?_eq_none (by omega : syms.length ≤ i)]; rfl
theorem Good.sum {cs : List Int} {n : Nat} (h : Good cs n) : (nats cs).sum = n := by
  have := nats_sum h.1; have := h.2.2; omega
theorem Good.le {cs : List Int} {n : Nat} (h : Good cs n) : n ≤ 256 := by have := h.2.1; have := h.2.2; omega
theorem notSym {syms : List Int} {k : Nat} {x : Int} (hx : syms[k]? = some x) (h : x < 0 ∨ 255 < x) : ¬ SymOk syms := fun e => by have := e x (List.mem_of_getElem? hx); omega

set_option maxRecDepth 100000 in
set_option maxHeartbeats 2000000 in
theorem check_any (cs syms : List Int) (A : Option Addr) (c G : Nat) (w : World) (hcs : cs.length = 16) (hn : syms.length ≤ maxLen) (hb : ∀ x ∈ cs, -9223372036854775808 ≤ x ∧ x ≤ 9223372036854775807) (hs : Seen w G A (ints .i64 syms)) (hG : G ≤ w.heap.size) :
    Calls Try.prog 38 #[tabV cs A syms.length c] w fun e w' => e = .returned (.int .i64 (checkErr cs syms)) ∧ Below w.heap.size w w' := by
  have h16 : (tabCells cs A syms.length c)[16]? = some (.slice A syms.length c) := tabCells_last hcs
  have hlen17 : (tabCells cs A syms.length c).length = 17 := tabCells_length hcs
  have hcm := fun w => countsMatch_any cs A syms.length c w hcs hn hb
  have has : Hid (Good cs syms.length → ∀ w1, Seen w1 G A (ints .i64 syms) → G ≤ w1.heap.size → Calls Try.prog 65 #[tabV cs A syms.length c] w1 fun e w' => ∃ v, e = .returned (.tuple #[v, .bool (codes (nats cs)).isSome]) ∧ Owns w1.heap.size [wordRow v (tabWords (nats cs) syms)] w' ∧ Below w1.heap.size w1 w') := by
    show _ → _
    intro hg w1 hs1 hG1
    have := assign_any (nats cs) syms A c G w1 (by rw [nats_length]; exact hcs) hg.sum hg.le hs1 hG1
    rw [natI_nats hg.1] at this
    exact this
  unfold maxLen at hn
  have Hcs := veil hcs; have Hb := veil hb
  clear hcs hb
  obtain ⟨xs, hxs⟩ : ∃ xs, xs = tabCells cs A syms.length c := ⟨_, rfl⟩
  have Hr := veil (range_new w xs 25)
  unfold tabV at hcm has ⊢
  rw [← hxs] at h16 hlen17 hcm has ⊢
  clear hxs
  have Hcm := veil hcm; clear hcm
  have H17 := veil hlen17; clear hlen17
  by_cases hgood : Good cs syms.length
  · have hgb : goodB cs syms.length = true := goodB_iff.2 hgood
    have h256 := hgood.le
    have Hg := veil hgood; clear hgood
    have Hgb := veil hgb; clear hgb
    go_enter Try.func38, Try.ntmps38
    go_wp2_with (first
      | (refine wpList_load_mid rfl 25 (.tmp 1) rfl w.heap.size 0 rfl xs _ Hr.out Try.underlying25 rfl (by rw [H17.out]; exact info_tab) ?_)
      | fail)
    refine (Hcm.out _).mono ?_
    rintro e w1 ⟨rfl, hb1⟩
    rw [Hgb.out]
    have c16 : w1.cell? ⟨w.heap.size, 16, none⟩ = some (.slice A syms.length c) := by
      rw [hb1.cell (by simp), World.cell?_alloc_at _ _ _ _ rfl]; simpa using h16
    have hr1 : w1.rangeAt w.heap.size 0 xs := range_below Hr.out hb1 (by simp)
    have hbel1 : Below w.heap.size w w1 := (below1 _ _).trans (hb1.mono (by simp))
    have hz1 := hb1.size
    simp at hz1
    have Hr1 := veil hr1
    clear Hr hr1 hb1 h16
    go_wp2_with fail
    go_loopg [4, 13] syms.length (fun gk x i wr => ∃ k : Nat, gk = syms.length - k ∧ k ≤ syms.length ∧ i = .int .i64 k ∧ Hid (∀ s ∈ syms.take k, 0 ≤ s ∧ s ≤ 255) ∧ wr = w1)
    case atStart => exact ⟨0, rfl, Nat.zero_le _, rfl, veil (by simp), rfl⟩
    case round =>
      obtain ⟨k, rfl, hk, rfl, HP, rfl⟩ := hrel
      by_cases hlt : k < syms.length
      · obtain ⟨g, o, x, rfl, hg, hx, h1⟩ := hs.int hlt
        rw [← hbel1.cell (by simp; omega)] at h1
        have Hx := veil hx; clear hx
        by_cases hx0 : x < 0
        · have He := veil (checkErr_arg Hg.out (notSym Hx.out (.inl hx0)))
          go_wp2
          go_ret
          exact ⟨by rw [He.out]; rfl, hbel1⟩
        · by_cases hx1 : 255 < x
          · have He := veil (checkErr_arg Hg.out (notSym Hx.out (.inr hx1)))
            go_wp2
            go_ret
            exact ⟨by rw [He.out]; rfl, hbel1⟩
          · go_wp2
            go_roundg (syms.length - (k + 1))
            case rel => exact ⟨k + 1, rfl, by omega, by go_num, veil (mem_snoc Hx.out HP.out (by omega)), rfl⟩
            case measure => omega
      · obtain rfl : k = syms.length := by omega
        have hsok : SymOk syms := by have := HP.out; rw [List.take_length] at this; exact this
        have Hs := veil hsok; clear hsok
        go_wp2_with (first
          | (refine wpList_load_mid rfl 25 (.tmp 1) rfl w.heap.size 0 rfl xs _ Hr1.out Try.underlying25 rfl (by rw [H17.out]; exact info_tab) ?_)
          | fail)
        refine (has.out Hg.out _ (hs.below hbel1 hG) (by omega)).mono ?_
        rintro e w2 ⟨v, rfl, HO, hb2⟩
        have hbel2 := hbel1.trans (hb2.mono (by omega))
        cases hco : codes (nats cs) with
        | none =>
          have He := veil (checkErr_bad Hg.out Hs.out (fun h => by rw [hco] at h; cases h.1))
          simp only [Option.isSome_none]
          go_wp2
          go_ret
          exact ⟨by rw [He.out]; rfl, hbel2⟩
        | some l =>
          simp only [Option.isSome_some]
          have hll : l.length = syms.length := (codes_length hco).trans Hg.out.sum
          have hw : tabWords (nats cs) syms = mkWords syms l := by unfold tabWords; rw [hco]; rfl
          rw [hw] at HO
          have hwl : (mkWords syms l).length = syms.length := by rw [mkWords_length _ _ (by omega), hll]
          have hfst := mkWords_fst hll
          have hnd := symS_nodup (mkWords syms l)
          rw [hfst] at hnd
          have hwf : ∀ t ∈ mkWords syms l, WF t.1 := by
            intro t ht
            have h1 : t.1 ∈ syms := by rw [← hfst]; exact List.mem_map_of_mem ht
            have := Hs.out _ h1
            exact wf_of (by omega)
          have Hwf := veil hwf
          obtain ⟨A5, c5, e5, hs5, _, _⟩ := HO.seen (List.mem_cons_self ..)
          simp only [wordRow] at e5 hs5
          rw [hwl] at e5 hnd
          subst e5
          have Hwl := veil hwl; have Hnd := veil hnd; have Hco := veil hco
          clear hwl hnd hfst hw hll hwf hco HO
          have hby := fun w0 (h : Seen w0 w2.heap.size A5 (tripleCells (mkWords syms l))) hG0 => bySymbol_any A5 c5 w2.heap.size (mkWords syms l) w0 h hG0 (by rw [Hwl.out]; omega) Hwf.out
          rw [Hwl.out] at hby
          have Hby := veil hby; clear hby
          generalize mkWords syms l = ws at *
          have hcn : (codes (nats cs)).isSome = true := by rw [Hco.out]; rfl
          have Hcn := veil hcn; clear hcn
          generalize hS : symS ws = S at *
          have Hle : S ≤ syms.length := Hnd.out.1
          go_wp2_with fail
          refine (Hby.out _ hs5 (Nat.le_refl _)).mono ?_
          rintro e w3 ⟨b, rfl, hbb, HM, hb3⟩
          have hml := fun ty => HM.len ty
          have hbel3 := hbel2.trans (hb3.mono hbel2.size)
          by_cases hnd : syms.Nodup
          · have He := veil (checkErr_ok Hg.out Hs.out Hcn.out hnd)
            have hSl := Hnd.out.2.2 hnd
            have hSl' : ¬ (S : Int) < (syms.length : Int) := by omega
            clear hSl hnd HM hs5
            go_wp2
            go_ret
            exact ⟨by rw [He.out]; rfl, hbel3⟩
          · have He := veil (checkErr_bad Hg.out Hs.out fun h => hnd h.2)
            have hSl : S ≠ syms.length := fun e => hnd (Hnd.out.2.1 e)
            have hSl' : (S : Int) < (syms.length : Int) := by omega
            clear hSl hnd HM hs5
            go_wp2
            go_ret
            exact ⟨by rw [He.out]; rfl, hbel3⟩
  · have hgb : goodB cs syms.length = false := goodB_no hgood
    have He := veil (checkErr_form hgood)
    have Hgb := veil hgb; clear hgb hgood
    go_enter Try.func38, Try.ntmps38
    go_wp2_with (first
      | (refine wpList_load_mid rfl 25 (.tmp 1) rfl w.heap.size 0 rfl xs _ Hr.out Try.underlying25 rfl (by rw [H17.out]; exact info_tab) ?_)
      | fail)
    refine (Hcm.out _).mono ?_
    rintro e w1 ⟨rfl, hb1⟩
    rw [Hgb.out]
    go_wp2
    go_ret
    exact ⟨by rw [He.out]; rfl, (below1 _ _).trans (hb1.mono (by simp))⟩
end Go.Proofs.Ytddkhkpdbjjboaa

/- table.Words: its contract. -/
namespace Go.Proofs.Ytddkhkpdbjjboaa
open Go.RowKit
set_option linter.unusedVariables false
set_option linter.unusedSimpArgs false
set_option maxRecDepth 100000

/-- The words that Words hands back. -/
def outWords (cs syms : List Int) : List (Int × Nat × Nat) := if checkErr cs syms = 0 then tabWords (nats cs) syms else []
theorem outWords_err {cs syms : List Int} (h : checkErr cs syms ≠ 0) : outWords cs syms = [] := by unfold outWords; rw [if_neg h]
theorem outWords_ok {cs syms : List Int} (h : checkErr cs syms = 0) : outWords cs syms = tabWords (nats cs) syms := by unfold outWords; rw [if_pos h]
theorem fine_of {cs syms : List Int} (h : checkErr cs syms = 0) : ∃ l, Fine cs syms l ∧ outWords cs syms = mkWords syms l ∧ l.length = syms.length := by
  obtain ⟨h1, h2, h3, h4⟩ := checkErr_zero h
  obtain ⟨l, hl⟩ := Option.isSome_iff_exists.1 h3
  exact ⟨l, ⟨h1, h2, hl, h4⟩, by rw [outWords_ok h]; unfold tabWords; rw [hl]; rfl, (codes_length hl).trans h1.sum⟩

set_option maxRecDepth 100000 in
set_option maxHeartbeats 2000000 in
theorem words_any (cs syms : List Int) (A : Option Addr) (c G : Nat) (w : World) (hcs : cs.length = 16) (hn : syms.length ≤ maxLen) (hb : ∀ x ∈ cs, -9223372036854775808 ≤ x ∧ x ≤ 9223372036854775807) (hs : Seen w G A (ints .i64 syms)) (hG : G ≤ w.heap.size) :
    Calls Try.prog 59 #[tabV cs A syms.length c] w fun e w' => ∃ v, e = .returned (.tuple #[v, .int .i64 (checkErr cs syms)]) ∧ Owns w.heap.size [wordRow v (outWords cs syms)] w' ∧ Below w.heap.size w w' := by
  have hlen17 : (tabCells cs A syms.length c).length = 17 := tabCells_length hcs
  have hck := fun w1 h1 hG1 => check_any cs syms A c G w1 hcs hn hb h1 hG1
  have has : Hid (Good cs syms.length → ∀ w1, Seen w1 G A (ints .i64 syms) → G ≤ w1.heap.size → Calls Try.prog 65 #[tabV cs A syms.length c] w1 fun e w' => ∃ v, e = .returned (.tuple #[v, .bool (codes (nats cs)).isSome]) ∧ Owns w1.heap.size [wordRow v (tabWords (nats cs) syms)] w' ∧ Below w1.heap.size w1 w') := by
    show _ → _
    intro hg w1 hs1 hG1
    have := assign_any (nats cs) syms A c G w1 (by rw [nats_length]; exact hcs) hg.sum hg.le hs1 hG1
    rw [natI_nats hg.1] at this
    exact this
  clear hcs hb
  obtain ⟨xs, hxs⟩ : ∃ xs, xs = tabCells cs A syms.length c := ⟨_, rfl⟩
  have Hr := veil (range_new w xs 25)
  unfold tabV at hck has ⊢
  rw [← hxs] at hlen17 hck has ⊢
  clear hxs
  have Hck := veil hck; clear hck
  have H17 := veil hlen17; clear hlen17
  go_enter Try.func59, Try.ntmps59
  go_wp2_with (first
    | (refine wpList_load_mid rfl 25 (.tmp 1) rfl w.heap.size 0 rfl xs _ Hr.out Try.underlying25 rfl (by rw [H17.out]; exact info_tab) ?_)
    | fail)
  refine (Hck.out _ (hs.alloc hG _) (by simp; omega)).mono ?_
  rintro e w1 ⟨rfl, hb1⟩
  have hr1 : w1.rangeAt w.heap.size 0 xs := range_below Hr.out hb1 (by simp)
  have hbel1 : Below w.heap.size w w1 := (below1 _ _).trans (hb1.mono (by simp))
  have hz1 := hb1.size
  simp at hz1
  have Hr1 := veil hr1
  clear Hr hr1 hb1
  by_cases h0 : checkErr cs syms = 0
  · obtain ⟨hg, _, hco, _⟩ := checkErr_zero h0
    have Hg := veil hg; have Hco := veil hco; have Ho := veil (outWords_ok h0)
    have H0 := veil h0
    clear hg hco
    rw [h0]
    go_wp2_with (first
      | (refine wpList_load_mid rfl 25 (.tmp 1) rfl w.heap.size 0 rfl xs _ Hr1.out Try.underlying25 rfl (by rw [H17.out]; exact info_tab) ?_)
      | fail)
    refine (has.out Hg.out _ (hs.below hbel1 hG) (by omega)).mono ?_
    rintro e w2 ⟨v, rfl, HO, hb2⟩
    go_wp2
    go_ret2
    exact ⟨v, ret_two rfl (by rw [H0.out]; rfl), by rw [Ho.out]; exact HO.down (by omega), hbel1.trans (hb2.mono (by omega))⟩
  · have Ho := veil (outWords_err h0)
    have hne : (checkErr cs syms != 0) = true := by simpa using h0
    clear h0
    obtain ⟨E, hE⟩ : ∃ E, E = checkErr cs syms := ⟨_, rfl⟩
    rw [← hE] at hne ⊢
    have HE := veil hE; clear hE
    go_wp2
    go_ret2
    exact ⟨_, ret_two rfl (by rw [← HE.out]; rfl), by rw [Ho.out]; exact (Owns.nil hbel1.size).fresh _ _, hbel1⟩
end Go.Proofs.Ytddkhkpdbjjboaa

/- A byte's zero and sizes. -/
namespace Go.Proofs.Ytddkhkpdbjjboaa
open Go.RowKit
set_option linter.unusedVariables false
set_option linter.unusedSimpArgs false
set_option maxRecDepth 100000

theorem info_byte : (Try.prog.info? 5).map (fun i => (i.zero, i.size, i.bytes)) = some (some (.int .u8 0), 1, 1) := by kernel_rfl
end Go.Proofs.Ytddkhkpdbjjboaa

/- bits.isWidth and bits.fits. -/
namespace Go.Proofs.Ytddkhkpdbjjboaa
open Go.RowKit
set_option linter.unusedVariables false
set_option linter.unusedSimpArgs false
set_option maxRecDepth 100000

/-- Is it a width? -/
def okW (x : Int) : Bool := decide (0 ≤ x ∧ x ≤ 24)
theorem isWidth_any (x : Int) (w : World) : Calls Try.prog 106 #[.int .i64 x] w fun e w' => e = .returned (.bool (okW x)) ∧ w = w' := by
  have Hd : Hid (okW x = (decide (0 ≤ x) && decide (x ≤ 24))) := by simp [Hid, okW]
  by_cases h1 : 0 ≤ x <;> by_cases h2 : x ≤ 24 <;>
  · go_enter Try.func106, Try.ntmps106
    go_wp2
    go_ret
    exact ⟨ret_bool (by rw [Hd.out]; symm; simp; omega), rfl⟩
theorem pow_le_24 (n : Nat) (h : n ≤ 24) : (2 : Int) ^ n ≤ 16777216 := by
  have : 2 ^ n ≤ 2 ^ 24 := Nat.pow_le_pow_right (by omega) h
  have h2 : ((2 ^ n : Nat) : Int) ≤ ((2 ^ 24 : Nat) : Int) := by omega
  simpa using h2
theorem pow_pos' (n : Nat) : (0 : Int) < 2 ^ n := Int.pow_pos (by decide)
theorem wrap_pow (n : Nat) (h : n ≤ 24) : IntKind.i64.wrap (2 ^ n) = 2 ^ n := by
  have h1 := pow_le_24 n h
  have h2 := pow_pos' n
  rw [IntKind.wrap_i64]; omega

def fitsB (f : Int × Int) : Bool := decide (okF f)
theorem fitsB_eq (x y : Int) : fitsB (x, y) = (okW x && (decide (0 ≤ y) && decide (y < 2 ^ x.toNat))) := by
  by_cases h1 : 0 ≤ x <;> by_cases h2 : x ≤ 24 <;> simp [fitsB, okF, okW, h1, h2]
set_option maxHeartbeats 400000 in
theorem fits_any (x y : Int) (w : World) :
    Calls Try.prog 88 #[.agg #[.int .i64 x, .int .i64 y]] w fun e w' => e = .returned (.bool (fitsB (x, y))) ∧ Below w.heap.size w w' := by
  by_cases h : okW x = true
  · by_cases h2 : 0 ≤ y
    · have hd : decide (0 ≤ y) = true := by simpa using h2
      go_enter Try.func88, Try.ntmps88
      have hx : 0 ≤ x ∧ x ≤ 24 := by simpa [okW] using h
      obtain ⟨hx0, hx1⟩ := hx
      go_wp2_with fail
      go_quiet ((go_at_call 106; exact Calls.quiet_of_same ((isWidth_any _ _).mono fun _ _ h => ⟨h.1, h.2.symm⟩)))
      go_wp2
      go_ret
      refine ⟨ret_bool ?_, (below1 _ _).drewN _⟩
      rw [wrap_pow _ (by omega)]
      rw [fitsB_eq, h, hd]; simp
    · have hd : decide (0 ≤ y) = false := by simpa using h2
      go_enter Try.func88, Try.ntmps88
      go_wp2_with fail
      go_quiet ((go_at_call 106; exact Calls.quiet_of_same ((isWidth_any _ _).mono fun _ _ h => ⟨h.1, h.2.symm⟩)))
      go_wp2
      go_ret
      refine ⟨ret_bool ?_, (below1 _ _).drewN _⟩
      rw [fitsB_eq, hd]; simp
  · have h' : okW x = false := by simpa using h
    go_enter Try.func88, Try.ntmps88
    clear h
    go_wp2_with fail
    go_quiet ((go_at_call 106; exact Calls.quiet_of_same ((isWidth_any _ _).mono fun _ _ h => ⟨h.1, h.2.symm⟩)))
    go_wp2
    go_ret
    refine ⟨ret_bool ?_, (below1 _ _).drewN _⟩
    rw [fitsB_eq, h']; simp
end Go.Proofs.Ytddkhkpdbjjboaa

/- Two small facts on numbers. -/
namespace Go.Proofs.Ytddkhkpdbjjboaa
open Go.RowKit
theorem wrap64_nat (n : Nat) (h : n < 9223372036854775808) : wrap64 (n : Int) = n := by unfold wrap64; omega
theorem two_pow_lt (a b : Nat) (h : a ≤ b) : 2 ^ a ≤ 2 ^ b := Nat.pow_le_pow_right (by omega) h
end Go.Proofs.Ytddkhkpdbjjboaa

/- bits.Write: its contract. -/
namespace Go.Proofs.Ytddkhkpdbjjboaa
open Go.RowKit
set_option linter.unusedVariables false
set_option linter.unusedSimpArgs false
set_option maxRecDepth 100000

structure WInv (w : World) (l : List (Int × Int)) (k : Nat) (v : Value) (p c : Nat) (out : List Int) (wr : World) : Prop where
  c31 : c ≤ 31
  pc : p < 2 ^ c
  by_ : Bytes out
  eq : unpack out ++ bitsN c p = fieldBits (l.take k)
  ok : ∀ f ∈ l.take k, okF f
  own : wr.ownsRow w.heap.size 5 1 v out.length (ints .u8 out)
  bel : Below w.heap.size w wr

theorem fieldBits_le (l : List (Int × Int)) (h : ∀ f ∈ l, okF f) : (fieldBits l).length ≤ 24 * l.length := by
  induction l with
  | nil => simp [fieldBits]
  | cons f l ih =>
    have h1 := (h f (by simp)).1
    have h2 := ih fun g hg => h g (by simp [hg])
    rw [fieldBits_cons, List.length_append, bitsN_length, List.length_cons]; omega
theorem WInv.len {w : World} {l : List (Int × Int)} {k : Nat} {v : Value} {p c : Nat} {out : List Int} {wr : World} (h : WInv w l k v p c out wr) : out.length ≤ 3 * l.length := by
  have h1 := congrArg List.length h.eq
  have h2 := fieldBits_le _ h.ok
  simp [unpack_length, bitsN_length] at h1 h2
  omega
theorem nat_or_low (a i b : Nat) (h : b < 2 ^ i) : a * 2 ^ i ||| b = a * 2 ^ i + b := by
  rw [Nat.mul_comm, Nat.two_pow_add_eq_or_of_lt h]
theorem i64_or (a b : Nat) (ha : a < 9223372036854775808) (hb : b < 9223372036854775808) : bits .or .i64 (a : Int) (b : Int) = ((a ||| b : Nat) : Int) := by
  have hx : a ||| b < 2 ^ 63 := Nat.or_lt_two_pow (by omega) (by omega)
  have e1 : (BitVec.ofInt 64 (a : Int)).toNat = a := by rw [BitVec.ofInt_natCast, BitVec.toNat_ofNat]; exact Nat.mod_eq_of_lt (by omega)
  have e2 : (BitVec.ofInt 64 (b : Int)).toNat = b := by rw [BitVec.ofInt_natCast, BitVec.toNat_ofNat]; exact Nat.mod_eq_of_lt (by omega)
  show IntKind.i64.wrap ((BitVec.ofInt 64 (a : Int) ||| BitVec.ofInt 64 (b : Int)).toNat : Int) = _
  rw [BitVec.toNat_or, e1, e2, IntKind.wrap_i64]
  omega
theorem i64_and (a b : Nat) (ha : a < 9223372036854775808) (hb : b < 9223372036854775808) : bits .and .i64 (a : Int) (b : Int) = ((a &&& b : Nat) : Int) := by
  have hx : a &&& b < 2 ^ 63 := Nat.and_lt_two_pow _ (by omega)
  have e1 : (BitVec.ofInt 64 (a : Int)).toNat = a := by rw [BitVec.ofInt_natCast, BitVec.toNat_ofNat]; exact Nat.mod_eq_of_lt (by omega)
  have e2 : (BitVec.ofInt 64 (b : Int)).toNat = b := by rw [BitVec.ofInt_natCast, BitVec.toNat_ofNat]; exact Nat.mod_eq_of_lt (by omega)
  show IntKind.i64.wrap ((BitVec.ofInt 64 (a : Int) &&& BitVec.ofInt 64 (b : Int)).toNat : Int) = _
  rw [BitVec.toNat_and, e1, e2, IntKind.wrap_i64]
  omega
theorem and_step (P D : Nat) (hP : P < 2 ^ (D + 8)) (hD : D + 8 ≤ 31) : bits BinOp.and IntKind.i64 (P : Int) (wrap64 (wrap64 (2 ^ D) - 1)) = ((P % 2 ^ D : Nat) : Int) := by
  have h1 : 2 ^ (D + 8) ≤ 2 ^ 31 := two_pow_lt _ _ hD
  have h2 : 2 ^ D ≤ 2 ^ 31 := two_pow_lt _ _ (by omega)
  have h3 := Nat.two_pow_pos D
  have e1 : wrap64 ((2 : Int) ^ D) = ((2 ^ D : Nat) : Int) := by rw [show ((2 : Int) ^ D) = ((2 ^ D : Nat) : Int) by simp]; exact wrap64_nat _ (by omega)
  have e2 : wrap64 (((2 ^ D : Nat) : Int) - 1) = ((2 ^ D - 1 : Nat) : Int) := by rw [show ((2 ^ D : Nat) : Int) - 1 = ((2 ^ D - 1 : Nat) : Int) by omega]; exact wrap64_nat _ (by omega)
  rw [e1, e2, i64_and _ _ (by omega) (by omega), Nat.and_two_pow_sub_one_eq_mod]
theorem or_step (p c X Y : Nat) (hp : p < 2 ^ c) (hY : Y < 2 ^ X) (hc : c < 8) (hX : X ≤ 24) :
    bits BinOp.or IntKind.i64 (wrap64 ((p : Int) * 2 ^ X)) (Y : Int) = ((p * 2 ^ X + Y : Nat) : Int) := by
  have h1 : 2 ^ c ≤ 2 ^ 8 := two_pow_lt _ _ (by omega)
  have h2 : 2 ^ X ≤ 2 ^ 24 := two_pow_lt _ _ hX
  have h3 : p * 2 ^ X ≤ 2 ^ 8 * 2 ^ 24 := Nat.mul_le_mul (by omega) h2
  have e1 : wrap64 ((p : Int) * 2 ^ X) = ((p * 2 ^ X : Nat) : Int) := by rw [show ((p : Int) * 2 ^ X) = ((p * 2 ^ X : Nat) : Int) by simp]; exact wrap64_nat _ (by omega)
  rw [e1, i64_or _ _ (by omega) (by omega), nat_or_low _ _ _ hY]
theorem pow_lt_join (p c X Y : Nat) (hp : p < 2 ^ c) (hY : Y < 2 ^ X) : p * 2 ^ X + Y < 2 ^ (c + X) := by
  have h : (p + 1) * 2 ^ X ≤ 2 ^ c * 2 ^ X := Nat.mul_le_mul_right _ hp
  rw [Nat.add_mul] at h
  rw [Nat.pow_add]; omega
theorem WInv.next {w : World} {l : List (Int × Int)} {k : Nat} {v : Value} {p c : Nat} {out : List Int} {wr wr' : World} (h : WInv w l k v p c out wr) {X Y : Nat} (hf : l[k]? = some ((X : Int), (Y : Int))) (hY : Y < 2 ^ X) (hc : c < 8) (hX : X ≤ 24)
    (hb : Below wr.heap.size wr wr') : WInv w l (k + 1) v (p * 2 ^ X + Y) (c + X) out wr' := by
  have ht := take_snoc hf
  refine ⟨by omega, pow_lt_join _ _ _ _ h.pc hY, h.by_, ?_, ?_, own_below h.own hb, h.bel.trans (hb.mono h.bel.size)⟩
  · rw [ht, fieldBits_snoc, ← h.eq, bitsN_join _ _ _ _ hY, List.append_assoc]; rfl
  · intro f hf'
    rw [ht] at hf'
    rcases List.mem_append.1 hf' with hf' | hf'
    · exact h.ok f hf'
    · simp at hf'; subst hf'
      refine ⟨⟨by simp, by simp; omega⟩, by simp, ?_⟩
      have : ((Y : Nat) : Int) < ((2 ^ X : Nat) : Int) := by omega
      simpa using this
theorem WInv.step {w : World} {l : List (Int × Int)} {k : Nat} {v v' : Value} {P D : Nat} {out : List Int} {wr w' : World} (h : WInv w l k v P (D + 8) out wr)
    (hown : w'.ownsRow w.heap.size 5 1 v' (out ++ [(P : Int) / 2 ^ D % 256]).length (ints .u8 (out ++ [(P : Int) / 2 ^ D % 256]))) (hb : Below w.heap.size wr w') :
    WInv w l k v' (P % 2 ^ D) D (out ++ [(P : Int) / 2 ^ D % 256]) w' := by
  have hc := h.c31
  have hq : P / 2 ^ D < 256 := by rw [Nat.div_lt_iff_lt_mul (Nat.two_pow_pos D)]; have := h.pc; rw [Nat.pow_add] at this; omega
  have e : (P : Int) / 2 ^ D % 256 = ((P / 2 ^ D : Nat) : Int) := by
    rw [show ((P : Int) / 2 ^ D) = ((P / 2 ^ D : Nat) : Int) by simp]; generalize P / 2 ^ D = q at *; omega
  refine ⟨by omega, Nat.mod_lt _ (Nat.two_pow_pos D), ?_, ?_, h.ok, hown, h.bel.trans hb⟩
  · exact h.by_.snoc (by rw [e]; omega)
  · rw [e, unpack_snoc, Int.toNat_natCast, ← h.eq, List.append_assoc, bitsN_mod, Nat.add_comm D 8, bitsN_add 8 D]
theorem last_byte (p c : Nat) (hp : p < 2 ^ c) (hc : c < 8) : wrap64 (wrap64 (wrap64 ((p : Int) + 1) * 2 ^ (8 - c)) - 1) % 256 = ((p * 2 ^ (8 - c) + (2 ^ (8 - c) - 1) : Nat) : Int) := by
  have h0 : 2 ^ c ≤ 2 ^ 8 := two_pow_lt _ _ (by omega)
  have e0 : wrap64 ((p : Int) + 1) = (p : Int) + 1 := by unfold wrap64; omega
  have h1 : (p + 1) * 2 ^ (8 - c) ≤ 2 ^ c * 2 ^ (8 - c) := Nat.mul_le_mul_right _ hp
  rw [← Nat.pow_add, show c + (8 - c) = 8 by omega] at h1
  have h2 := Nat.two_pow_pos (8 - c)
  have e1 : ((p : Int) + 1) * 2 ^ (8 - c) = (((p + 1) * 2 ^ (8 - c) : Nat) : Int) := by simp
  rw [e0, e1, wrap64_nat _ (by omega)]
  have e2 : (((p + 1) * 2 ^ (8 - c) : Nat) : Int) - 1 = (((p + 1) * 2 ^ (8 - c) - 1 : Nat) : Int) := by
    have : 0 < (p + 1) * 2 ^ (8 - c) := Nat.mul_pos (by omega) h2
    omega
  rw [e2, wrap64_nat _ (by omega)]
  rw [Nat.add_mul] at h1 ⊢
  omega
theorem WInv.last {w : World} {l : List (Int × Int)} {k : Nat} {v : Value} {p c : Nat} {out : List Int} {wr : World} (h : WInv w l k v p c out wr) (hc : c < 8) (hc0 : 0 < c) (hok : writeErr l = 0) (heq : unpack out ++ bitsN c p = fieldBits l) :
    Written l (out ++ [wrap64 (wrap64 (wrap64 ((p : Int) + 1) * 2 ^ (8 - c)) - 1) % 256]) := by
  refine ⟨fun e => absurd hok e, fun _ => ?_⟩
  rw [last_byte p c h.pc hc]
  have h2 := Nat.two_pow_pos (8 - c)
  have hlt : p * 2 ^ (8 - c) + (2 ^ (8 - c) - 1) < 2 ^ (c + (8 - c)) := pow_lt_join _ _ _ _ h.pc (by omega)
  rw [show c + (8 - c) = 8 by omega] at hlt
  refine ⟨h.by_.snoc (by omega), 8 - c, by omega, ?_⟩
  rw [unpack_snoc, Int.toNat_natCast, ← heq, List.append_assoc]
  have := bitsN_join c (8 - c) p (2 ^ (8 - c) - 1) (by omega)
  rw [show c + (8 - c) = 8 by omega] at this
  rw [this, bitsN_ones]
theorem written_err {l : List (Int × Int)} (h : writeErr l ≠ 0) : Written l [] := ⟨fun _ => rfl, fun e => absurd e h⟩
set_option maxHeartbeats 1000000 in
theorem write_any (A : Option Addr) (c G : Nat) (l : List (Int × Int)) (w : World) (hl : Seen w G A (pairCells l)) (hG : G ≤ w.heap.size) (hlen : l.length ≤ maxLen) :
    Calls Try.prog 63 #[.slice A l.length c] w fun e w' => ∃ v out, e = .returned (.tuple #[v, .int .i64 (writeErr l)]) ∧ w'.ownsRow w.heap.size 5 1 v out.length (ints .u8 out) ∧ Written l out ∧ Below w.heap.size w w' := by
  unfold maxLen at hlen
  by_cases hbig : 20000 < l.length
  · have hbig' : (20000 : Int) < (l.length : Int) := by omega
    have He : Hid (writeErr l = 2) := by show writeErr l = 2; unfold writeErr; rw [if_pos hbig]
    go_enter Try.func63, Try.ntmps63
    go_wp2
    go_ret2
    exact ⟨_, [], ret_two rfl (by rw [He.out]; rfl), World.ownsRow_nil _ _ _ _, written_err (by rw [He.out]; decide), Below.refl _ _⟩
  · have hbig' : ¬ (20000 : Int) < (l.length : Int) := by omega
    go_enter Try.func63, Try.ntmps63
    go_wp2_with fail
    go_loopg [4, 5, 6, 15] l.length (fun gk v pv cv i wr => ∃ (k p c : Nat) (out : List Int), gk = l.length - k ∧ k ≤ l.length ∧ c < 8 ∧ i = .int .i64 k ∧ pv = .int .i64 p ∧ cv = .int .i64 c ∧ WInv w l k v p c out wr)
    case atStart => exact ⟨0, 0, 0, [], by omega, Nat.zero_le _, by omega, rfl, rfl, rfl, by omega, by omega, by simp [Bytes], rfl, by simp, World.ownsRow_nil _ _ _ _, Below.refl _ _⟩
    case round =>
      obtain ⟨k, p, c, out, rfl, hk, hc8, rfl, rfl, rfl, hI⟩ := hrel
      by_cases hlt : k < l.length
      · obtain ⟨g, o, x, y, rfl, hg, hf, h1, h2⟩ := hl.pair hlt
        have Hf := veil hf; clear hf
        rw [← hI.bel.cell (by simp; omega)] at h1 h2
        by_cases hok : fitsB (x, y) = true
        · have hx : okF (x, y) := by simpa [fitsB] using hok
          obtain ⟨X, Y, hX, HY, rfl, rfl⟩ : ∃ X Y : Nat, X ≤ 24 ∧ Hid (Y < 2 ^ X) ∧ x = X ∧ y = Y := by
            obtain ⟨⟨hx0, hx1⟩, hy0, Hy1⟩ := hx
            refine ⟨x.toNat, y.toNat, by omega, ?_, by omega, by omega⟩
            have : ((y.toNat : Nat) : Int) < ((2 ^ x.toNat : Nat) : Int) := by simp; simp at Hy1; omega
            show y.toNat < 2 ^ x.toNat
            omega
          clear hx
          go_wp2_with fail
          refine (fits_any _ _ _).mono ?_
          rintro e w1 ⟨rfl, hb1⟩
          have c0 : w1.cell? ⟨wr.heap.size, 0, none⟩ = some (.int .i64 X) := by rw [hb1.cell (by simp)]; simp
          have c1 : w1.cell? ⟨wr.heap.size, 1, none⟩ = some (.int .i64 Y) := by rw [hb1.cell (by simp)]; simp
          go_wp2_with fail
          go_quiet (fail)
          go_wp2_with fail
          have e1 := or_step p c X Y hI.pc HY.out hc8 hX
          rw [e1]
          clear e1
          go_loopg [4, 5, 6] (c + X) (fun gk v pv cv wr2 => ∃ (P C : Nat) (out : List Int), C = gk ∧ pv = .int .i64 P ∧ cv = .int .i64 C ∧ WInv w l (k + 1) v P C out wr2)
          case atStart => exact ⟨p * 2 ^ X + Y, c + X, out, rfl, rfl, by go_num, hI.next Hf.out HY.out hc8 hX ((below1 _ _).trans (hb1.mono (by simp)) |>.drewN _)⟩
          case round =>
            obtain ⟨P, C, out2, rfl, rfl, rfl, hJ⟩ := hrel
            have hC := hJ.c31
            by_cases h8 : 8 ≤ C
            · obtain ⟨D, rfl⟩ : ∃ D, C = D + 8 := ⟨C - 8, by omega⟩
              have hL := hJ.len (k := k + 1)
              have hB := hJ.bel.size
              go_wp2_with (at_builtin; go_loud (refine wpList_app1 _ rfl (.tmp 37) (.tmp 42) _ rfl w.heap.size 5 .u8 1 Try.underlying29 info_byte _ out2 _ rfl hJ.own rfl (by omega) (by omega) (by omega) ?_); intro v' w' hown' hbel' hsz')
              go_roundg D
              case rel =>
                rw [and_step P D hJ.pc hC]
                exact ⟨P % 2 ^ D, D, _, rfl, rfl, rfl, hJ.step hown' hbel'⟩
              case measure => omega
            · have h8' : C < 8 := by omega
              go_wp2
              go_roundg (l.length - (k + 1))
              case rel => exact ⟨k + 1, P, C, out2, rfl, by omega, h8', by go_num, rfl, rfl, hJ⟩
              case measure => omega
        · have hok' : fitsB (x, y) = false := by simpa using hok
          have He : Hid (writeErr l = 1) := by
            show writeErr l = 1
            unfold writeErr
            rw [if_neg hbig, if_neg]
            intro hall
            have := hall (x, y) (List.mem_of_getElem? Hf.out)
            simp [fitsB] at hok'
            exact hok' this
          clear hok
          go_wp2_with fail
          refine (fits_any _ _ _).mono ?_
          rintro e w1 ⟨rfl, hb1⟩
          go_wp2
          go_ret2
          exact ⟨_, [], ret_two rfl (by rw [He.out]; rfl), World.ownsRow_nil _ _ _ _, written_err (by rw [He.out]; decide), hI.bel.trans (((below1 _ _).trans (hb1.mono (by simp))).mono hI.bel.size)⟩
      · have hke : k = l.length := by omega
        have Hok : Hid (writeErr l = 0) := by
          show writeErr l = 0
          unfold writeErr
          rw [if_neg hbig, if_pos]
          have := hI.ok
          rwa [List.take_of_length_le (by omega)] at this
        have Heq : Hid (unpack out ++ bitsN c p = fieldBits l) := by
          have := hI.eq
          rwa [List.take_of_length_le (by omega)] at this
        have hL := hI.len
        have hB := hI.bel.size
        by_cases hc0 : c = 0
        · subst hc0
          go_wp2
          go_ret2
          refine ⟨_, out, ret_two rfl (by rw [Hok.out]; rfl), hI.own, ⟨fun h => absurd Hok.out h, fun _ => ⟨hI.by_, 0, by omega, ?_⟩⟩, hI.bel⟩
          have := Heq.out
          simpa [bitsN] using this
        · go_wp2_with (at_builtin; go_loud (refine wpList_app1 _ rfl (.tmp 54) (.tmp 61) _ rfl w.heap.size 5 .u8 1 Try.underlying29 info_byte _ out _ rfl hI.own rfl (by omega) (by omega) (by omega) ?_); intro v' w' hown' hbel' hsz')
          go_ret2
          exact ⟨_, _, ret_two rfl (by rw [Hok.out]; rfl), hown', hI.last hc8 (by omega) Hok.out Heq.out, hI.bel.trans hbel'⟩
end Go.Proofs.Ytddkhkpdbjjboaa

/- The reference's binary digits: texts of zeros and ones. -/
namespace Go.Proofs.Ytddkhkpdbjjboaa
open Go.RowKit
set_option linter.unusedVariables false
set_option linter.unusedSimpArgs false
set_option maxRecDepth 100000

end Go.Proofs.Ytddkhkpdbjjboaa

/- The reference's power and outside. -/
namespace Go.Proofs.Ytddkhkpdbjjboaa
open Go.RowKit
set_option linter.unusedVariables false
set_option linter.unusedSimpArgs false
set_option maxRecDepth 100000

end Go.Proofs.Ytddkhkpdbjjboaa

/- The reference's words of a table, as binary digits. -/
namespace Go.Proofs.Ytddkhkpdbjjboaa
open Go.RowKit
set_option linter.unusedVariables false
set_option linter.unusedSimpArgs false
set_option maxRecDepth 100000

end Go.Proofs.Ytddkhkpdbjjboaa

/- The reference's Has at numbers. -/
namespace Go.Proofs.Ytddkhkpdbjjboaa
open Go.RowKit
set_option linter.unusedVariables false
set_option linter.unusedSimpArgs false
set_option maxRecDepth 100000

end Go.Proofs.Ytddkhkpdbjjboaa

/- The reference's check of a table: the same contract as Check's. -/
namespace Go.Proofs.Ytddkhkpdbjjboaa
open Go.RowKit
set_option linter.unusedVariables false
set_option linter.unusedSimpArgs false
set_option maxRecDepth 100000

end Go.Proofs.Ytddkhkpdbjjboaa

/- A symbol that has a word: where it stands. -/
namespace Go.Proofs.Ytddkhkpdbjjboaa
open Go.RowKit
set_option linter.unusedVariables false
set_option linter.unusedSimpArgs false
set_option maxRecDepth 100000

theorem symF_mem {ws : List (Int × Nat × Nat)} {x : Int} {p : Int × Int} (h : symF ws x = some p) : ∃ t ∈ ws, t.1 = x ∧ fi t = p := by
  induction ws using snoc_ind with
  | h0 => simp [symF, symGo] at h
  | h1 ws t ih =>
    rw [symF_snoc] at h
    unfold upd at h
    by_cases e : x = t.1
    · rw [if_pos e] at h; injection h with h; exact ⟨t, by simp, e.symm, h⟩
    · rw [if_neg e] at h
      obtain ⟨u, hu, h2⟩ := ih h
      exact ⟨u, by simp [hu], h2⟩
theorem mem_mkWords {syms : List Int} {l : List (Nat × Nat)} {t : Int × Nat × Nat} (h : t ∈ mkWords syms l) : ∃ i : Nat, syms[i]? = some t.1 ∧ l[i]? = some t.2 := by
  obtain ⟨i, hi⟩ := List.getElem?_of_mem h
  refine ⟨i, ?_⟩
  unfold mkWords at hi
  rw [List.getElem?_zipWith] at hi
  cases h1 : syms[i]? with
  | none => simp [h1] at hi
  | some s =>
    cases h2 : l[i]? with
    | none => simp [h1, h2] at hi
    | some p => simp [h1, h2] at hi; subst hi; exact ⟨rfl, rfl⟩
end Go.Proofs.Ytddkhkpdbjjboaa

/- The reference's wordOf: the digits of a symbol's word. -/
namespace Go.Proofs.Ytddkhkpdbjjboaa
open Go.RowKit
set_option linter.unusedVariables false
set_option linter.unusedSimpArgs false
set_option maxRecDepth 100000

/-- The bits of a symbol's word. -/
def symBits (ws : List (Int × Nat × Nat)) (x : Int) : List Bool := bitsN (((symF ws x).getD (0, 0)).1).toNat (((symF ws x).getD (0, 0)).2).toNat
end Go.Proofs.Ytddkhkpdbjjboaa

/- What a check of blocks answers, in numbers. No program is named here. -/
namespace Go.Proofs.Ytddkhkpdbjjboaa
set_option linter.unusedVariables false
set_option linter.unusedSimpArgs false
set_option maxRecDepth 100000

/-- What a check of blocks answers. -/
def eL (L : List (List Int)) : Int := if 400 < L.length then 2 else if (L.all fun r => inB (-2047) 2047 r) = true then 0 else 1
theorem eL_large {L : List (List Int)} (h : 400 < L.length) : eL L = 2 := if_pos h
theorem eL_bad {L : List (List Int)} (h : ¬ 400 < L.length) {k : Nat} {r : List Int} (hr : L[k]? = some r) (hb : inB (-2047) 2047 r = false) : eL L = 1 := by
  unfold eL
  rw [if_neg h, if_neg]
  intro h2
  have := List.all_eq_true.1 h2 r (List.mem_of_getElem? hr)
  rw [hb] at this; cases this
theorem eL_ok {L : List (List Int)} (h : ¬ 400 < L.length) (hb : ∀ r ∈ L, inB (-2047) 2047 r = true) : eL L = 0 := by
  unfold eL
  rw [if_neg h, if_pos (List.all_eq_true.2 hb)]
theorem eL_zero {L : List (List Int)} (h : eL L = 0) : L.length ≤ 400 ∧ ∀ r ∈ L, inB (-2047) 2047 r = true := by
  unfold eL at h
  split at h
  · cases h
  · split at h
    · rename_i h1 h2; exact ⟨by omega, fun r hr => List.all_eq_true.1 h2 r hr⟩
    · cases h
end Go.Proofs.Ytddkhkpdbjjboaa

/- What a written list of fields is, in numbers; the fields' element. -/
namespace Go.Proofs.Ytddkhkpdbjjboaa
open Go.RowKit
set_option linter.unusedVariables false
set_option linter.unusedSimpArgs false
set_option maxRecDepth 100000

theorem okF_nat (X Y : Nat) : okF ((X : Int), (Y : Int)) ↔ X ≤ 24 ∧ Y < 2 ^ X := by
  unfold okF
  simp only [Int.toNat_natCast]
  constructor
  · rintro ⟨⟨_, h1⟩, _, h2⟩
    refine ⟨by omega, ?_⟩
    have : (Y : Int) < ((2 ^ X : Nat) : Int) := by simpa using h2
    omega
  · rintro ⟨h1, h2⟩
    refine ⟨⟨by omega, by omega⟩, by omega, ?_⟩
    have : (Y : Int) < ((2 ^ X : Nat) : Int) := by omega
    simpa using this
theorem elem_field : ElemOf Try.prog 71 78 2 16 :=
  .mk' (z := .agg #[.int .i64 0, .int .i64 0]) Try.underlying71 (by kernel_rfl) rfl (by omega)
end Go.Proofs.Ytddkhkpdbjjboaa

/- table.Encode: its contract. -/
namespace Go.Proofs.Ytddkhkpdbjjboaa
open Go.RowKit
set_option linter.unusedVariables false
set_option linter.unusedSimpArgs false
set_option maxRecDepth 100000

/-- The fields of symbols. -/
def fieldsOf (ws : List (Int × Nat × Nat)) (xs : List Int) : List (Int × Int) := xs.map fun x => (symF ws x).getD (0, 0)
def AllIn (ws : List (Int × Nat × Nat)) (xs : List Int) : Prop := ∀ x ∈ xs, (symF ws x).isSome = true
instance (ws : List (Int × Nat × Nat)) (xs : List Int) : Decidable (AllIn ws xs) := by unfold AllIn; infer_instance
/-- Each word that a symbol has is one of the words. -/
theorem Fine.kr {cs syms : List Int} {l : List (Nat × Nat)} (h : Fine cs syms l) (hcs : cs.length = 16) : Kr 0 l := codes_kr (by rw [nats_length]; exact hcs) h.code
theorem Fine.word {cs syms : List Int} {l : List (Nat × Nat)} (h : Fine cs syms l) (hcs : cs.length = 16) {t : Int × Nat × Nat} (ht : t ∈ mkWords syms l) : (0 ≤ t.1 ∧ t.1 ≤ 255) ∧ (1 ≤ t.2.1 ∧ t.2.1 ≤ 16) ∧ t.2.2 + 1 < 2 ^ t.2.1 := by
  obtain ⟨i, h1, h2⟩ := mem_mkWords ht
  have hm := List.mem_of_getElem? h2
  have := (h.kr hcs).ge _ hm
  exact ⟨h.ok _ (List.mem_of_getElem? h1), ⟨this.1, this.2.1⟩, (h.kr hcs).small hm⟩
theorem fi_small {cs syms : List Int} {l : List (Nat × Nat)} (h : Fine cs syms l) (hcs : cs.length = 16) {t : Int × Nat × Nat} (ht : t ∈ mkWords syms l) : WF t.1 ∧ WF (t.2.1 : Int) ∧ WF (t.2.2 : Int) := by
  obtain ⟨h1, h2, h3⟩ := h.word hcs ht
  have : 2 ^ t.2.1 ≤ 2 ^ 16 := Nat.pow_le_pow_right (by omega) h2.2
  exact ⟨wf_of (by omega), wf_of (by omega), wf_of (by omega)⟩

end Go.Proofs.Ytddkhkpdbjjboaa

/- bits.number: so many bits from a place on. -/
namespace Go.Proofs.Ytddkhkpdbjjboaa
open Go.RowKit
set_option linter.unusedVariables false
set_option linter.unusedSimpArgs false
set_option maxRecDepth 100000

theorem bitsN_at (w v i : Nat) (h : i < w) : (bitsN w v)[i]? = some (decide (v / 2 ^ (w - 1 - i) % 2 = 1)) := by
  induction w generalizing v with
  | zero => omega
  | succ w ih =>
    rw [bitsN]
    by_cases hi : i < w
    · rw [List.getElem?_append_left (by rw [bitsN_length]; exact hi), ih _ hi, Nat.div_div_eq_div_mul, ← Nat.pow_succ', show w + 1 - 1 - i = w - 1 - i + 1 by omega]
    · have : i = w := by omega
      subst this
      rw [List.getElem?_append_right (by rw [bitsN_length]; omega)]
      simp [bitsN_length]
theorem unpack_at : ∀ (bs : List Int) (j : Nat) (x : Int), bs[j / 8]? = some x → (unpack bs)[j]? = some (decide (x.toNat / 2 ^ (7 - j % 8) % 2 = 1))
  | [], j, x, h => by simp at h
  | y :: bs, j, x, h => by
    rw [unpack_cons]
    by_cases hj : j < 8
    · have e : j / 8 = 0 := by omega
      rw [e] at h
      simp at h
      subst h
      rw [List.getElem?_append_left (by rw [bitsN_length]; exact hj), bitsN_at 8 _ _ hj, show 8 - 1 - j = 7 - j % 8 by omega]
    · rw [List.getElem?_append_right (by rw [bitsN_length]; omega), bitsN_length]
      have e : j / 8 = (j - 8) / 8 + 1 := by omega
      rw [e, List.getElem?_cons_succ] at h
      rw [unpack_at bs (j - 8) x h, show (j - 8) % 8 = j % 8 by omega]
/-- The bits from 'at' on, so many. -/
def cutB (bs : List Int) (at_ n : Nat) : List Bool := ((unpack bs).drop at_).take n
theorem cutB_length (bs : List Int) (at_ n : Nat) (h : at_ + n ≤ 8 * bs.length) : (cutB bs at_ n).length = n := by
  simp [cutB, unpack_length]; omega
theorem cutB_snoc (bs : List Int) (at_ n : Nat) (x : Int) (h : bs[(at_ + n) / 8]? = some x) : cutB bs at_ (n + 1) = cutB bs at_ n ++ [decide (x.toNat / 2 ^ (7 - (at_ + n) % 8) % 2 = 1)] := by
  unfold cutB
  apply take_snoc
  rw [List.getElem?_drop]
  exact unpack_at bs _ x h

theorem bit_step (bs : List Int) (at_ n J : Nat) (x : Int) (hJ : at_ + n = J) (h : bs[J / 8]? = some x) (hx : 0 ≤ x ∧ x ≤ 255) (hn : n < 24) (hin : at_ + n ≤ 8 * bs.length) :
    bits BinOp.or IntKind.i64 (wrap64 ((valB (cutB bs at_ n) : Int) * 2)) (bits BinOp.and IntKind.i64 (wrap64 (x / 2 ^ (7 - J % 8))) 1) = (valB (cutB bs at_ (n + 1)) : Int) := by
  subst hJ
  rw [cutB_snoc bs at_ n x h, valB_snoc]
  have h1 := valB_lt (cutB bs at_ n)
  rw [cutB_length _ _ _ hin] at h1
  have h2 : 2 ^ n ≤ 2 ^ 24 := two_pow_lt _ _ (by omega)
  generalize valB (cutB bs at_ n) = V at *
  obtain ⟨X, rfl⟩ := Int.eq_ofNat_of_zero_le hx.1
  have e1 : (X : Int) / 2 ^ (7 - (at_ + n) % 8) = ((X / 2 ^ (7 - (at_ + n) % 8) : Nat) : Int) := by simp
  have h3 : X / 2 ^ (7 - (at_ + n) % 8) ≤ X := Nat.div_le_self _ _
  rw [e1, Int.toNat_natCast]
  generalize X / 2 ^ (7 - (at_ + n) % 8) = q at *
  rw [wrap64_nat q (by omega), show (1 : Int) = ((1 : Nat) : Int) from rfl, i64_and _ _ (by omega) (by omega), Nat.and_one_is_mod]
  have e2 : wrap64 ((V : Int) * 2) = ((V * 2 ^ 1 : Nat) : Int) := by
    rw [show (V : Int) * 2 = ((V * 2 : Nat) : Int) by simp]; exact wrap64_nat _ (by omega)
  rw [e2, i64_or _ _ (by omega) (by omega), nat_or_low _ 1 _ (by omega)]
  rcases Nat.mod_two_eq_zero_or_one q with hq | hq <;> simp [hq] <;> omega
set_option maxHeartbeats 1000000 in
theorem number_any (A : Option Addr) (c G : Nat) (bs : List Int) (at_ wd : Nat) (w : World) (hb : Seen w G A (ints .u8 bs)) (hby : Bytes bs) (h : at_ + wd ≤ 8 * bs.length) (hwd : wd ≤ 24) (hl : bs.length ≤ 1152921504606846975) :
    Calls Try.prog 110 #[.slice A bs.length c, .int .i64 at_, .int .i64 wd] w fun e w' => e = .returned (.int .i64 (valB (cutB bs at_ wd))) ∧ w = w' := by
  go_enter Try.func110, Try.ntmps110
  go_wp2_with fail
  go_loopg [7, 8, 9] wd (fun gk n i b wr => ∃ k : Nat, gk = wd - k ∧ k ≤ wd ∧ i = .int .i64 (at_ + k : Nat) ∧ n = .int .i64 (valB (cutB bs at_ k)) ∧ w = wr)
  case atStart => exact ⟨0, rfl, Nat.zero_le _, rfl, rfl, rfl⟩
  case round =>
    obtain ⟨k, rfl, hk, rfl, rfl, rfl⟩ := hrel
    by_cases hlt : k < wd
    · obtain ⟨g, o, x, rfl, _, hx, h1⟩ := hb.int (k := (at_ + k) / 8) (by omega)
      have hxb := hby x (List.mem_of_getElem? hx)
      have Hx := veil hx
      clear hx
      generalize HJ : at_ + k = J at *
      have HJ := veil HJ
      go_wp2_with fail
      go_roundg (wd - (k + 1))
      case rel => exact ⟨k + 1, rfl, by omega, by rw [← HJ.out]; go_num, congrArg (Value.int .i64) (bit_step _ _ _ _ _ HJ.out Hx.out hxb (by omega) (by omega)), rfl⟩
      case measure => omega
    · obtain rfl : k = wd := by omega
      go_wp2
      go_ret
      exact ⟨rfl, rfl⟩
end Go.Proofs.Ytddkhkpdbjjboaa

/- Words of which none begins another one: which of them begins a row of bits. -/
namespace Go.Proofs.Ytddkhkpdbjjboaa
open Go.RowKit
set_option linter.unusedVariables false
set_option linter.unusedSimpArgs false
set_option maxRecDepth 100000

structure PF (ws : List (Int × Nat × Nat)) : Prop where
  small : ∀ t ∈ ws, (1 ≤ t.2.1 ∧ t.2.1 ≤ 16) ∧ t.2.2 < 2 ^ t.2.1
  uniq : ∀ t ∈ ws, ∀ u ∈ ws, ∀ b, bitsN t.2.1 t.2.2 <+: b → bitsN u.2.1 u.2.2 <+: b → t = u
theorem Fine.pf {cs syms : List Int} {l : List (Nat × Nat)} (h : Fine cs syms l) (hcs : cs.length = 16) : PF (mkWords syms l) where
  small t ht := by have := h.word hcs ht; exact ⟨this.2.1, by omega⟩
  uniq t ht u hu b h1 h2 := by
    obtain ⟨i, hi1, hi2⟩ := mem_mkWords ht
    obtain ⟨k, hk1, hk2⟩ := mem_mkWords hu
    obtain rfl := (h.kr hcs).bits hi2 hk2 h1 h2
    rw [hi1] at hk1
    rw [hi2] at hk2
    injection hk1 with e1
    injection hk2 with e2
    exact Prod.ext e1 e2
def begins (t : Int × Nat × Nat) (b : List Bool) : Bool := (bitsN t.2.1 t.2.2).isPrefixOf b
theorem begins_iff (t : Int × Nat × Nat) (b : List Bool) : begins t b = true ↔ bitsN t.2.1 t.2.2 <+: b := List.isPrefixOf_iff_prefix
/-- The word at the front of a row of bits: its symbol and its length. -/
def find1 (ws : List (Int × Nat × Nat)) (b : List Bool) : Option (Int × Nat) := (ws.find? (begins · b)).map fun t => (t.1, t.2.1)
theorem PF.find {ws : List (Int × Nat × Nat)} (h : PF ws) {t : Int × Nat × Nat} (ht : t ∈ ws) {b : List Bool} (hb : bitsN t.2.1 t.2.2 <+: b) : find1 ws b = some (t.1, t.2.1) := by
  unfold find1
  cases hq : ws.find? (begins · b) with
  | none => exact absurd ((begins_iff t b).2 hb) (by simpa using List.find?_eq_none.1 hq t ht)
  | some u =>
    have h1 := List.find?_some hq
    have h2 := List.mem_of_find?_eq_some hq
    rw [h.uniq u h2 t ht b ((begins_iff u b).1 h1) hb]
    rfl
theorem find1_mem {ws : List (Int × Nat × Nat)} {b : List Bool} {s : Int} {n : Nat} (h : find1 ws b = some (s, n)) : ∃ t ∈ ws, t.1 = s ∧ t.2.1 = n ∧ bitsN t.2.1 t.2.2 <+: b := by
  unfold find1 at h
  cases hq : ws.find? (begins · b) with
  | none => simp [hq] at h
  | some u =>
    simp [hq] at h
    have h1 := List.find?_some hq
    exact ⟨u, List.mem_of_find?_eq_some hq, h.1, h.2, (begins_iff u b).1 h1⟩
theorem codeF_mem {ws : List (Int × Nat × Nat)} {x : Int} {p : Int × Int} (h : codeF ws p = some x) : ∃ t ∈ ws, fi t = p ∧ t.1 = x := by
  induction ws using snoc_ind with
  | h0 => simp [codeF] at h
  | h1 ws t ih =>
    rw [codeF_snoc] at h
    unfold upd at h
    by_cases e : p = fi t
    · rw [if_pos e] at h; injection h with h; exact ⟨t, by simp, e.symm, h⟩
    · rw [if_neg e] at h
      obtain ⟨u, hu, h2⟩ := ih h
      exact ⟨u, by simp [hu], h2⟩
theorem codeF_some {ws : List (Int × Nat × Nat)} {t : Int × Nat × Nat} (h : t ∈ ws) : (codeF ws (fi t)).isSome = true := by
  induction ws using snoc_ind with
  | h0 => simp at h
  | h1 ws u ih =>
    rw [codeF_snoc]
    unfold upd
    by_cases e : fi t = fi u
    · rw [if_pos e]; rfl
    · rw [if_neg e]
      rcases List.mem_append.1 h with h | h
      · exact ih h
      · simp at h; subst h; exact absurd rfl e
/-- A hit. -/
theorem PF.hit {ws : List (Int × Nat × Nat)} (h : PF ws) {b : List Bool} {k : Nat} (hk : k ≤ b.length) {s : Int} (hc : codeF ws ((k : Int), (valB (b.take k) : Int)) = some s) : find1 ws b = some (s, k) := by
  obtain ⟨t, ht, e1, e2⟩ := codeF_mem hc
  simp only [fi, Prod.mk.injEq] at e1
  have h1 : t.2.1 = k := by omega
  have h2 : t.2.2 = valB (b.take k) := by omega
  have h3 : bitsN t.2.1 t.2.2 <+: b := by
    rw [h1, h2]
    have := bitsN_valB (b.take k)
    rw [List.length_take, Nat.min_eq_left hk] at this
    rw [this]
    exact List.take_prefix _ _
  rw [h.find ht h3, e2, h1]
/-- No hit at all. -/
theorem PF.miss {ws : List (Int × Nat × Nat)} (h : PF ws) {b : List Bool} {k : Nat} (hk : k = 16 ∨ b.length ≤ k) (hc : ∀ j : Nat, 1 ≤ j → j ≤ k → codeF ws ((j : Int), (valB (b.take j) : Int)) = none) : find1 ws b = none := by
  cases hq : find1 ws b with
  | none => rfl
  | some p =>
    obtain ⟨s, n⟩ := p
    obtain ⟨t, ht, e1, e2, h1⟩ := find1_mem hq
    obtain ⟨h2, h3⟩ := h.small t ht
    have h4 := h1.length_le
    rw [bitsN_length] at h4
    have h5 := List.prefix_iff_eq_take.1 h1
    rw [bitsN_length] at h5
    have h6 : valB (b.take t.2.1) = t.2.2 := by rw [← h5]; exact valB_bitsN _ _ h3
    have h7 := hc t.2.1 h2.1 (by omega)
    rw [h6] at h7
    have h8 := codeF_some ht
    rw [show fi t = ((t.2.1 : Int), (t.2.2 : Int)) from rfl, h7] at h8
    cases h8
/-- What next answers. -/
def nextS (ws : List (Int × Nat × Nat)) (b : List Bool) : Int := ((find1 ws b).map (·.1)).getD 0
def nextL (ws : List (Int × Nat × Nat)) (b : List Bool) : Nat := ((find1 ws b).map (·.2)).getD 0
def nextE (ws : List (Int × Nat × Nat)) (b : List Bool) : Int := if (find1 ws b).isSome = true then 0 else if b.length < 16 then 3 else 4
end Go.Proofs.Ytddkhkpdbjjboaa

/- table.next: its contract. -/
namespace Go.Proofs.Ytddkhkpdbjjboaa
open Go.RowKit
set_option linter.unusedVariables false
set_option linter.unusedSimpArgs false
set_option maxRecDepth 100000

end Go.Proofs.Ytddkhkpdbjjboaa
