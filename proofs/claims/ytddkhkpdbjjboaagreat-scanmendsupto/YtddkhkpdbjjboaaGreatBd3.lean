/- Texts shared by the claims of this seat, in one. -/
import Derived.Test.YtddkhkpdbjjboaaGreatBd2
import Derived.Maps.OwnSet
import Derived.Maps.OwnOps
import Derived.DeepKeys4
import Derived.MapViews
import Derived.Lib.SmallJoins
import Derived.Test.YtddkhkpdbjjboaaGreatBd1
import Derived.Test.YtddkhkpdbjjboaaGreatRows
import Derived.Test.YtddkhkpdbjjboaaGreatChecked
import Derived.Lib.OthersKept
/- A map from numbers to fields, and one from fields to numbers, as functions: made, written, asked. -/
namespace Go.Proofs.YtddkhkpdbjjboaaGreat
open Go.RowKit
open Go.Maps (Keyed)
set_option linter.unusedVariables false
set_option linter.unusedSimpArgs false
set_option maxRecDepth 100000

/-- What a field reads as. -/
def fd (p : Int × Int) : DataW Unit := .agg [.lit (.int .i64 p.1), .lit (.int .i64 p.2)]
abbrev fv (p : Int × Int) : Value := .agg #[.int .i64 p.1, .int .i64 p.2]
def fieldElem : Value → Option (DataW Unit × List MemPlace)
  | .agg cs => match cs.toList with
    | [.int .i64 a, .int .i64 b] => some (fd (a, b), [])
    | _ => none
  | _ => none
theorem fieldElem_mk (p : Int × Int) : fieldElem (fv p) = some (fd p, []) := rfl
theorem fieldElem_inv {v : Value} {p : Int × Int} {ps : List MemPlace} (h : fieldElem v = some (fd p, ps)) : v = fv p := by
  unfold fieldElem at h
  split at h
  · rename_i cs
    split at h
    · rename_i a b e
      simp only [Option.some.injEq, Prod.mk.injEq, fd, DataW.agg.injEq, List.cons.injEq, DataW.lit.injEq, Lit.int.injEq, true_and, and_true] at h
      obtain ⟨⟨h1, h2⟩, _⟩ := h
      have : cs = #[.int .i64 a, .int .i64 b] := by
        obtain ⟨l⟩ := cs
        simp at e
        rw [e]
      rw [this, fv, h1, h2]
    · cases h
  · cases h
abbrev WF (x : Int) : Prop := (Lit.int .i64 x).wf = true
theorem wf_of {x : Int} (h : -9223372036854775808 ≤ x ∧ x ≤ 9223372036854775807) : WF x := WalkArith.wf_i64 h

theorem keyInt : Keyed Tryz.prog 3 := Go.Maps.int_keyed Tryz.underlying3
theorem zeroField (w : World) : (zeroValue 89).run Tryz.prog w = .ok (fv (0, 0)) w := by kernel_rfl

/-- Block b is a map of at most n entries, s of them, that holds what f says. -/
def MapF (w : World) (b n : Nat) (f : Int → Option (Int × Int)) (s : Nat) : Prop :=
  ∃ D : DataW Unit, w.ownsMap Tryz.prog 3 fieldElem b n D ∧ Maps.size D = s ∧ ∀ x, WF x → Maps.has D (.int .i64 x) = (f x).isSome ∧ D.atKey (.int .i64 x) (fd (0, 0)) = fd ((f x).getD (0, 0))
def upd {α β : Type} [DecidableEq α] (f : α → Option β) (x : α) (p : β) : α → Option β := fun y => if y = x then some p else f y
section
variable {w w' : World} {b n s : Nat} {f : Int → Option (Int × Int)}
theorem MapF.made (w : World) : MapF (w.alloc (.map #[] 0)) w.heap.size 0 (fun _ => none) 0 :=
  ⟨.map [], World.ownsMap_made _ _ _ _, rfl, fun x hx => ⟨rfl, rfl⟩⟩
theorem MapF.lt (h : MapF w b n f s) : b < w.heap.size := by obtain ⟨D, h1, _⟩ := h; exact h1.lt
theorem MapF.below (h : MapF w b n f s) {C : Nat} (hb : Below C w w') (hC : b < C) : MapF w' b n f s := by
  have hlt := h.lt
  obtain ⟨D, ⟨es, clock, h1, h2⟩, h3⟩ := h
  exact ⟨D, ⟨es, clock, by rw [hb.block b hC]; exact h1, h2⟩, h3⟩
theorem MapF.store (h : MapF w b n f s) (hn : n < maxLen) {x : Int} (hx : WF x) (p : Int × Int) :
    ∃ w', (Instr.mapUpdate 82 (.map (some b)) (.int .i64 x) (fv p)).run Tryz.prog w = .ok () w' ∧ MapF w' b (n + 1) (upd f x p) (if (f x).isSome then s else s + 1) ∧ w.grownBy w' (some b) := by
  obtain ⟨D, h1, h2, h3⟩ := h
  have hT := h1.tidy keyInt
  obtain ⟨w', r1, r2, r3⟩ := h1.update keyInt Tryz.underlying82 hn (Maps.keyOf_int_mk Tryz.underlying3 hx) (fieldElem_mk p)
  refine ⟨w', r1, ⟨_, r2, ?_, fun y hy => ?_⟩, r3⟩
  · rw [Maps.size_put hT, (h3 x hx).1, h2]
  · by_cases e : y = x
    · subst e
      rw [Maps.has_put_same hT.isMap (by trivial), Maps.atKey_put_same hT.isMap (by trivial)]
      simp [upd]
    · have hne : Lit.int IntKind.i64 y ≠ Lit.int IntKind.i64 x := by simpa using e
      rw [Maps.has_put_other hne, Maps.atKey_put_other hne]
      simp only [upd, if_neg e]
      exact h3 y hy
theorem MapF.look (h : MapF w b n f s) {x : Int} (hx : WF x) :
    (Instr.lookup 82 (.map (some b)) (.int .i64 x) true).run Tryz.prog w = .ok (.tuple #[fv ((f x).getD (0, 0)), .bool (f x).isSome]) w := by
  obtain ⟨D, h1, h2, h3⟩ := h
  obtain ⟨v, ps, r1, r2⟩ := h1.look_ok keyInt Tryz.underlying82 (zeroField w) (fieldElem_mk (0, 0)) (Maps.keyOf_int_mk Tryz.underlying3 hx)
  rw [(h3 x hx).2] at r2
  rw [r1, fieldElem_inv r2, (h3 x hx).1]
theorem MapF.len (h : MapF w b n f s) (ty : TypeId) : (Builtin.len_ #[82] ty #[.map (some b)]).run Tryz.prog w = .ok (.int .i64 (s : Int)) w := by
  obtain ⟨D, h1, h2, h3⟩ := h
  rw [h1.len Tryz.underlying82 ty, h2]
/-- In a walk: a look-up. -/
theorem wpList_lookF {ops : Array Oper} {rest : List Oper} {o : Oper} {a : Act} {Q : Exit → Act → World → Prop} (w : World) (hg : o.guard = none) (m x : Operand) (hop : o.op = Op.lookup 82 m x true)
    (b n : Nat) (f : Int → Option (Int × Int)) (s : Nat) (hm : a.eval m = .map (some b)) (H : MapF w b n f s) (x0 : Int) (hx : a.eval x = .int .i64 x0) (hwf : WF x0) (p : Int × Int) (ok : Bool) (hp : (f x0).getD (0, 0) = p) (hok : (f x0).isSome = ok)
    (hK : wpList Tryz.prog ops Q rest (a.put o.dst (.tuple #[fv p, .bool ok])) w) : wpList Tryz.prog ops Q (o :: rest) a w := by
  refine wpList_plain hg fun K' hK' => ?_
  have := H.look hwf
  rw [hp, hok] at this
  unfold Oper.wp
  simp [execOp, hop, hm, hx, this, Result.andThen]
  exact hK' _ _ hK
end

theorem zeroInt (w : World) : (zeroValue 3).run Tryz.prog w = .ok (.int .i64 0) w := by kernel_rfl
/-! ### from fields to numbers -/
theorem wideField : (match Tryz.prog.underlying 89 with | some (.array _ _) | some (.struct _) => true | _ => false) = true := by kernel_rfl
theorem keyField : Keyed Tryz.prog 89 := Keyed.of_law (deep_law_laid (by kernel_rfl) (m := 2) (by omega) (of_decide_eq_true (by kernel_rfl)) (by kernel_rfl) wideField)
def kf (p : Int × Int) : Lit := (fd p).asKey
theorem field_key {p : Int × Int} (h1 : WF p.1) (h2 : WF p.2) : keyOf Tryz.prog 89 (fv p) = some (kf p) := by
  have hT : DataW.Trod (fun _ => ()) Tryz.prog default 0 (fun _ => true) true 89 (fv p) (.agg [(.lit (.int .i64 p.1)), (.lit (.int .i64 p.2))]) ([] ++ []) :=
    Go.Joins.shut_agg2 (y0 := (.lit (.int .i64 p.1), [])) (y1 := (.lit (.int .i64 p.2), [])) Tryz.underlying89 (by kernel_rfl) (by kernel_rfl) ⟨1, by simp [DataW.trod, Tryz.underlying3, h1]⟩ ⟨1, by simp [DataW.trod, Tryz.underlying3, h2]⟩
  have hf : (fv p).formed Tryz.prog 89 = true := by
    have hs : Tryz.prog.cellsOf 89 = 2 := by kernel_rfl
    simp [Value.formed, Tryz.underlying89, hs]
  exact (keyOf_asKey (by kernel_rfl) wideField hf hT).1
theorem kf_inj {p q : Int × Int} (h1 : WF p.1) (h2 : WF p.2) (h3 : WF q.1) (h4 : WF q.2) (h : kf p = kf q) : p = q := by
  have := keyField.inj (field_key h1 h2) (by rw [h]; exact field_key h3 h4)
  simp [fv] at this
  exact Prod.ext this.1 this.2
/-- Block b is a map of at most n entries that holds what f says. -/
def MapC (w : World) (b n : Nat) (f : Int × Int → Option Int) : Prop :=
  ∃ D : DataW Unit, w.ownsMap Tryz.prog 89 (plainElem Tryz.prog 3) b n D ∧ ∀ p : Int × Int, WF p.1 → WF p.2 → Maps.has D (kf p) = (f p).isSome ∧ D.atKey (kf p) (.lit (.int .i64 0)) = .lit (.int .i64 ((f p).getD 0))
section
variable {w w' : World} {b n : Nat} {f : Int × Int → Option Int}
theorem MapC.made (w : World) : MapC (w.alloc (.map #[] 0)) w.heap.size 0 (fun _ => none) :=
  ⟨.map [], World.ownsMap_made _ _ _ _, fun x hx _ => ⟨rfl, rfl⟩⟩
theorem MapC.lt (h : MapC w b n f) : b < w.heap.size := by obtain ⟨D, h1, _⟩ := h; exact h1.lt
theorem MapC.below (h : MapC w b n f) {C : Nat} (hb : Below C w w') (hC : b < C) : MapC w' b n f := by
  have hlt := h.lt
  obtain ⟨D, ⟨es, clock, h1, h2⟩, h3⟩ := h
  exact ⟨D, ⟨es, clock, by rw [hb.block b hC]; exact h1, h2⟩, h3⟩
theorem MapC.store (h : MapC w b n f) (hn : n < maxLen) {p : Int × Int} (h1 : WF p.1) (h2 : WF p.2) {x : Int} (hx : WF x) :
    ∃ w', (Instr.mapUpdate 56 (.map (some b)) (fv p) (.int .i64 x)).run Tryz.prog w = .ok () w' ∧ MapC w' b (n + 1) (upd f p x) ∧ w.grownBy w' (some b) := by
  obtain ⟨D, g1, g3⟩ := h
  have hT := g1.tidy keyField
  have hkl := keyField.key (field_key h1 h2)
  obtain ⟨w', r1, r2, r3⟩ := g1.update keyField Tryz.underlying56 hn (field_key h1 h2) (plainElem_int Tryz.underlying3 hx)
  refine ⟨w', r1, ⟨_, r2, fun q hq1 hq2 => ?_⟩, r3⟩
  by_cases e : q = p
  · subst e
    rw [Maps.has_put_same hT.isMap hkl, Maps.atKey_put_same hT.isMap hkl]
    simp [upd]
  · have hne : kf q ≠ kf p := fun h => e (kf_inj hq1 hq2 h1 h2 h)
    rw [Maps.has_put_other hne, Maps.atKey_put_other hne]
    simp only [upd, if_neg e]
    exact g3 q hq1 hq2
theorem MapC.look (h : MapC w b n f) {p : Int × Int} (h1 : WF p.1) (h2 : WF p.2) :
    (Instr.lookup 56 (.map (some b)) (fv p) true).run Tryz.prog w = .ok (.tuple #[.int .i64 ((f p).getD 0), .bool (f p).isSome]) w := by
  obtain ⟨D, g1, g3⟩ := h
  obtain ⟨v, ps, r1, r2⟩ := g1.look_ok keyField Tryz.underlying56 (zeroInt w) (plainElem_int Tryz.underlying3 (by decide)) (field_key h1 h2)
  rw [(g3 p h1 h2).2] at r2
  obtain ⟨c, rfl, hc, _⟩ := plainElem_int_inv Tryz.underlying3 r2
  simp only [Prod.mk.injEq, DataW.lit.injEq, Lit.int.injEq, true_and] at hc
  rw [r1, (g3 p h1 h2).1, hc.1]
/-- In a walk: a look-up. -/
theorem wpList_lookC {ops : Array Oper} {rest : List Oper} {o : Oper} {a : Act} {Q : Exit → Act → World → Prop} (w : World) (hg : o.guard = none) (m x : Operand) (hop : o.op = Op.lookup 56 m x true)
    (b n : Nat) (f : Int × Int → Option Int) (hm : a.eval m = .map (some b)) (H : MapC w b n f) (p : Int × Int) (hx : a.eval x = fv p) (h1 : WF p.1) (h2 : WF p.2) (y : Int) (ok : Bool) (hp : (f p).getD 0 = y) (hok : (f p).isSome = ok)
    (hK : wpList Tryz.prog ops Q rest (a.put o.dst (.tuple #[.int .i64 y, .bool ok])) w) : wpList Tryz.prog ops Q (o :: rest) a w := by
  refine wpList_plain hg fun K' hK' => ?_
  have := H.look h1 h2
  rw [hp, hok] at this
  unfold Oper.wp
  simp [execOp, hop, hm, hx, this, Result.andThen]
  exact hK' _ _ hK
end
end Go.Proofs.YtddkhkpdbjjboaaGreat

/- table.field, table.bySymbol, table.byCodeword: their contracts. -/
namespace Go.Proofs.YtddkhkpdbjjboaaGreat
open Go.RowKit
set_option linter.unusedVariables false
set_option linter.unusedSimpArgs false
set_option maxRecDepth 100000

theorem World.size_alloc' (w : World) (o : Obj) : (w.alloc o).heap.size = w.heap.size + 1 := by simp
theorem cell_far {w w' : World} {b g o : Nat} {v : Value} (h : w.grownBy w' (some b)) (hne : g ≠ b) (hc : w.cell? ⟨g, o, none⟩ = some v) : w'.cell? ⟨g, o, none⟩ = some v := by
  have hlt := World.block_lt_of_cell? w _ hc
  have := h.block g hlt (by simpa using hne)
  simp only [World.cell?] at hc ⊢
  rw [this]; exact hc
theorem field_any (s n c : Int) (w : World) : Calls Tryz.prog 48 #[.agg #[.int .i64 s, .int .i64 n, .int .i64 c]] w fun e w' => e = .returned (fv (n, c)) ∧ Below w.heap.size w w' := by
  go_enter Tryz.func48, Tryz.ntmps48
  go_wp2
  exact bodyPost_ret (v := fv (n, c)) (results_cell_row rfl _ _ (w.heap.size + 1) 89 #[.int .i64 n, .int .i64 c] (0, 0) _ rfl (by rw [← World.size_alloc' w (.cells #[.int .i64 s, .int .i64 n, .int .i64 c] 98)]; exact heap_alloc_new _ _) Tryz.underlying89 rfl (by kernel_rfl)) rfl ⟨rfl, below2 _ _ _⟩

abbrev fi (t : Int × Nat × Nat) : Int × Int := ((t.2.1 : Int), (t.2.2 : Int))
def symGo (ws : List (Int × Nat × Nat)) : (Int → Option (Int × Int)) × Nat := ws.foldl (fun st t => (upd st.1 t.1 (fi t), if (st.1 t.1).isSome then st.2 else st.2 + 1)) (fun _ => none, 0)
def symF (ws : List (Int × Nat × Nat)) : Int → Option (Int × Int) := (symGo ws).1
def symS (ws : List (Int × Nat × Nat)) : Nat := (symGo ws).2
theorem symF_snoc (ws : List (Int × Nat × Nat)) (t : Int × Nat × Nat) : symF (ws ++ [t]) = upd (symF ws) t.1 (fi t) := by simp [symF, symGo]
theorem symS_snoc (ws : List (Int × Nat × Nat)) (t : Int × Nat × Nat) : symS (ws ++ [t]) = if (symF ws t.1).isSome then symS ws else symS ws + 1 := by unfold symS symF symGo; rw [List.foldl_append]; rfl
def codeF (ws : List (Int × Nat × Nat)) : Int × Int → Option Int := ws.foldl (fun f t => upd f (fi t) t.1) (fun _ => none)
theorem codeF_snoc (ws : List (Int × Nat × Nat)) (t : Int × Nat × Nat) : codeF (ws ++ [t]) = upd (codeF ws) (fi t) t.1 := by simp [codeF]

theorem make_map (n : Nat) (w : World) : (Instr.makeMap 82 (some (.int .i64 (n : Int)))).run Tryz.prog w = .ok (.map (some w.heap.size)) (w.alloc (.map #[] 0)) := by
  simp [Instr.makeMap, run_underlying Tryz.underlying82, asInt, newObj]
  rfl
set_option maxRecDepth 100000 in
set_option maxHeartbeats 2000000 in
theorem bySymbol_any (A : Option Addr) (c G : Nat) (ws : List (Int × Nat × Nat)) (w : World) (hs : Seen w G A (tripleCells ws)) (hG : G ≤ w.heap.size) (hl : ws.length ≤ 1048576) (hwf : ∀ t ∈ ws, WF t.1) :
    Calls Tryz.prog 66 #[.slice A ws.length c] w fun e w' => ∃ b, e = .returned (.map (some b)) ∧ w.heap.size ≤ b ∧ MapF w' b ws.length (symF ws) (symS ws) ∧ Below w.heap.size w w' := by
  have hmm := make_map ws.length w
  have Hwf := veil hwf; clear hwf
  go_enter Tryz.func66, Tryz.ntmps66
  go_wp2_with fail
  go_loopg [5, 11] ws.length (fun gk p i wr => ∃ k : Nat, gk = ws.length - k ∧ k ≤ ws.length ∧ i = .int .i64 k ∧ MapF wr w.heap.size k (symF (ws.take k)) (symS (ws.take k)) ∧ Below w.heap.size w wr)
  case atStart => exact ⟨0, rfl, Nat.zero_le _, rfl, MapF.made w, below1 _ _⟩
  case round =>
    obtain ⟨k, rfl, hk, rfl, HM, hbel⟩ := hrel
    by_cases hlt : k < ws.length
    · obtain ⟨g, o, s, n, cd, rfl, hg, hx, h1, h2, h3⟩ := hs.triple hlt
      have hz := hbel.size
      rw [← hbel.cell (by simp; omega)] at h1 h2 h3
      have Hx := veil hx; clear hx
      go_wp2_with fail
      have hlen : k < maxLen := by unfold maxLen; omega
      have hwx : WF s := Hwf.out _ (List.mem_of_getElem? Hx.out)
      have Hwx := veil hwx; clear hwx
      have hne : wr.heap.size ≠ w.heap.size := by have := HM.lt; omega
      have HM2 := HM.below (below1 wr (Obj.cells #[Value.int IntKind.i64 s, Value.int IntKind.i64 (n : Int), Value.int IntKind.i64 (cd : Int)] 98)) HM.lt
      have hbel2 := hbel.trans ((below1 wr (Obj.cells #[Value.int IntKind.i64 s, Value.int IntKind.i64 (n : Int), Value.int IntKind.i64 (cd : Int)] 98)).mono hz)
      have c0 : (wr.alloc (Obj.cells #[Value.int IntKind.i64 s, Value.int IntKind.i64 (n : Int), Value.int IntKind.i64 (cd : Int)] 98)).cell? ⟨wr.heap.size, 0, none⟩ = some (.int .i64 s) := by simp
      have c1 : (wr.alloc (Obj.cells #[Value.int IntKind.i64 s, Value.int IntKind.i64 (n : Int), Value.int IntKind.i64 (cd : Int)] 98)).cell? ⟨wr.heap.size, 1, none⟩ = some (.int .i64 (n : Int)) := by simp
      have c2 : (wr.alloc (Obj.cells #[Value.int IntKind.i64 s, Value.int IntKind.i64 (n : Int), Value.int IntKind.i64 (cd : Int)] 98)).cell? ⟨wr.heap.size, 2, none⟩ = some (.int .i64 (cd : Int)) := by simp
      have hsz : wr.heap.size < (wr.alloc (Obj.cells #[Value.int IntKind.i64 s, Value.int IntKind.i64 (n : Int), Value.int IntKind.i64 (cd : Int)] 98)).heap.size := by simp
      generalize wr.alloc (Obj.cells #[Value.int IntKind.i64 s, Value.int IntKind.i64 (n : Int), Value.int IntKind.i64 (cd : Int)] 98) = W at *
      clear h1 h2 h3 HM hbel hs
      generalize wr.heap.size = B at *
      go_region_held3 (fun w' => w'.cell? ⟨B, 0, none⟩ = some (.int .i64 s) ∧ w'.cell? ⟨B, 1, none⟩ = some (.int .i64 (n : Int)) ∧ w'.cell? ⟨B, 2, none⟩ = some (.int .i64 (cd : Int)))
        (first
          | go_keep
          | (go_split_ands
             refine ⟨?_, ?_, ?_⟩
             · (first | (refine (hb1.cell hsz).trans ?_; assumption) | (refine cell_far hgr2 hne ?_; assumption))
             · (first | (refine (hb1.cell hsz).trans ?_; assumption) | (refine cell_far hgr2 hne ?_; assumption))
             · (first | (refine (hb1.cell hsz).trans ?_; assumption) | (refine cell_far hgr2 hne ?_; assumption))))
        (first
          | (go_at_call 48; refine (field_any s n cd _).mono ?_; rintro e w1 ⟨rfl, hb1⟩; obtain ⟨w2, hup, HM3, hgr2⟩ := (HM2.below (below_of_drew hb1) HM2.lt).store hlen Hwx.out ((n : Int), (cd : Int)))
          | fail)
      have hbel3 : Below w.heap.size w w2 := (hbel2.trans ((below_of_drew hb1).mono hbel2.size)).grown hgr2 (Nat.le_trans hbel2.size hb1.size) (fun j hj => by injection hj with hj; omega)
      have HM4 : MapF w2 w.heap.size (k + 1) (symF (ws.take (k + 1))) (symS (ws.take (k + 1))) := by
        rw [take_snoc Hx.out, symF_snoc, symS_snoc]; exact HM3
      clear HM2 HM3 hup hbel2 hb1 hgr2
      go_wp2_with fail
      go_roundg (ws.length - (k + 1))
      case rel => exact ⟨k + 1, rfl, by omega, by go_num, HM4, hbel3⟩
      case measure => omega
    · obtain rfl : k = ws.length := by omega
      rw [List.take_length] at HM
      go_wp2
      go_ret
      exact ⟨_, rfl, Nat.le_refl _, HM, hbel⟩
end Go.Proofs.YtddkhkpdbjjboaaGreat

/- table.Check and table.Words: their contracts. -/
namespace Go.Proofs.YtddkhkpdbjjboaaGreat
open Go.RowKit
set_option linter.unusedVariables false
set_option linter.unusedSimpArgs false
set_option maxRecDepth 100000

def nats (cs : List Int) : List Nat := cs.map Int.toNat
theorem nats_length (cs : List Int) : (nats cs).length = cs.length := by simp [nats]
theorem natI_nats {cs : List Int} (h : ∀ x ∈ cs, 0 ≤ x) : natI (nats cs) = cs := by
  unfold natI nats
  rw [List.map_map]
  conv => rhs; rw [← List.map_id cs]
  refine List.map_congr_left fun x hx => ?_
  have := h x hx
  simp; omega
theorem nats_sum {cs : List Int} (h : ∀ x ∈ cs, 0 ≤ x) : ((nats cs).sum : Int) = sumW cs := by
  induction cs with
  | nil => rfl
  | cons x l ih =>
    have h1 := ih fun y hy => h y (by simp [hy])
    have h2 := h x (by simp)
    simp [nats, sumW] at h1 ⊢
    omega
def SymOk (syms : List Int) : Prop := ∀ s ∈ syms, 0 ≤ s ∧ s ≤ 255
instance (syms : List Int) : Decidable (SymOk syms) := by unfold SymOk; infer_instance
/-- What Check says. -/
def checkErr (cs syms : List Int) : Int :=
  if Good cs syms.length then if SymOk syms then if (codes (nats cs)).isSome = true ∧ syms.Nodup then 0 else 4 else 1 else 4
theorem checkErr_form {cs syms : List Int} (h : ¬ Good cs syms.length) : checkErr cs syms = 4 := by unfold checkErr; rw [if_neg h]
theorem checkErr_arg {cs syms : List Int} (h : Good cs syms.length) (h2 : ¬ SymOk syms) : checkErr cs syms = 1 := by unfold checkErr; rw [if_pos h, if_neg h2]
theorem checkErr_bad {cs syms : List Int} (h : Good cs syms.length) (h2 : SymOk syms) (h3 : ¬ ((codes (nats cs)).isSome = true ∧ syms.Nodup)) : checkErr cs syms = 4 := by unfold checkErr; rw [if_pos h, if_pos h2, if_neg h3]
theorem checkErr_ok {cs syms : List Int} (h : Good cs syms.length) (h2 : SymOk syms) (h3 : (codes (nats cs)).isSome = true) (h4 : syms.Nodup) : checkErr cs syms = 0 := by unfold checkErr; rw [if_pos h, if_pos h2, if_pos ⟨h3, h4⟩]
theorem checkErr_zero {cs syms : List Int} (h : checkErr cs syms = 0) : Good cs syms.length ∧ SymOk syms ∧ (codes (nats cs)).isSome = true ∧ syms.Nodup := by
  unfold checkErr at h
  split at h
  · rename_i h1
    split at h
    · rename_i h2
      split at h
      · rename_i h3
        exact ⟨h1, h2, h3.1, h3.2⟩
      · cases h
    · cases h
  · cases h
/-! ### how many symbols a map of them has -/
theorem snoc_ind {α : Type} {p : List α → Prop} (h0 : p []) (h1 : ∀ l a, p l → p (l ++ [a])) (l : List α) : p l := by
  have key : ∀ n (l : List α), l.length = n → p l := by
    intro n
    induction n with
    | zero => intro l h; rw [List.length_eq_zero_iff.1 h]; exact h0
    | succ n ih =>
      intro l h
      obtain ⟨a, b, rfl⟩ := list_snoc l (by intro e; rw [e] at h; cases h)
      exact h1 a b (ih a (by simp at h; omega))
  exact key _ l rfl
theorem symF_some (ws : List (Int × Nat × Nat)) (x : Int) : (symF ws x).isSome = true ↔ x ∈ ws.map (·.1) := by
  induction ws using snoc_ind with
  | h0 => simp [symF, symGo]
  | h1 ws t ih =>
    rw [symF_snoc]
    unfold upd
    by_cases e : x = t.1
    · subst e; simp
    · rw [if_neg e, ih]; simp [e]
theorem symS_nodup (ws : List (Int × Nat × Nat)) : symS ws ≤ ws.length ∧ (symS ws = ws.length ↔ (ws.map (·.1)).Nodup) := by
  induction ws using snoc_ind with
  | h0 => simp [symS, symGo]
  | h1 ws t ih =>
    rw [symS_snoc]
    by_cases h : (symF ws t.1).isSome = true
    · rw [if_pos h]
      have h2 := (symF_some ws t.1).1 h
      refine ⟨by simp; omega, ⟨fun e => by simp at e; omega, fun e => ?_⟩⟩
      rw [List.map_append, List.nodup_append] at e
      exact absurd rfl (e.2.2 _ h2 t.1 (by simp))
    · rw [if_neg h]
      have h2 : t.1 ∉ ws.map (·.1) := fun e => h ((symF_some ws t.1).2 e)
      refine ⟨by simp; omega, ?_⟩
      rw [List.map_append, List.nodup_append, List.length_append, ← ih.2]
      simp only [List.length_cons, List.length_nil, Nat.add_right_cancel_iff]
      refine ⟨fun e => ⟨by omega, by simp, fun a ha b hb => ?_⟩, fun e => by omega⟩
      simp at hb
      subst hb
      intro e2
      subst e2
      exact h2 ha
/-- What a good table gives. -/
structure Fine (cs syms : List Int) (l : List (Nat × Nat)) : Prop where
  good : Good cs syms.length
  ok : SymOk syms
  code : codes (nats cs) = some l
  nodup : syms.Nodup
theorem mkWords_fst {syms : List Int} {l : List (Nat × Nat)} (h : l.length = syms.length) : (mkWords syms l).map (·.1) = syms := by
  unfold mkWords
  apply List.ext_getElem?
  intro i
  rw [List.getElem?_map, List.getElem?_zipWith]
  by_cases hi : i < syms.length
  · rw [List.getElem?_eq_getElem hi, List.getElem?_eq_getElem (by omega : i < l.length)]; rfl
  · rw [List.getElem?_eq_none (by omega : syms.length ≤ i)]; rfl
theorem Good.sum {cs : List Int} {n : Nat} (h : Good cs n) : (nats cs).sum = n := by
  have := nats_sum h.1; have := h.2.2; omega
theorem Good.le {cs : List Int} {n : Nat} (h : Good cs n) : n ≤ 256 := by have := h.2.1; have := h.2.2; omega
theorem notSym {syms : List Int} {k : Nat} {x : Int} (hx : syms[k]? = some x) (h : x < 0 ∨ 255 < x) : ¬ SymOk syms := fun e => by have := e x (List.mem_of_getElem? hx); omega

set_option maxRecDepth 100000 in
set_option maxHeartbeats 2000000 in
theorem check_any (cs syms : List Int) (A : Option Addr) (c G : Nat) (w : World) (hcs : cs.length = 16) (hn : syms.length ≤ maxLen) (hb : ∀ x ∈ cs, -9223372036854775808 ≤ x ∧ x ≤ 9223372036854775807) (hs : Seen w G A (ints .i64 syms)) (hG : G ≤ w.heap.size) :
    Calls Tryz.prog 39 #[tabV cs A syms.length c] w fun e w' => e = .returned (.int .i64 (checkErr cs syms)) ∧ Below w.heap.size w w' := by
  have h16 : (tabCells cs A syms.length c)[16]? = some (.slice A syms.length c) := tabCells_last hcs
  have hlen17 : (tabCells cs A syms.length c).length = 17 := tabCells_length hcs
  have hcm := fun w => countsMatch_any cs A syms.length c w hcs hn hb
  have has : Hid (Good cs syms.length → ∀ w1, Seen w1 G A (ints .i64 syms) → G ≤ w1.heap.size → Calls Tryz.prog 65 #[tabV cs A syms.length c] w1 fun e w' => ∃ v, e = .returned (.tuple #[v, .bool (codes (nats cs)).isSome]) ∧ Owns w1.heap.size [wordRow v (tabWords (nats cs) syms)] w' ∧ Below w1.heap.size w1 w') := by
    show _ → _
    intro hg w1 hs1 hG1
    have := assign_any (nats cs) syms A c G w1 (by rw [nats_length]; exact hcs) hg.sum hg.le hs1 hG1
    rw [natI_nats hg.1] at this
    exact this
  unfold maxLen at hn
  have Hcs := veil hcs; have Hb := veil hb
  clear hcs hb
  obtain ⟨xs, hxs⟩ : ∃ xs, xs = tabCells cs A syms.length c := ⟨_, rfl⟩
  have Hr := veil (range_new w xs 25)
  unfold tabV at hcm has ⊢
  rw [← hxs] at h16 hlen17 hcm has ⊢
  clear hxs
  have Hcm := veil hcm; clear hcm
  have H17 := veil hlen17; clear hlen17
  by_cases hgood : Good cs syms.length
  · have hgb : goodB cs syms.length = true := goodB_iff.2 hgood
    have h256 := hgood.le
    have Hg := veil hgood; clear hgood
    have Hgb := veil hgb; clear hgb
    go_enter Tryz.func39, Tryz.ntmps39
    go_wp2_with (first
      | (refine wpList_load_mid rfl 25 (.tmp 1) rfl w.heap.size 0 rfl xs _ Hr.out Tryz.underlying25 rfl (by rw [H17.out]; exact info_tab) ?_)
      | fail)
    refine (Hcm.out _).mono ?_
    rintro e w1 ⟨rfl, hb1⟩
    rw [Hgb.out]
    have c16 : w1.cell? ⟨w.heap.size, 16, none⟩ = some (.slice A syms.length c) := by
      rw [hb1.cell (by simp), World.cell?_alloc_at _ _ _ _ rfl]; simpa using h16
    have hr1 : w1.rangeAt w.heap.size 0 xs := range_below Hr.out hb1 (by simp)
    have hbel1 : Below w.heap.size w w1 := (below1 _ _).trans (hb1.mono (by simp))
    have hz1 := hb1.size
    simp at hz1
    have Hr1 := veil hr1
    clear Hr hr1 hb1 h16
    go_wp2_with fail
    go_loopg [4, 13] syms.length (fun gk x i wr => ∃ k : Nat, gk = syms.length - k ∧ k ≤ syms.length ∧ i = .int .i64 k ∧ Hid (∀ s ∈ syms.take k, 0 ≤ s ∧ s ≤ 255) ∧ wr = w1)
    case atStart => exact ⟨0, rfl, Nat.zero_le _, rfl, veil (by simp), rfl⟩
    case round =>
      obtain ⟨k, rfl, hk, rfl, HP, rfl⟩ := hrel
      by_cases hlt : k < syms.length
      · obtain ⟨g, o, x, rfl, hg, hx, h1⟩ := hs.int hlt
        rw [← hbel1.cell (by simp; omega)] at h1
        have Hx := veil hx; clear hx
        by_cases hx0 : x < 0
        · have He := veil (checkErr_arg Hg.out (notSym Hx.out (.inl hx0)))
          go_wp2
          go_ret
          exact ⟨by rw [He.out]; rfl, hbel1⟩
        · by_cases hx1 : 255 < x
          · have He := veil (checkErr_arg Hg.out (notSym Hx.out (.inr hx1)))
            go_wp2
            go_ret
            exact ⟨by rw [He.out]; rfl, hbel1⟩
          · go_wp2
            go_roundg (syms.length - (k + 1))
            case rel => exact ⟨k + 1, rfl, by omega, by go_num, veil (mem_snoc Hx.out HP.out (by omega)), rfl⟩
            case measure => omega
      · obtain rfl : k = syms.length := by omega
        have hsok : SymOk syms := by have := HP.out; rw [List.take_length] at this; exact this
        have Hs := veil hsok; clear hsok
        go_wp2_with (first
          | (refine wpList_load_mid rfl 25 (.tmp 1) rfl w.heap.size 0 rfl xs _ Hr1.out Tryz.underlying25 rfl (by rw [H17.out]; exact info_tab) ?_)
          | fail)
        refine (has.out Hg.out _ (hs.below hbel1 hG) (by omega)).mono ?_
        rintro e w2 ⟨v, rfl, HO, hb2⟩
        have hbel2 := hbel1.trans (hb2.mono (by omega))
        cases hco : codes (nats cs) with
        | none =>
          have He := veil (checkErr_bad Hg.out Hs.out (fun h => by rw [hco] at h; cases h.1))
          simp only [Option.isSome_none]
          go_wp2
          go_ret
          exact ⟨by rw [He.out]; rfl, hbel2⟩
        | some l =>
          simp only [Option.isSome_some]
          have hll : l.length = syms.length := (codes_length hco).trans Hg.out.sum
          have hw : tabWords (nats cs) syms = mkWords syms l := by unfold tabWords; rw [hco]; rfl
          rw [hw] at HO
          have hwl : (mkWords syms l).length = syms.length := by rw [mkWords_length _ _ (by omega), hll]
          have hfst := mkWords_fst hll
          have hnd := symS_nodup (mkWords syms l)
          rw [hfst] at hnd
          have hwf : ∀ t ∈ mkWords syms l, WF t.1 := by
            intro t ht
            have h1 : t.1 ∈ syms := by rw [← hfst]; exact List.mem_map_of_mem ht
            have := Hs.out _ h1
            exact wf_of (by omega)
          have Hwf := veil hwf
          obtain ⟨A5, c5, e5, hs5, _, _⟩ := HO.seen (List.mem_cons_self ..)
          simp only [wordRow] at e5 hs5
          rw [hwl] at e5 hnd
          subst e5
          have Hwl := veil hwl; have Hnd := veil hnd; have Hco := veil hco
          clear hwl hnd hfst hw hll hwf hco HO
          have hby := fun w0 (h : Seen w0 w2.heap.size A5 (tripleCells (mkWords syms l))) hG0 => bySymbol_any A5 c5 w2.heap.size (mkWords syms l) w0 h hG0 (by rw [Hwl.out]; omega) Hwf.out
          rw [Hwl.out] at hby
          have Hby := veil hby; clear hby
          generalize mkWords syms l = ws at *
          have hcn : (codes (nats cs)).isSome = true := by rw [Hco.out]; rfl
          have Hcn := veil hcn; clear hcn
          generalize hS : symS ws = S at *
          have Hle : S ≤ syms.length := Hnd.out.1
          go_wp2_with fail
          refine (Hby.out _ hs5 (Nat.le_refl _)).mono ?_
          rintro e w3 ⟨b, rfl, hbb, HM, hb3⟩
          have hml := fun ty => HM.len ty
          have hbel3 := hbel2.trans (hb3.mono hbel2.size)
          by_cases hnd : syms.Nodup
          · have He := veil (checkErr_ok Hg.out Hs.out Hcn.out hnd)
            have hSl := Hnd.out.2.2 hnd
            have hSl' : ¬ (S : Int) < (syms.length : Int) := by omega
            clear hSl hnd HM hs5
            go_wp2
            go_ret
            exact ⟨by rw [He.out]; rfl, hbel3⟩
          · have He := veil (checkErr_bad Hg.out Hs.out fun h => hnd h.2)
            have hSl : S ≠ syms.length := fun e => hnd (Hnd.out.2.1 e)
            have hSl' : (S : Int) < (syms.length : Int) := by omega
            clear hSl hnd HM hs5
            go_wp2
            go_ret
            exact ⟨by rw [He.out]; rfl, hbel3⟩
  · have hgb : goodB cs syms.length = false := goodB_no hgood
    have He := veil (checkErr_form hgood)
    have Hgb := veil hgb; clear hgb hgood
    go_enter Tryz.func39, Tryz.ntmps39
    go_wp2_with (first
      | (refine wpList_load_mid rfl 25 (.tmp 1) rfl w.heap.size 0 rfl xs _ Hr.out Tryz.underlying25 rfl (by rw [H17.out]; exact info_tab) ?_)
      | fail)
    refine (Hcm.out _).mono ?_
    rintro e w1 ⟨rfl, hb1⟩
    rw [Hgb.out]
    go_wp2
    go_ret
    exact ⟨by rw [He.out]; rfl, (below1 _ _).trans (hb1.mono (by simp))⟩
end Go.Proofs.YtddkhkpdbjjboaaGreat

/- table.Words: its contract. -/
namespace Go.Proofs.YtddkhkpdbjjboaaGreat
open Go.RowKit
set_option linter.unusedVariables false
set_option linter.unusedSimpArgs false
set_option maxRecDepth 100000

/-- The words that Words hands back. -/
def outWords (cs syms : List Int) : List (Int × Nat × Nat) := if checkErr cs syms = 0 then tabWords (nats cs) syms else []
theorem outWords_err {cs syms : List Int} (h : checkErr cs syms ≠ 0) : outWords cs syms = [] := by unfold outWords; rw [if_neg h]
theorem outWords_ok {cs syms : List Int} (h : checkErr cs syms = 0) : outWords cs syms = tabWords (nats cs) syms := by unfold outWords; rw [if_pos h]
theorem fine_of {cs syms : List Int} (h : checkErr cs syms = 0) : ∃ l, Fine cs syms l ∧ outWords cs syms = mkWords syms l ∧ l.length = syms.length := by
  obtain ⟨h1, h2, h3, h4⟩ := checkErr_zero h
  obtain ⟨l, hl⟩ := Option.isSome_iff_exists.1 h3
  exact ⟨l, ⟨h1, h2, hl, h4⟩, by rw [outWords_ok h]; unfold tabWords; rw [hl]; rfl, (codes_length hl).trans h1.sum⟩

set_option maxRecDepth 100000 in
set_option maxHeartbeats 2000000 in
theorem words_any (cs syms : List Int) (A : Option Addr) (c G : Nat) (w : World) (hcs : cs.length = 16) (hn : syms.length ≤ maxLen) (hb : ∀ x ∈ cs, -9223372036854775808 ≤ x ∧ x ≤ 9223372036854775807) (hs : Seen w G A (ints .i64 syms)) (hG : G ≤ w.heap.size) :
    Calls Tryz.prog 47 #[tabV cs A syms.length c] w fun e w' => ∃ v, e = .returned (.tuple #[v, .int .i64 (checkErr cs syms)]) ∧ Owns w.heap.size [wordRow v (outWords cs syms)] w' ∧ Below w.heap.size w w' := by
  have hlen17 : (tabCells cs A syms.length c).length = 17 := tabCells_length hcs
  have hck := fun w1 h1 hG1 => check_any cs syms A c G w1 hcs hn hb h1 hG1
  have has : Hid (Good cs syms.length → ∀ w1, Seen w1 G A (ints .i64 syms) → G ≤ w1.heap.size → Calls Tryz.prog 65 #[tabV cs A syms.length c] w1 fun e w' => ∃ v, e = .returned (.tuple #[v, .bool (codes (nats cs)).isSome]) ∧ Owns w1.heap.size [wordRow v (tabWords (nats cs) syms)] w' ∧ Below w1.heap.size w1 w') := by
    show _ → _
    intro hg w1 hs1 hG1
    have := assign_any (nats cs) syms A c G w1 (by rw [nats_length]; exact hcs) hg.sum hg.le hs1 hG1
    rw [natI_nats hg.1] at this
    exact this
  clear hcs hb
  obtain ⟨xs, hxs⟩ : ∃ xs, xs = tabCells cs A syms.length c := ⟨_, rfl⟩
  have Hr := veil (range_new w xs 25)
  unfold tabV at hck has ⊢
  rw [← hxs] at hlen17 hck has ⊢
  clear hxs
  have Hck := veil hck; clear hck
  have H17 := veil hlen17; clear hlen17
  go_enter Tryz.func47, Tryz.ntmps47
  go_wp2_with (first
    | (refine wpList_load_mid rfl 25 (.tmp 1) rfl w.heap.size 0 rfl xs _ Hr.out Tryz.underlying25 rfl (by rw [H17.out]; exact info_tab) ?_)
    | fail)
  refine (Hck.out _ (hs.alloc hG _) (by simp; omega)).mono ?_
  rintro e w1 ⟨rfl, hb1⟩
  have hr1 : w1.rangeAt w.heap.size 0 xs := range_below Hr.out hb1 (by simp)
  have hbel1 : Below w.heap.size w w1 := (below1 _ _).trans (hb1.mono (by simp))
  have hz1 := hb1.size
  simp at hz1
  have Hr1 := veil hr1
  clear Hr hr1 hb1
  by_cases h0 : checkErr cs syms = 0
  · obtain ⟨hg, _, hco, _⟩ := checkErr_zero h0
    have Hg := veil hg; have Hco := veil hco; have Ho := veil (outWords_ok h0)
    have H0 := veil h0
    clear hg hco
    rw [h0]
    go_wp2_with (first
      | (refine wpList_load_mid rfl 25 (.tmp 1) rfl w.heap.size 0 rfl xs _ Hr1.out Tryz.underlying25 rfl (by rw [H17.out]; exact info_tab) ?_)
      | fail)
    refine (has.out Hg.out _ (hs.below hbel1 hG) (by omega)).mono ?_
    rintro e w2 ⟨v, rfl, HO, hb2⟩
    go_wp2
    go_ret2
    exact ⟨v, ret_two rfl (by rw [H0.out]; rfl), by rw [Ho.out]; exact HO.down (by omega), hbel1.trans (hb2.mono (by omega))⟩
  · have Ho := veil (outWords_err h0)
    have hne : (checkErr cs syms != 0) = true := by simpa using h0
    clear h0
    obtain ⟨E, hE⟩ : ∃ E, E = checkErr cs syms := ⟨_, rfl⟩
    rw [← hE] at hne ⊢
    have HE := veil hE; clear hE
    go_wp2
    go_ret2
    exact ⟨_, ret_two rfl (by rw [← HE.out]; rfl), by rw [Ho.out]; exact (Owns.nil hbel1.size).fresh _ _, hbel1⟩
end Go.Proofs.YtddkhkpdbjjboaaGreat

/- A byte's zero and sizes. -/
namespace Go.Proofs.YtddkhkpdbjjboaaGreat
open Go.RowKit
set_option linter.unusedVariables false
set_option linter.unusedSimpArgs false
set_option maxRecDepth 100000

theorem info_byte : (Tryz.prog.info? 5).map (fun i => (i.zero, i.size, i.bytes)) = some (some (.int .u8 0), 1, 1) := by kernel_rfl
end Go.Proofs.YtddkhkpdbjjboaaGreat

/- bits.isWidth and bits.fits. -/
namespace Go.Proofs.YtddkhkpdbjjboaaGreat
open Go.RowKit
set_option linter.unusedVariables false
set_option linter.unusedSimpArgs false
set_option maxRecDepth 100000

/-- Is it a width? -/
def okW (x : Int) : Bool := decide (0 ≤ x ∧ x ≤ 24)
theorem isWidth_any (x : Int) (w : World) : Calls Tryz.prog 92 #[.int .i64 x] w fun e w' => e = .returned (.bool (okW x)) ∧ w = w' := by
  have Hd : Hid (okW x = (decide (0 ≤ x) && decide (x ≤ 24))) := by simp [Hid, okW]
  by_cases h1 : 0 ≤ x <;> by_cases h2 : x ≤ 24 <;>
  · go_enter Tryz.func92, Tryz.ntmps92
    go_wp2
    go_ret
    exact ⟨ret_bool (by rw [Hd.out]; symm; simp; omega), rfl⟩
theorem pow_le_24 (n : Nat) (h : n ≤ 24) : (2 : Int) ^ n ≤ 16777216 := by
  have : 2 ^ n ≤ 2 ^ 24 := Nat.pow_le_pow_right (by omega) h
  have h2 : ((2 ^ n : Nat) : Int) ≤ ((2 ^ 24 : Nat) : Int) := by omega
  simpa using h2
theorem pow_pos' (n : Nat) : (0 : Int) < 2 ^ n := Int.pow_pos (by decide)
theorem wrap_pow (n : Nat) (h : n ≤ 24) : IntKind.i64.wrap (2 ^ n) = 2 ^ n := by
  have h1 := pow_le_24 n h
  have h2 := pow_pos' n
  rw [IntKind.wrap_i64]; omega

def fitsB (f : Int × Int) : Bool := decide (okF f)
theorem fitsB_eq (x y : Int) : fitsB (x, y) = (okW x && (decide (0 ≤ y) && decide (y < 2 ^ x.toNat))) := by
  by_cases h1 : 0 ≤ x <;> by_cases h2 : x ≤ 24 <;> simp [fitsB, okF, okW, h1, h2]
set_option maxHeartbeats 400000 in
theorem fits_any (x y : Int) (w : World) :
    Calls Tryz.prog 88 #[.agg #[.int .i64 x, .int .i64 y]] w fun e w' => e = .returned (.bool (fitsB (x, y))) ∧ Below w.heap.size w w' := by
  by_cases h : okW x = true
  · by_cases h2 : 0 ≤ y
    · have hd : decide (0 ≤ y) = true := by simpa using h2
      go_enter Tryz.func88, Tryz.ntmps88
      have hx : 0 ≤ x ∧ x ≤ 24 := by simpa [okW] using h
      obtain ⟨hx0, hx1⟩ := hx
      go_wp2_with fail
      go_quiet ((go_at_call 92; exact Calls.quiet_of_same ((isWidth_any _ _).mono fun _ _ h => ⟨h.1, h.2.symm⟩)))
      go_wp2
      go_ret
      refine ⟨ret_bool ?_, (below1 _ _).drewN _⟩
      rw [wrap_pow _ (by omega)]
      rw [fitsB_eq, h, hd]; simp
    · have hd : decide (0 ≤ y) = false := by simpa using h2
      go_enter Tryz.func88, Tryz.ntmps88
      go_wp2_with fail
      go_quiet ((go_at_call 92; exact Calls.quiet_of_same ((isWidth_any _ _).mono fun _ _ h => ⟨h.1, h.2.symm⟩)))
      go_wp2
      go_ret
      refine ⟨ret_bool ?_, (below1 _ _).drewN _⟩
      rw [fitsB_eq, hd]; simp
  · have h' : okW x = false := by simpa using h
    go_enter Tryz.func88, Tryz.ntmps88
    clear h
    go_wp2_with fail
    go_quiet ((go_at_call 92; exact Calls.quiet_of_same ((isWidth_any _ _).mono fun _ _ h => ⟨h.1, h.2.symm⟩)))
    go_wp2
    go_ret
    refine ⟨ret_bool ?_, (below1 _ _).drewN _⟩
    rw [fitsB_eq, h']; simp
end Go.Proofs.YtddkhkpdbjjboaaGreat

/- Two small facts on numbers. -/
namespace Go.Proofs.YtddkhkpdbjjboaaGreat
open Go.RowKit
theorem wrap64_nat (n : Nat) (h : n < 9223372036854775808) : wrap64 (n : Int) = n := by unfold wrap64; omega
theorem two_pow_lt (a b : Nat) (h : a ≤ b) : 2 ^ a ≤ 2 ^ b := Nat.pow_le_pow_right (by omega) h
end Go.Proofs.YtddkhkpdbjjboaaGreat

/- bits.Write: its contract. -/
namespace Go.Proofs.YtddkhkpdbjjboaaGreat
open Go.RowKit
set_option linter.unusedVariables false
set_option linter.unusedSimpArgs false
set_option maxRecDepth 100000

structure WInv (w : World) (l : List (Int × Int)) (k : Nat) (v : Value) (p c : Nat) (out : List Int) (wr : World) : Prop where
  c31 : c ≤ 31
  pc : p < 2 ^ c
  by_ : Bytes out
  eq : unpack out ++ bitsN c p = fieldBits (l.take k)
  ok : ∀ f ∈ l.take k, okF f
  own : wr.ownsRow w.heap.size 5 1 v out.length (ints .u8 out)
  bel : Below w.heap.size w wr

theorem fieldBits_le (l : List (Int × Int)) (h : ∀ f ∈ l, okF f) : (fieldBits l).length ≤ 24 * l.length := by
  induction l with
  | nil => simp [fieldBits]
  | cons f l ih =>
    have h1 := (h f (by simp)).1
    have h2 := ih fun g hg => h g (by simp [hg])
    rw [fieldBits_cons, List.length_append, bitsN_length, List.length_cons]; omega
theorem WInv.len {w : World} {l : List (Int × Int)} {k : Nat} {v : Value} {p c : Nat} {out : List Int} {wr : World} (h : WInv w l k v p c out wr) : out.length ≤ 3 * l.length := by
  have h1 := congrArg List.length h.eq
  have h2 := fieldBits_le _ h.ok
  simp [unpack_length, bitsN_length] at h1 h2
  omega
theorem nat_or_low (a i b : Nat) (h : b < 2 ^ i) : a * 2 ^ i ||| b = a * 2 ^ i + b := by
  rw [Nat.mul_comm, Nat.two_pow_add_eq_or_of_lt h]
theorem i64_or (a b : Nat) (ha : a < 9223372036854775808) (hb : b < 9223372036854775808) : bits .or .i64 (a : Int) (b : Int) = ((a ||| b : Nat) : Int) := by
  have hx : a ||| b < 2 ^ 63 := Nat.or_lt_two_pow (by omega) (by omega)
  have e1 : (BitVec.ofInt 64 (a : Int)).toNat = a := by rw [BitVec.ofInt_natCast, BitVec.toNat_ofNat]; exact Nat.mod_eq_of_lt (by omega)
  have e2 : (BitVec.ofInt 64 (b : Int)).toNat = b := by rw [BitVec.ofInt_natCast, BitVec.toNat_ofNat]; exact Nat.mod_eq_of_lt (by omega)
  show IntKind.i64.wrap ((BitVec.ofInt 64 (a : Int) ||| BitVec.ofInt 64 (b : Int)).toNat : Int) = _
  rw [BitVec.toNat_or, e1, e2, IntKind.wrap_i64]
  omega
theorem i64_and (a b : Nat) (ha : a < 9223372036854775808) (hb : b < 9223372036854775808) : bits .and .i64 (a : Int) (b : Int) = ((a &&& b : Nat) : Int) := by
  have hx : a &&& b < 2 ^ 63 := Nat.and_lt_two_pow _ (by omega)
  have e1 : (BitVec.ofInt 64 (a : Int)).toNat = a := by rw [BitVec.ofInt_natCast, BitVec.toNat_ofNat]; exact Nat.mod_eq_of_lt (by omega)
  have e2 : (BitVec.ofInt 64 (b : Int)).toNat = b := by rw [BitVec.ofInt_natCast, BitVec.toNat_ofNat]; exact Nat.mod_eq_of_lt (by omega)
  show IntKind.i64.wrap ((BitVec.ofInt 64 (a : Int) &&& BitVec.ofInt 64 (b : Int)).toNat : Int) = _
  rw [BitVec.toNat_and, e1, e2, IntKind.wrap_i64]
  omega
theorem and_step (P D : Nat) (hP : P < 2 ^ (D + 8)) (hD : D + 8 ≤ 31) : bits BinOp.and IntKind.i64 (P : Int) (wrap64 (wrap64 (2 ^ D) - 1)) = ((P % 2 ^ D : Nat) : Int) := by
  have h1 : 2 ^ (D + 8) ≤ 2 ^ 31 := two_pow_lt _ _ hD
  have h2 : 2 ^ D ≤ 2 ^ 31 := two_pow_lt _ _ (by omega)
  have h3 := Nat.two_pow_pos D
  have e1 : wrap64 ((2 : Int) ^ D) = ((2 ^ D : Nat) : Int) := by rw [show ((2 : Int) ^ D) = ((2 ^ D : Nat) : Int) by simp]; exact wrap64_nat _ (by omega)
  have e2 : wrap64 (((2 ^ D : Nat) : Int) - 1) = ((2 ^ D - 1 : Nat) : Int) := by rw [show ((2 ^ D : Nat) : Int) - 1 = ((2 ^ D - 1 : Nat) : Int) by omega]; exact wrap64_nat _ (by omega)
  rw [e1, e2, i64_and _ _ (by omega) (by omega), Nat.and_two_pow_sub_one_eq_mod]
theorem or_step (p c X Y : Nat) (hp : p < 2 ^ c) (hY : Y < 2 ^ X) (hc : c < 8) (hX : X ≤ 24) :
    bits BinOp.or IntKind.i64 (wrap64 ((p : Int) * 2 ^ X)) (Y : Int) = ((p * 2 ^ X + Y : Nat) : Int) := by
  have h1 : 2 ^ c ≤ 2 ^ 8 := two_pow_lt _ _ (by omega)
  have h2 : 2 ^ X ≤ 2 ^ 24 := two_pow_lt _ _ hX
  have h3 : p * 2 ^ X ≤ 2 ^ 8 * 2 ^ 24 := Nat.mul_le_mul (by omega) h2
  have e1 : wrap64 ((p : Int) * 2 ^ X) = ((p * 2 ^ X : Nat) : Int) := by rw [show ((p : Int) * 2 ^ X) = ((p * 2 ^ X : Nat) : Int) by simp]; exact wrap64_nat _ (by omega)
  rw [e1, i64_or _ _ (by omega) (by omega), nat_or_low _ _ _ hY]
theorem pow_lt_join (p c X Y : Nat) (hp : p < 2 ^ c) (hY : Y < 2 ^ X) : p * 2 ^ X + Y < 2 ^ (c + X) := by
  have h : (p + 1) * 2 ^ X ≤ 2 ^ c * 2 ^ X := Nat.mul_le_mul_right _ hp
  rw [Nat.add_mul] at h
  rw [Nat.pow_add]; omega
theorem WInv.next {w : World} {l : List (Int × Int)} {k : Nat} {v : Value} {p c : Nat} {out : List Int} {wr wr' : World} (h : WInv w l k v p c out wr) {X Y : Nat} (hf : l[k]? = some ((X : Int), (Y : Int))) (hY : Y < 2 ^ X) (hc : c < 8) (hX : X ≤ 24)
    (hb : Below wr.heap.size wr wr') : WInv w l (k + 1) v (p * 2 ^ X + Y) (c + X) out wr' := by
  have ht := take_snoc hf
  refine ⟨by omega, pow_lt_join _ _ _ _ h.pc hY, h.by_, ?_, ?_, own_below h.own hb, h.bel.trans (hb.mono h.bel.size)⟩
  · rw [ht, fieldBits_snoc, ← h.eq, bitsN_join _ _ _ _ hY, List.append_assoc]; rfl
  · intro f hf'
    rw [ht] at hf'
    rcases List.mem_append.1 hf' with hf' | hf'
    · exact h.ok f hf'
    · simp at hf'; subst hf'
      refine ⟨⟨by simp, by simp; omega⟩, by simp, ?_⟩
      have : ((Y : Nat) : Int) < ((2 ^ X : Nat) : Int) := by omega
      simpa using this
theorem WInv.step {w : World} {l : List (Int × Int)} {k : Nat} {v v' : Value} {P D : Nat} {out : List Int} {wr w' : World} (h : WInv w l k v P (D + 8) out wr)
    (hown : w'.ownsRow w.heap.size 5 1 v' (out ++ [(P : Int) / 2 ^ D % 256]).length (ints .u8 (out ++ [(P : Int) / 2 ^ D % 256]))) (hb : Below w.heap.size wr w') :
    WInv w l k v' (P % 2 ^ D) D (out ++ [(P : Int) / 2 ^ D % 256]) w' := by
  have hc := h.c31
  have hq : P / 2 ^ D < 256 := by rw [Nat.div_lt_iff_lt_mul (Nat.two_pow_pos D)]; have := h.pc; rw [Nat.pow_add] at this; omega
  have e : (P : Int) / 2 ^ D % 256 = ((P / 2 ^ D : Nat) : Int) := by
    rw [show ((P : Int) / 2 ^ D) = ((P / 2 ^ D : Nat) : Int) by simp]; generalize P / 2 ^ D = q at *; omega
  refine ⟨by omega, Nat.mod_lt _ (Nat.two_pow_pos D), ?_, ?_, h.ok, hown, h.bel.trans hb⟩
  · exact h.by_.snoc (by rw [e]; omega)
  · rw [e, unpack_snoc, Int.toNat_natCast, ← h.eq, List.append_assoc, bitsN_mod, Nat.add_comm D 8, bitsN_add 8 D]
theorem last_byte (p c : Nat) (hp : p < 2 ^ c) (hc : c < 8) : wrap64 (wrap64 (wrap64 ((p : Int) + 1) * 2 ^ (8 - c)) - 1) % 256 = ((p * 2 ^ (8 - c) + (2 ^ (8 - c) - 1) : Nat) : Int) := by
  have h0 : 2 ^ c ≤ 2 ^ 8 := two_pow_lt _ _ (by omega)
  have e0 : wrap64 ((p : Int) + 1) = (p : Int) + 1 := by unfold wrap64; omega
  have h1 : (p + 1) * 2 ^ (8 - c) ≤ 2 ^ c * 2 ^ (8 - c) := Nat.mul_le_mul_right _ hp
  rw [← Nat.pow_add, show c + (8 - c) = 8 by omega] at h1
  have h2 := Nat.two_pow_pos (8 - c)
  have e1 : ((p : Int) + 1) * 2 ^ (8 - c) = (((p + 1) * 2 ^ (8 - c) : Nat) : Int) := by simp
  rw [e0, e1, wrap64_nat _ (by omega)]
  have e2 : (((p + 1) * 2 ^ (8 - c) : Nat) : Int) - 1 = (((p + 1) * 2 ^ (8 - c) - 1 : Nat) : Int) := by
    have : 0 < (p + 1) * 2 ^ (8 - c) := Nat.mul_pos (by omega) h2
    omega
  rw [e2, wrap64_nat _ (by omega)]
  rw [Nat.add_mul] at h1 ⊢
  omega
theorem WInv.last {w : World} {l : List (Int × Int)} {k : Nat} {v : Value} {p c : Nat} {out : List Int} {wr : World} (h : WInv w l k v p c out wr) (hc : c < 8) (hc0 : 0 < c) (hok : writeErr l = 0) (heq : unpack out ++ bitsN c p = fieldBits l) :
    Written l (out ++ [wrap64 (wrap64 (wrap64 ((p : Int) + 1) * 2 ^ (8 - c)) - 1) % 256]) := by
  refine ⟨fun e => absurd hok e, fun _ => ?_⟩
  rw [last_byte p c h.pc hc]
  have h2 := Nat.two_pow_pos (8 - c)
  have hlt : p * 2 ^ (8 - c) + (2 ^ (8 - c) - 1) < 2 ^ (c + (8 - c)) := pow_lt_join _ _ _ _ h.pc (by omega)
  rw [show c + (8 - c) = 8 by omega] at hlt
  refine ⟨h.by_.snoc (by omega), 8 - c, by omega, ?_⟩
  rw [unpack_snoc, Int.toNat_natCast, ← heq, List.append_assoc]
  have := bitsN_join c (8 - c) p (2 ^ (8 - c) - 1) (by omega)
  rw [show c + (8 - c) = 8 by omega] at this
  rw [this, bitsN_ones]
theorem written_err {l : List (Int × Int)} (h : writeErr l ≠ 0) : Written l [] := ⟨fun _ => rfl, fun e => absurd e h⟩
set_option maxHeartbeats 1000000 in
theorem write_any (A : Option Addr) (c G : Nat) (l : List (Int × Int)) (w : World) (hl : Seen w G A (pairCells l)) (hG : G ≤ w.heap.size) (hlen : l.length ≤ maxLen) :
    Calls Tryz.prog 69 #[.slice A l.length c] w fun e w' => ∃ v out, e = .returned (.tuple #[v, .int .i64 (writeErr l)]) ∧ w'.ownsRow w.heap.size 5 1 v out.length (ints .u8 out) ∧ Written l out ∧ Below w.heap.size w w' := by
  unfold maxLen at hlen
  by_cases hbig : 20000 < l.length
  · have hbig' : (20000 : Int) < (l.length : Int) := by omega
    have He : Hid (writeErr l = 2) := by show writeErr l = 2; unfold writeErr; rw [if_pos hbig]
    go_enter Tryz.func69, Tryz.ntmps69
    go_wp2
    go_ret2
    exact ⟨_, [], ret_two rfl (by rw [He.out]; rfl), World.ownsRow_nil _ _ _ _, written_err (by rw [He.out]; decide), Below.refl _ _⟩
  · have hbig' : ¬ (20000 : Int) < (l.length : Int) := by omega
    go_enter Tryz.func69, Tryz.ntmps69
    go_wp2_with fail
    go_loopg [4, 5, 6, 15] l.length (fun gk v pv cv i wr => ∃ (k p c : Nat) (out : List Int), gk = l.length - k ∧ k ≤ l.length ∧ c < 8 ∧ i = .int .i64 k ∧ pv = .int .i64 p ∧ cv = .int .i64 c ∧ WInv w l k v p c out wr)
    case atStart => exact ⟨0, 0, 0, [], by omega, Nat.zero_le _, by omega, rfl, rfl, rfl, by omega, by omega, by simp [Bytes], rfl, by simp, World.ownsRow_nil _ _ _ _, Below.refl _ _⟩
    case round =>
      obtain ⟨k, p, c, out, rfl, hk, hc8, rfl, rfl, rfl, hI⟩ := hrel
      by_cases hlt : k < l.length
      · obtain ⟨g, o, x, y, rfl, hg, hf, h1, h2⟩ := hl.pair hlt
        have Hf := veil hf; clear hf
        rw [← hI.bel.cell (by simp; omega)] at h1 h2
        by_cases hok : fitsB (x, y) = true
        · have hx : okF (x, y) := by simpa [fitsB] using hok
          obtain ⟨X, Y, hX, HY, rfl, rfl⟩ : ∃ X Y : Nat, X ≤ 24 ∧ Hid (Y < 2 ^ X) ∧ x = X ∧ y = Y := by
            obtain ⟨⟨hx0, hx1⟩, hy0, Hy1⟩ := hx
            refine ⟨x.toNat, y.toNat, by omega, ?_, by omega, by omega⟩
            have : ((y.toNat : Nat) : Int) < ((2 ^ x.toNat : Nat) : Int) := by simp; simp at Hy1; omega
            show y.toNat < 2 ^ x.toNat
            omega
          clear hx
          go_wp2_with fail
          refine (fits_any _ _ _).mono ?_
          rintro e w1 ⟨rfl, hb1⟩
          have c0 : w1.cell? ⟨wr.heap.size, 0, none⟩ = some (.int .i64 X) := by rw [hb1.cell (by simp)]; simp
          have c1 : w1.cell? ⟨wr.heap.size, 1, none⟩ = some (.int .i64 Y) := by rw [hb1.cell (by simp)]; simp
          go_wp2_with fail
          go_quiet (fail)
          go_wp2_with fail
          have e1 := or_step p c X Y hI.pc HY.out hc8 hX
          rw [e1]
          clear e1
          go_loopg [4, 5, 6] (c + X) (fun gk v pv cv wr2 => ∃ (P C : Nat) (out : List Int), C = gk ∧ pv = .int .i64 P ∧ cv = .int .i64 C ∧ WInv w l (k + 1) v P C out wr2)
          case atStart => exact ⟨p * 2 ^ X + Y, c + X, out, rfl, rfl, by go_num, hI.next Hf.out HY.out hc8 hX ((below1 _ _).trans (hb1.mono (by simp)) |>.drewN _)⟩
          case round =>
            obtain ⟨P, C, out2, rfl, rfl, rfl, hJ⟩ := hrel
            have hC := hJ.c31
            by_cases h8 : 8 ≤ C
            · obtain ⟨D, rfl⟩ : ∃ D, C = D + 8 := ⟨C - 8, by omega⟩
              have hL := hJ.len (k := k + 1)
              have hB := hJ.bel.size
              go_wp2_with (at_builtin; go_loud (refine wpList_app1 _ rfl (.tmp 37) (.tmp 42) _ rfl w.heap.size 5 .u8 1 Tryz.underlying28 info_byte _ out2 _ rfl hJ.own rfl (by omega) (by omega) (by omega) ?_); intro v' w' hown' hbel' hsz')
              go_roundg D
              case rel =>
                rw [and_step P D hJ.pc hC]
                exact ⟨P % 2 ^ D, D, _, rfl, rfl, rfl, hJ.step hown' hbel'⟩
              case measure => omega
            · have h8' : C < 8 := by omega
              go_wp2
              go_roundg (l.length - (k + 1))
              case rel => exact ⟨k + 1, P, C, out2, rfl, by omega, h8', by go_num, rfl, rfl, hJ⟩
              case measure => omega
        · have hok' : fitsB (x, y) = false := by simpa using hok
          have He : Hid (writeErr l = 1) := by
            show writeErr l = 1
            unfold writeErr
            rw [if_neg hbig, if_neg]
            intro hall
            have := hall (x, y) (List.mem_of_getElem? Hf.out)
            simp [fitsB] at hok'
            exact hok' this
          clear hok
          go_wp2_with fail
          refine (fits_any _ _ _).mono ?_
          rintro e w1 ⟨rfl, hb1⟩
          go_wp2
          go_ret2
          exact ⟨_, [], ret_two rfl (by rw [He.out]; rfl), World.ownsRow_nil _ _ _ _, written_err (by rw [He.out]; decide), hI.bel.trans (((below1 _ _).trans (hb1.mono (by simp))).mono hI.bel.size)⟩
      · have hke : k = l.length := by omega
        have Hok : Hid (writeErr l = 0) := by
          show writeErr l = 0
          unfold writeErr
          rw [if_neg hbig, if_pos]
          have := hI.ok
          rwa [List.take_of_length_le (by omega)] at this
        have Heq : Hid (unpack out ++ bitsN c p = fieldBits l) := by
          have := hI.eq
          rwa [List.take_of_length_le (by omega)] at this
        have hL := hI.len
        have hB := hI.bel.size
        by_cases hc0 : c = 0
        · subst hc0
          go_wp2
          go_ret2
          refine ⟨_, out, ret_two rfl (by rw [Hok.out]; rfl), hI.own, ⟨fun h => absurd Hok.out h, fun _ => ⟨hI.by_, 0, by omega, ?_⟩⟩, hI.bel⟩
          have := Heq.out
          simpa [bitsN] using this
        · go_wp2_with (at_builtin; go_loud (refine wpList_app1 _ rfl (.tmp 54) (.tmp 61) _ rfl w.heap.size 5 .u8 1 Tryz.underlying28 info_byte _ out _ rfl hI.own rfl (by omega) (by omega) (by omega) ?_); intro v' w' hown' hbel' hsz')
          go_ret2
          exact ⟨_, _, ret_two rfl (by rw [Hok.out]; rfl), hown', hI.last hc8 (by omega) Hok.out Heq.out, hI.bel.trans hbel'⟩
end Go.Proofs.YtddkhkpdbjjboaaGreat

/- The reference's binary digits: texts of zeros and ones. -/
namespace Go.Proofs.YtddkhkpdbjjboaaGreat
open Go.RowKit
set_option linter.unusedVariables false
set_option linter.unusedSimpArgs false
set_option maxRecDepth 100000

def digB (b : Bool) : UInt8 := if b then 49 else 48
def dig (l : List Bool) : List UInt8 := l.map digB
/-- The text of these digits. -/
def txt (l : List Bool) : ByteArray := ⟨(dig l).toArray⟩
theorem txt_append (a b : List Bool) : txt a ++ txt b = txt (a ++ b) := by
  apply ByteArray.ext; simp [txt, dig]
theorem txt_size (l : List Bool) : (txt l).size = l.length := by simp [txt, dig, ByteArray.size]

theorem enc_bit (q : Nat) : Utf8.encode (48 + (q : Int) % 2) = txt [decide (q % 2 = 1)] := by
  rcases Nat.mod_two_eq_zero_or_one q with h | h
  · have e : (q : Int) % 2 = 0 := by omega
    rw [e, h]; decide +kernel
  · have e : (q : Int) % 2 = 1 := by omega
    rw [e, h]; decide +kernel

theorem outside_any (n lo hi : Int) (w : World) : Calls Tryz.prog 29 #[.int .i64 n, .int .i64 lo, .int .i64 hi] w fun e w' => e = .returned (.bool (!(decide (lo ≤ n) && decide (n ≤ hi)))) ∧ w = w' := by
  have Hd : Hid (∀ b, b = (!(decide (lo ≤ n) && decide (n ≤ hi))) → b = (!(decide (lo ≤ n) && decide (n ≤ hi)))) := fun b h => h
  generalize hB : (!(decide (lo ≤ n) && decide (n ≤ hi))) = B at *
  have HB := veil hB; clear hB
  by_cases h1 : n < lo <;> by_cases h2 : hi < n <;>
  · go_enter Tryz.func29, Tryz.ntmps29
    go_wp2
    go_ret
    exact ⟨ret_bool (by rw [← HB.out]; symm; simp; omega), rfl⟩

set_option maxHeartbeats 400000 in
theorem binary_any (k n : Nat) (w : World) (hk : k ≤ 64) (hn : n < 9223372036854775808) :
    Calls Tryz.prog 55 #[.int .i64 k, .int .i64 n] w fun e w' => e = .returned (.string (txt (bitsN k n))) ∧ w = w' := by
  go_enter Tryz.func55, Tryz.ntmps55
  go_wp2_with fail
  go_loopg [1, 5, 7] k (fun gk nv s i wr => ∃ j : Nat, gk = k - j ∧ j ≤ k ∧ i = .int .i64 j ∧ nv = .int .i64 (n / 2 ^ j : Nat) ∧ s = .string (txt (bitsN j n)) ∧ w = wr)
  case atStart => exact ⟨0, rfl, Nat.zero_le _, rfl, by simp, rfl, rfl⟩
  case round =>
    obtain ⟨j, rfl, hj, rfl, rfl, rfl, rfl⟩ := hrel
    have hq : n / 2 ^ j < 9223372036854775808 := Nat.lt_of_le_of_lt (Nat.div_le_self _ _) hn
    by_cases hlt : j < k
    · generalize hQ : n / 2 ^ j = q at *
      have HQ := veil hQ; clear hQ
      have henc := enc_bit q
      have hsz : (Utf8.encode (48 + (q : Int) % 2)).size + (txt (bitsN j n)).size ≤ 9223372036854775807 := by
        rw [henc, txt_size, txt_size, bitsN_length]; simp; omega
      have Henc := veil henc; clear henc
      go_wp2
      go_roundg (k - (j + 1))
      case rel => exact ⟨j + 1, rfl, by omega, by go_num, by rw [Nat.pow_succ, ← Nat.div_div_eq_div_mul, HQ.out]; go_num, by rw [Henc.out, txt_append, ← HQ.out, Nat.add_comm j 1, bitsN_add]; rfl, rfl⟩
      case measure => omega
    · obtain rfl : j = k := by omega
      go_wp2
      go_ret
      exact ⟨rfl, rfl⟩
theorem txt_at (l : List Bool) (p : Nat) (b : Bool) (h : l[p]? = some b) (hp : p < (txt l).size) : ((txt l)[p]'hp).toNat = if b then 49 else 48 := by
  obtain ⟨hl, rfl⟩ := List.getElem?_eq_some_iff.1 h
  have : (txt l)[p]'hp = digB l[p] := by
    show (txt l).data[p]'hp = _
    simp [txt, dig]
  rw [this, digB]
  split <;> rfl
theorem next_dig (wr : World) (k : Nat) (l : List Bool) (p : Nat) (b : Bool) (hk : wr.heap[k]? = some (.stringIter (txt l) p)) (h : l[p]? = some b) (ty : TypeId) :
    (Instr.next (.pointer (some ⟨k, 0, none⟩)) true ty).run Tryz.prog wr = .ok (.tuple #[.bool true, .int .i64 p, .int .i32 (if b then 49 else 48)]) (wr.iterAt k (txt l) (p + 1)) := by
  have hp : p < (txt l).size := by rw [txt_size]; exact (List.getElem?_eq_some_iff.1 h).1
  have e := txt_at l p b h hp
  have h1 := Lib.run_next_ascii_at (P := Tryz.prog) wr k (txt l) p ty hk hp (by rw [e]; split <;> omega)
  rw [h1, e]
  cases b <;> rfl

theorem below_iter (w : World) (s : ByteArray) (p : Nat) : Below w.heap.size w (w.iter s p) := below1 w _
set_option maxHeartbeats 400000 in
theorem fromBinary_any (l : List Bool) (w : World) (hl : l.length ≤ 24) :
    Calls Tryz.prog 37 #[.string (txt l)] w fun e w' => e = .returned (.int .i64 (valB l)) ∧ Below w.heap.size w w' := by
  go_enter Tryz.func37, Tryz.ntmps37
  go_wp2_with fail
  go_loopg [3, 5] (l.length + 1) (fun gk nv cv wr => ∃ p : Nat, gk = l.length + 1 - p ∧ p ≤ l.length ∧ nv = .int .i64 (valB (l.take p)) ∧ wr.heap[w.heap.size]? = some (.stringIter (txt l) p) ∧ Below w.heap.size w wr)
  case atStart => exact ⟨0, rfl, Nat.zero_le _, rfl, World.iter_heap _ _ _, below_iter _ _ _⟩
  case round =>
    obtain ⟨p, rfl, hp, rfl, hit, hb⟩ := hrel
    by_cases hlt : p < l.length
    · obtain ⟨b, hbit⟩ := some_at hlt
      have hnx := next_dig wr w.heap.size l p b hit hbit
      have hv := valB_lt (l.take p)
      have hv2 : 2 ^ (l.take p).length ≤ 2 ^ 24 := two_pow_lt _ _ (by simp; omega)
      have hv3 : valB (l.take p) ≤ 16777216 := by omega
      have hstep : valB (l.take (p + 1)) = 2 * valB (l.take p) + b.toNat := by rw [take_snoc hbit, valB_snoc]
      have Hst := veil hstep
      clear hbit hv hv2 hstep
      have hit' := Lib.iterAt_heap wr w.heap.size (txt l) p (p + 1) hit
      have hb' := Lib.below_iterAt hb (Nat.le_refl _) (txt l) (p + 1)
      have Hit' := veil hit'; clear hit'
      have Hit := veil hit; clear hit
      cases b
      · simp only [Bool.false_eq_true, if_false] at hnx
        go_wp2
        go_roundg (l.length + 1 - (p + 1))
        case rel => exact ⟨p + 1, rfl, by omega, by rw [Hst.out]; go_num, Hit'.out, hb'⟩
        case measure => omega
      · simp only [if_true] at hnx
        go_wp2
        go_roundg (l.length + 1 - (p + 1))
        case rel => exact ⟨p + 1, rfl, by omega, by rw [Hst.out]; go_num, Hit'.out, hb'⟩
        case measure => omega
    · obtain rfl : p = l.length := by omega
      have hnx := fun ty => Lib.run_next_end_at (P := Tryz.prog) wr w.heap.size (txt l) l.length ty hit (by rw [txt_size]; omega)
      rw [List.take_length]
      clear hit
      go_wp2
      go_ret
      exact ⟨rfl, hb⟩
end Go.Proofs.YtddkhkpdbjjboaaGreat

/- The reference's power and outside. -/
namespace Go.Proofs.YtddkhkpdbjjboaaGreat
open Go.RowKit
set_option linter.unusedVariables false
set_option linter.unusedSimpArgs false
set_option maxRecDepth 100000

theorem power_any (k : Nat) (w : World) (h : k ≤ 24) : Calls Tryz.prog 78 #[.int .i64 k] w fun e w' => e = .returned (.int .i64 (2 ^ k : Nat)) ∧ w = w' := by
  go_enter Tryz.func78, Tryz.ntmps78
  go_wp2
  go_ret
  refine ⟨?_, rfl⟩
  have h1 : 2 ^ k ≤ 2 ^ 24 := two_pow_lt _ _ h
  have e : wrap64 ((2 : Int) ^ k) = ((2 ^ k : Nat) : Int) := by rw [show ((2 : Int) ^ k) = ((2 ^ k : Nat) : Int) by simp]; exact wrap64_nat _ (by omega)
  exact congrArg (fun x => Ending.returned (.int .i64 x)) e

theorem outside_yes (n lo hi : Int) (h : n < lo ∨ hi < n) (w : World) : Calls Tryz.prog 29 #[.int .i64 n, .int .i64 lo, .int .i64 hi] w fun e w' => e = .returned (.bool true) ∧ w' = w :=
  (outside_any n lo hi w).mono fun e w' h2 => ⟨by rw [h2.1]; refine ret_bool ?_; simp; omega, h2.2.symm⟩
theorem outside_no (n lo hi : Int) (h : lo ≤ n ∧ n ≤ hi) (w : World) : Calls Tryz.prog 29 #[.int .i64 n, .int .i64 lo, .int .i64 hi] w fun e w' => e = .returned (.bool false) ∧ w' = w :=
  (outside_any n lo hi w).mono fun e w' h2 => ⟨by rw [h2.1]; refine ret_bool ?_; simp; omega, h2.2.symm⟩
end Go.Proofs.YtddkhkpdbjjboaaGreat

/- The reference's words of a table, as binary digits. -/
namespace Go.Proofs.YtddkhkpdbjjboaaGreat
open Go.RowKit
set_option linter.unusedVariables false
set_option linter.unusedSimpArgs false
set_option maxRecDepth 100000

theorem elem_str : ElemOf Tryz.prog 121 9 1 16 := .mk' (z := .string .empty) Tryz.underlying121 (by kernel_rfl) rfl (by omega)
def strs (l : List (Nat × Nat)) : List Value := l.map fun p => .string (txt (bitsN p.1 p.2))
theorem strs_at {l : List (Nat × Nat)} {k : Nat} {p : Nat × Nat} (h : l[k]? = some p) : (strs l)[k]? = some (.string (txt (bitsN p.1 p.2))) := by simp [strs, h]
abbrev strRow (v : Value) (l : List (Nat × Nat)) : Row := ⟨9, 1, v, l.length, strs l⟩
theorem strRow_snoc (v : Value) (l : List (Nat × Nat)) (p : Nat × Nat) : (⟨9, 1, v, l.length + [Value.string (txt (bitsN p.1 p.2))].length, strs l ++ [.string (txt (bitsN p.1 p.2))]⟩ : Row) = strRow v (l ++ [p]) := by simp [strRow, strs]

set_option maxRecDepth 100000 in
set_option maxHeartbeats 2000000 in
theorem refWordsOf_any (ns : List Nat) (A : Option Addr) (n c : Nat) (w : World) (hns : ns.length = 16) (hsum : ns.sum ≤ 256) :
    Calls Tryz.prog 61 #[tabV (natI ns) A n c] w fun e w' => ∃ v, e = .returned (.tuple #[v, .bool (codes ns).isSome]) ∧ Owns w.heap.size [strRow v ((codes ns).getD [])] w' ∧ Below w.heap.size w w' := by
  have hcs : (natI ns).length = 16 := by rw [natI_length]; exact hns
  have hr : Hid (∀ xs, xs = tabCells (natI ns) A n c → (w.alloc (.cells xs.toArray 25)).rangeAt w.heap.size 0 (ints .i64 (natI ns))) := by
    show ∀ xs, _
    intro xs e
    subst e
    exact range_left (range_new w _ _)
  have Hcs := veil hcs; have Hns := veil hns; have Hsum := veil hsum
  clear hcs hns hsum
  obtain ⟨xs, hxs⟩ : ∃ xs, xs = tabCells (natI ns) A n c := ⟨_, rfl⟩
  have Hr := veil (hr.out xs hxs)
  unfold tabV
  rw [← hxs]
  clear hr hxs
  go_enter Tryz.func61, Tryz.ntmps61
  go_wp2_with (first
    | (refine wpList_load_mid rfl 22 (.tmp 8) rfl w.heap.size 0 rfl (ints .i64 (natI ns)) _ Hr.out Tryz.underlying22 rfl (by rw [ints_length, Hcs.out]; exact info_arr) ?_)
    | fail)
  go_loopg [4, 5, 6, 7, 10] 16 (fun gk v cv kv nv i wr => ∃ (k cd : Nat) (acc : List (Nat × Nat)), gk = 16 - k ∧ k ≤ 16 ∧ i = .int .i64 k ∧ cv = .int .i64 cd ∧ Hid (CInv ns k (2 * cd) acc) ∧ Owns w.heap.size [strRow v acc] wr ∧ Below w.heap.size w wr)
  case atStart => exact ⟨0, 0, [], rfl, by omega, rfl, rfl, veil (CInv.start ns), (Owns.nil (by simp)).fresh _ _, below1 _ _⟩
  case round =>
    obtain ⟨k, cd0, acc, rfl, hk, rfl, rfl, HI, HO, hbel⟩ := hrel
    by_cases hlt : k < 16
    · obtain ⟨q, hq⟩ := some_at (xs := ns) (j := k) (by rw [Hns.out]; omega)
      have hcd := HI.out.2.1
      have hp16 : 2 ^ (k + 1) ≤ 2 ^ 16 := Nat.pow_le_pow_right (by omega) (by omega)
      have hacc : acc.length + q ≤ 256 := by
        have h1 := take_sum hq
        have h2 : (ns.take (k + 1)).sum + (ns.drop (k + 1)).sum = ns.sum := by rw [← List.sum_append, List.take_append_drop]
        have := Hsum.out
        have := HI.out.2.2
        omega
      obtain ⟨cd, hcd0⟩ : ∃ cd, cd = 2 * cd0 := ⟨_, rfl⟩
      rw [← hcd0] at HI hcd
      have Hn := veil hq; have Hcd := veil hcd; have Hp16 := veil hp16
      have hcd2 : cd < 65536 := by omega
      have hq2 : q ≤ 256 := by omega
      have hw2 : (cd0 : Int) * 2 = (cd : Int) := by omega
      have Hcd0 := veil hcd0
      clear hq hcd hp16 hcd0
      go_wp2_with (first
        | (refine wpList_index_arr rfl 22 (.tmp 9) (.tmp 10) rfl 16 3 .i64 Tryz.underlying22 Tryz.underlying3 info_int1 (ints .i64 (natI ns)) rfl .i64 k rfl (.int .i64 (q : Int)) hlt (ints_at (natI_at Hn.out)) ?_)
        | fail)
      obtain ⟨N, hN⟩ : ∃ N, N = 2 ^ (k + 1) - 1 := ⟨_, rfl⟩
      have hN2 : N < 65536 := by have := Hp16.out; omega
      have HN := veil hN
      have hpw := fun w => power_any (k + 1) w (by omega)
      have hp0 : 0 < 2 ^ (k + 1) := Nat.pow_pos (by omega)
      have hN1 : 2 ^ (k + 1) = N + 1 := by omega
      rw [hN1] at hpw
      clear hN hp0 hN1
      have Hpw := veil hpw; clear hpw
      go_loopg [4, 5, 17] q (fun gk v cv i wr2 => ∃ j : Nat, gk = q - j ∧ j ≤ q ∧ i = .int .i64 j ∧ cv = .int .i64 ((cd + j : Nat) : Int) ∧ Hid (cd + j ≤ N) ∧ Owns w.heap.size [strRow v (acc ++ wordsTo k cd j)] wr2 ∧ Below w.heap.size w wr2)
      case atStart => exact ⟨0, rfl, Nat.zero_le _, rfl, by go_num, veil (by have := Hcd.out; have := HN.out; omega), by simpa [wordsTo] using HO, hbel⟩
      case round =>
        obtain ⟨j, rfl, hj, rfl, rfl, HJ, HO2, hbel2⟩ := hrel
        have hz2 := hbel2.size
        by_cases hjn : j < q
        · have hpw := Hpw.out wr
          rw [show (((k + 1 : Nat)) : Int) = (k : Int) + 1 from rfl, show (((N + 1 : Nat)) : Int) = (N : Int) + 1 from rfl] at hpw
          have Hp := veil hpw; clear hpw
          by_cases hf : N ≤ cd + j
          · have hd := HI.out.fail Hn.out hjn (by rw [← HN.out]; exact hf)
            have Hd := veil hd; clear hd
            have hf' : (N : Int) ≤ (cd : Int) + j := by omega
            go_wp2_with fail
            refine Hp.out.mono ?_
            rintro e w3 ⟨rfl, rfl⟩
            go_wp2
            go_ret2
            exact ⟨_, ret_two rfl (by rw [Hd.out]; rfl), by rw [Hd.out]; exact (Owns.nil hbel2.size).fresh _ _, hbel2⟩
          · have hf' : ¬ (N : Int) ≤ (cd : Int) + j := by omega
            have hbn := binary_any (k + 1) (cd + j) wr (by omega) (by omega)
            rw [show (((k + 1 : Nat)) : Int) = (k : Int) + 1 from rfl, show (((cd + j : Nat)) : Int) = (cd : Int) + j from rfl] at hbn
            have Hbn := veil hbn; clear hbn
            have hlen : (acc ++ wordsTo k cd j).length = acc.length + j := by rw [List.length_append, wordsTo_length]
            have hap : acc ++ wordsTo k cd (j + 1) = (acc ++ wordsTo k cd j) ++ [(k + 1, cd + j)] := by rw [wordsTo_snoc, List.append_assoc]
            have Hlen := veil hlen; have Hap := veil hap
            clear hlen hap
            generalize acc ++ wordsTo k cd j = ws at *
            go_wp2_with fail
            refine Hp.out.mono ?_
            rintro e w3 ⟨rfl, rfl⟩
            go_wp2_with fail
            refine Hbn.out.mono ?_
            rintro e w3 ⟨rfl, rfl⟩
            go_wp2_with (first
              | (at_builtin; go_loud (refine wpList_ownN _ rfl (.tmp 25) (.tmp 30) _ rfl w.heap.size 9 16 elem_str u4 ws.length (strs ws) [] rfl HO2 [.string (txt (bitsN (k + 1) (cd + j)))] rfl (by simp [Value.oneCell']) (by have := Hlen.out; unfold maxLen; simp; omega) (by have := Hlen.out; simp; omega) ?_); intro v1 w1 HO3 hb3 hz3))
            rw [strRow_snoc _ _ (k + 1, cd + j)] at HO3
            go_roundg (q - (j + 1))
            case rel => exact ⟨j + 1, rfl, by omega, by go_num, by go_num, veil (by omega), by rw [Hap.out]; exact HO3, hbel2.trans hb3⟩
            case measure => omega
        · obtain rfl : j = q := by omega
          go_wp2
          go_roundg (16 - (k + 1))
          case rel => exact ⟨k + 1, cd + j, acc ++ wordsTo k cd j, rfl, by omega, by go_num, rfl, veil (HI.out.next Hn.out (by rw [← HN.out]; exact HJ.out)), HO2, hbel2⟩
          case measure => omega
    · obtain rfl : k = 16 := by omega
      have hd : codes ns = some acc := by have h := HI.out; rw [← Hns.out] at h; exact h.done
      have Hd := veil hd; clear hd
      go_wp2
      go_ret2
      exact ⟨_, ret_two rfl (by rw [Hd.out]; rfl), by rw [Hd.out]; exact HO, hbel⟩
end Go.Proofs.YtddkhkpdbjjboaaGreat

/- The reference's Has at numbers. -/
namespace Go.Proofs.YtddkhkpdbjjboaaGreat
open Go.RowKit
set_option linter.unusedVariables false
set_option linter.unusedSimpArgs false
set_option maxRecDepth 100000

theorem hasInt (A : Option Addr) (c G : Nat) (xs : List Int) (y : Int) (w : World) (hx : Seen w G A (ints .i64 xs)) (hl : xs.length ≤ maxLen) :
    Calls Tryz.prog 76 #[.slice A xs.length c, .int .i64 y] w fun e w' => e = .returned (.bool (decide (y ∈ xs))) ∧ w = w' := by
  unfold maxLen at hl
  go_enter Tryz.func76, Tryz.ntmps76
  go_wp2_with fail
  go_loopg [6, 9] xs.length (fun gk v i wr => ∃ k : Nat, gk = xs.length - k ∧ k ≤ xs.length ∧ i = .int .i64 k ∧ Hid (y ∉ xs.take k) ∧ w = wr)
  case atStart => exact ⟨0, rfl, Nat.zero_le _, rfl, veil (by simp), rfl⟩
  case round =>
    obtain ⟨k, rfl, hk, rfl, HN, rfl⟩ := hrel
    by_cases hlt : k < xs.length
    · obtain ⟨g, o, x, rfl, _, hxk, h1⟩ := hx.int hlt
      have Hx := veil hxk; clear hxk
      by_cases hxy : y = x
      · have hb : (y == x) = true := by simpa using hxy
        have hm : y ∈ xs := by rw [hxy]; exact List.mem_of_getElem? Hx.out
        have Hd := veil (decide_eq_true hm)
        clear hxy hm
        go_wp2
        go_ret
        exact ⟨ret_bool Hd.out.symm, rfl⟩
      · have hb : (y == x) = false := by simpa using hxy
        have Hxy := veil hxy; clear hxy
        go_wp2
        go_roundg (xs.length - (k + 1))
        case rel =>
          refine ⟨k + 1, rfl, by omega, by go_num, veil ?_, rfl⟩
          rw [take_snoc Hx.out]
          intro h
          rcases List.mem_append.1 h with h | h
          · exact HN.out h
          · simp at h; exact Hxy.out h
        case measure => omega
    · obtain rfl : k = xs.length := by omega
      have hm : y ∉ xs := by have := HN.out; rw [List.take_length] at this; exact this
      have Hd := veil (decide_eq_false hm)
      clear hm
      go_wp2
      go_ret
      exact ⟨ret_bool Hd.out.symm, rfl⟩
end Go.Proofs.YtddkhkpdbjjboaaGreat
