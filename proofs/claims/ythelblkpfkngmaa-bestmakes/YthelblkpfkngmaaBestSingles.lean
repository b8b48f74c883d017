/- best.singles: its contract. -/
import Derived.Test.YthelblkpfkngmaaBestBack
import Derived.Test.YthelblkpfkngmaaBestPairs
import Derived.Deep.WholeRow
namespace Go.Proofs.Ythelblkpfkngmaa
open Go.RowKit Go.Shelf
set_option linter.unusedVariables false
set_option linter.unusedSimpArgs false
attribute [local go_sem] Oper.semAt_some

/-- In a fence: append of what is seen onto the first of the rows. -/
theorem wpListIn_ownV {F : Fence} {k : Nat} {P : Program} {ops : Array Oper} {rest : List Oper} {o : Oper} {a : Act} {Q : Exit → Act → World → Prop} (w : World) (hgd : o.guard = none) (s x : Operand) (t : TypeId)
    (ho : o.op = .call { callee := .builtin .append, args := #[s, x], argTypes := #[t, t] })
    (B : Nat) (e : TypeId) (size bytes : Nat) (he : ElemOf P t e size bytes)
    (v : Value) (n : Nat) (xs : List Value) (rs : List Row) (hs : a.eval s = v) (HO : Owns B (⟨e, size, v, n, xs⟩ :: rs) w) (G : Nat) (A : Option Addr) (m c : Nat) (news : List Value) (hx : a.eval x = .slice A m c) (hsee : Seen w G A news) (hl : news.length = m * size) (h1 : ∀ u ∈ news, u.oneCell' = true)
    (h63 : n + m ≤ maxLen) (hbytes : (n + m) * bytes ≤ 140737488355328)
    (h : ∀ v' w', Owns B (⟨e, size, v', n + m, xs ++ news⟩ :: rs) w' → w.grownBy w' v.ownBlock → Below B w w' → wpListIn F k P ops Q rest (a.put o.dst v') w') : wpListIn F k P ops Q (o :: rest) a w := by
  refine wpListIn_plain hgd fun K hK' => ?_
  obtain ⟨v', w', hr, h2, h3, h4⟩ := run_ownV (P := P) w B t o.type e size bytes he v n xs rs HO G A m c news hsee hl h1 h63 hbytes
  unfold Oper.wpIn
  refine ⟨?_, ?_⟩
  · simp [Oper.about, ho, resolve, Target.leads, Sem.run_pure]
  · rw [Oper.semAt_plain F _ _ (by rw [ho]; intro c hc'; cases hc')]
    simp [execOp, ho, resolve, invoke, builtin, hs, hx, hr, Result.andThen]
    exact hK' _ _ (h v' w' h2 h3 h4)
/-- A row that was just laid. -/
theorem Owns.laid {B : Nat} {rs : List Row} {w : World} (h : Owns B rs w) (e : TypeId) (size n : Nat) (xs : List Value) (hl : xs.length = n * size) (hn : n ≤ maxLen) :
    Owns B (⟨e, size, .slice (some ⟨w.heap.size, 0, none⟩) n n, n, xs⟩ :: rs) (w.alloc (.cells xs.toArray e)) :=
  h.call (below1 w _) (ts := [⟨e, size, .slice (some ⟨w.heap.size, 0, none⟩) n n, n, xs⟩]) (.one (by simp) ⟨hl, .inr ⟨w.heap.size, n, xs.toArray, rfl, Nat.le_refl _, heap_alloc_last w _, Nat.le_refl _, hn, by simp [hl], by rw [List.take_of_length_le (by simp; omega)]⟩⟩)
theorem Owns.turn {B : Nat} {rs : List Row} {W W' : World} {row : Option Nat} (h : Owns B rs W) (hg : W.grownBy W' row) (hr : ∀ r, row = some r → ∃ o : Obj, W.heap[r]? = some o ∧ o.isCells = false) : Owns B rs W' := by
  refine ⟨Nat.le_trans h.base hg.size, fun r hm => ?_, h.apart⟩
  have h1 := h.each r hm
  refine h1.kept hg ?_
  rcases h1.2 with ⟨hv, _⟩ | ⟨g, cap, cur, hv, _, hgb, _⟩
  · rw [hv]; exact .inl rfl
  · rw [hv]
    refine .inr fun e' => ?_
    obtain ⟨o, ho, hc⟩ := hr g e'.symm
    rw [hgb] at ho; cases ho; cases hc
/-- A variable that lies in a box. -/
def bxRow (b : Nat) (t : TypeId) (u : Value) : Row := ⟨t, 1, .slice (some ⟨b, 0, none⟩) 1 1, 1, [u]⟩
theorem boxed_of {B b : Nat} {t : TypeId} {u : Value} {rs : List Row} {w : World} (h : Owns B rs w) (hm : bxRow b t u ∈ rs) : Boxed w b t u := by
  rcases (h.each _ hm).2 with ⟨hv, _⟩ | ⟨g, cap, cur, hv, _, hgb, _, _, hs, ht⟩
  · simp [bxRow] at hv
  · simp only [bxRow, Value.slice.injEq, Option.some.injEq, Addr.mk.injEq, and_true, true_and] at hv ht hgb
    obtain ⟨rfl, rfl⟩ := hv
    have hl : cur.toList = [u] := by
      rw [← ht, List.take_of_length_le (by simp [hs]; exact Nat.le_refl 1)]
    have : cur = #[u] := by
      cases cur; simp at hl; subst hl; rfl
    subst this
    exact hgb
theorem Owns.setBox {B b : Nat} {t : TypeId} {u : Value} {rs : List Row} {w : World} (h : Owns B (bxRow b t u :: rs) w) (u' : Value) : Owns B (bxRow b t u' :: rs) (w.setCell ⟨b, 0, none⟩ u') := by
  have hg := grownBy_setCell' w b u'
  have hap := List.pairwise_cons.1 h.apart
  refine ⟨Nat.le_trans h.base hg.size, fun r hm => ?_, List.pairwise_cons.2 ⟨fun s hs => hap.1 s hs, hap.2⟩⟩
  rcases List.mem_cons.1 hm with rfl | hm
  · have h1 := (boxed_of h List.mem_cons_self).set u'
    have h2 := ((h.each _ List.mem_cons_self).lt b rfl).1
    exact ⟨rfl, .inr ⟨b, 1, #[u'], rfl, h2, h1, Nat.le_refl _, by unfold maxLen; omega, rfl, rfl⟩⟩
  · refine (h.each r (List.mem_cons_of_mem _ hm)).kept hg ?_
    cases hv : r.v.ownBlock with
    | none => exact .inl rfl
    | some g => exact .inr fun e => hap.1 r hm b rfl (by rw [hv, e])
theorem row_cells {w : World} {B : Nat} {e : TypeId} {size : Nat} {v : Value} {n : Nat} {xs : List Value} (h : w.ownsRow B e size v n xs) : ∀ (j : Nat) (o : Obj), v.ownBlock = some j → w.heap[j]? = some o → o.isCells = true := by
  intro j o ej hj
  rcases h.2 with ⟨rfl, _⟩ | ⟨g, cap, cur, rfl, _, hgb, _⟩
  · simp [Value.ownBlock] at ej
  · obtain rfl : g = j := by simpa [Value.ownBlock] using ej
    rw [hgb] at hj; cases hj; rfl

/-- The bundles of what has come. -/
def sing (pre : List (Int × Int)) : List Bun := (0, [-1]) :: (pre.filter fun x => decide (0 < x.2)).map fun x => (x.2.toNat, [x.1])
theorem sing_yes (pre : List (Int × Int)) {x : Int × Int} (h : 0 < x.2) : sing (pre ++ [x]) = sing pre ++ [(x.2.toNat, [x.1])] := by simp [sing, h]
theorem sing_no (pre : List (Int × Int)) {x : Int × Int} (h : ¬ 0 < x.2) : sing (pre ++ [x]) = sing pre := by simp [sing, h]
theorem sing_len (pre : List (Int × Int)) : (sing pre).length ≤ pre.length + 1 := by
  have := List.length_filter_le (fun x : Int × Int => decide (0 < x.2)) pre
  simp [sing]; omega
/-- What lies there between two rounds. -/
def SingI (w : World) (A : Option Addr) (len cap : Nat) (pre : List (Int × Int)) (W : World) : Prop :=
  (∃ Av cv ys rs, Owns w.heap.size (bxRow (w.heap.size + 1 + 1) 54 (.slice Av ys.length cv) :: bxRow (w.heap.size + 1 + 1 + 1) 23 (.slice A len cap) :: hRow (.slice Av ys.length cv) ys :: rs) W ∧ Rowed rs (sing pre) ys) ∧ Below w.heap.size w W
theorem singI_own (w : World) (A : Option Addr) (len cap N : Nat) (hN : w.heap.size ≤ N) : OwnFrom N (SingI w A len cap) :=
  OwnFrom.and (Own.from (fun s X Y row ⟨Av, cv, ys, rs, HO, hR⟩ hg hr => ⟨Av, cv, ys, rs, HO.turn hg hr, hR⟩) _) (ownFrom_below (Nat.le_refl _) hN)

set_option maxRecDepth 100000 in
set_option maxHeartbeats 4000000 in
theorem singles_in (F : Fence) (n : Nat) (h1' : F.fn 30) (h2' : F.fn 44) (h3' : F.fn 54) (hro : F.round = none) (hn : 3 ≤ n) (A : Option Addr) (cap G : Nat) (zs : List Int) (w : World) (hs : Seen w G A (ints .i64 zs)) (hG : G ≤ w.heap.size) (hl : zs.length ≤ 1024) :
    CallsIn F n Try.prog 30 #[.slice A zs.length cap] w fun e w' => ∃ ys rs v, e = .returned v ∧ Owns w.heap.size (hRow v ys :: rs) w' ∧ Rowed rs (sing (backTo zs 0)) ys ∧ Below w.heap.size w w' := by
  have h1 : 1 ≤ n := by omega
  refine callsIn_of_wp_marks Try.func30 rfl h1' ?_ hro
  simp only [Try.ntmps30, List.size_toArray, List.length_cons, List.length_nil, Nat.reduceAdd, Nat.reduceSub, Array.replicate_succ, Array.replicate_zero, List.push_toArray, List.append_toArray, List.nil_append, List.cons_append]
  gi_wp2_with (gi_at_call 44; refine (back_in F (n - 1) h2' hro _ _ _ _).mono ?_; rintro e w' ⟨rfl, rfl⟩)
  have hst : SingI w A zs.length cap [] ((((w.alloc (Obj.cells #[Value.int IntKind.i64 (-1)] 3)).alloc (Obj.cells #[Value.int IntKind.i64 0, Value.slice (some ⟨w.heap.size, 0, none⟩) 1 1] 68)).alloc (Obj.cells #[Value.slice (some ⟨w.heap.size + 1, 0, none⟩) 1 1] 54)).alloc (Obj.cells #[Value.slice A zs.length cap] 23)) := by
    have O1 := (Owns.start w).laid 3 1 1 [.int .i64 (-1)] rfl (by unfold maxLen; omega)
    have O2 := O1.laid 68 2 1 [.int .i64 0, .slice (some ⟨w.heap.size, 0, none⟩) 1 1] rfl (by unfold maxLen; omega)
    rw [World.size_alloc] at O2
    have O3 := O2.laid 54 1 1 [.slice (some ⟨w.heap.size + 1, 0, none⟩) 1 1] rfl (by unfold maxLen; omega)
    rw [World.size_alloc, World.size_alloc] at O3
    have O4 := O3.laid 23 1 1 [.slice A zs.length cap] rfl (by unfold maxLen; omega)
    rw [World.size_alloc, World.size_alloc, World.size_alloc] at O4
    have R0 : Rowed [] [] [] := ⟨rfl, by simp⟩
    refine ⟨⟨some ⟨w.heap.size + 1, 0, none⟩, 1, [(0, some ⟨w.heap.size, 0, none⟩, 1, 1)], [symRow (0, some ⟨w.heap.size, 0, none⟩, 1, 1) [-1]], O4.swap, R0.snoc (0, some ⟨w.heap.size, 0, none⟩, 1, 1) (0, [-1]) rfl rfl⟩, ?_⟩
    exact (below3 w _ _ _).alloc (by simp; omega) _
  have hcs : ((((w.alloc (Obj.cells #[Value.int IntKind.i64 (-1)] 3)).alloc (Obj.cells #[Value.int IntKind.i64 0, Value.slice (some ⟨w.heap.size, 0, none⟩) 1 1] 68)).alloc (Obj.cells #[Value.slice (some ⟨w.heap.size + 1, 0, none⟩) 1 1] 54)).alloc (Obj.cells #[Value.slice A zs.length cap] 23)).cell? ⟨w.heap.size + 1 + 1 + 1, 0, none⟩ = some (.slice A zs.length cap) := World.cell?_alloc_at _ _ _ _ (by simp)
  have hsn := ((hs.below hst.2 hG).up hG)
  refine wpIn_rangeFunc_ownG hro h1 (gf := 54) (lb := #[.pointer (some ⟨w.heap.size + 1 + 1 + 1, 0, none⟩)]) rfl h3' (enters_of Try.func54 (by kernel_rfl) rfl)
    (back_stops F (n - 1) h3' hro (by omega) (w.heap.size + 1 + 1 + 1) w.heap.size cap A zs (by omega) _ (by simp) (by simp; omega) hcs hsn) KpB.trans (KpB.put (by simp; omega) (by simp)) (Below.refl _ _) (fun _ => rfl)
    (SingI w A zs.length cap) (fun _ _ _ => False) (singI_own w A zs.length cap _ (by simp; omega)) (fun _ _ _ _ _ hs _ _ => hs) hst
    (fun x => { tmps := #[.slice A zs.length cap, undef, .slice none 0 0, .pointer (some ⟨w.heap.size + 1 + 1, 0, none⟩), .int .i64 x.1, .int .i64 x.2, .slice (some ⟨w.heap.size, 0, none⟩) 1 1, .agg #[.int .i64 0, .slice (some ⟨w.heap.size, 0, none⟩) 1 1], .slice (some ⟨w.heap.size + 1, 0, none⟩) 1 1, .slice A zs.length cap, .func (.func 54) #[] #[.pointer (some ⟨w.heap.size + 1 + 1 + 1, 0, none⟩)], .int .i64 x.1, .int .i64 x.2, undef, undef, undef, undef, undef, undef, undef, undef, undef, undef], defers := [] }) ?assign ?body ?done ?stop
  case assign =>
    intro l x W K hK
    gi_wp2
    exact hK
  case body =>
    clear hst hcs hsn
    rintro l pre ⟨xi, xn⟩ W ⟨⟨Av, cv, ys, rs, HO, hR⟩, hB⟩ hlt
    have hyl : ys.length ≤ 1024 := by have h := hR.1; have := sing_len pre; omega
    have HR := veil hR; clear hR
    have hbx := boxed_of HO List.mem_cons_self
    have hsx := boxed_of HO (List.mem_cons_of_mem _ List.mem_cons_self)
    have hc := hbx.cell
    simp only
    by_cases hx : 0 < xn
    · have HO1 := HO.laid 3 1 1 [.int .i64 xi] rfl (by unfold maxLen; omega)
      have HO2 : Owns w.heap.size (hRow (.slice Av ys.length cv) ys :: ⟨3, 1, .slice (some ⟨W.heap.size, 0, none⟩) 1 1, 1, [.int .i64 xi]⟩ :: bxRow (w.heap.size + 1 + 1) 54 (.slice Av ys.length cv) :: bxRow (w.heap.size + 1 + 1 + 1) 23 (.slice A zs.length cap) :: rs) (W.alloc (.cells #[.int .i64 xi] 3)) :=
        HO1.perm (List.perm_middle (l₁ := [_, _, _]))
      have hsee := Seen.new (W.alloc (.cells #[.int .i64 xi] 3)) [.int .i64 xn, .slice (some ⟨W.heap.size, 0, none⟩) 1 1] 68 (W.heap.size + 1 + 1) (by simp)
      rw [World.size_alloc] at hsee
      have HO3 := veil (HO2.alloc (.cells #[.int .i64 xn, .slice (some ⟨W.heap.size, 0, none⟩) 1 1] 68))
      have HOb := veil HO
      clear HO HO1 HO2
      gi_wp2_with (gi_at_builtin; refine wpListIn_ownV _ rfl _ _ 54 rfl w.heap.size 68 2 32 elemB (.slice Av ys.length cv) ys.length (hCells ys) _ rfl HO3.out _ (some ⟨W.heap.size + 1, 0, none⟩) 1 1 [.int .i64 xn, .slice (some ⟨W.heap.size, 0, none⟩) 1 1] rfl hsee rfl (by simp [Value.oneCell']) (by unfold maxLen; omega) (by omega) ?_; intro v' w1 HO4 hgr hbl; obtain ⟨A4, c4, e4, _, _, _⟩ := HO4.seen List.mem_cons_self; (simp only at e4); subst e4; have hb4 := boxed_of HO4 (List.mem_cons_of_mem _ (List.mem_cons_of_mem _ List.mem_cons_self)); have hc4 := hb4.cell; have hf4 := hb4.frozen)
      have HO5 := (HO4.perm ((List.perm_append_comm (l₁ := [_, _]) (l₂ := [_, _])).append_right rs)).setBox (.slice A4 (ys.length + 1) c4)
      have HO6 : Owns w.heap.size (bxRow (w.heap.size + 1 + 1) 54 (.slice A4 (ys ++ [((xn, some ⟨W.heap.size, 0, none⟩, 1, 1) : Hd)]).length c4) :: bxRow (w.heap.size + 1 + 1 + 1) 23 (.slice A zs.length cap) :: hRow (.slice A4 (ys ++ [((xn, some ⟨W.heap.size, 0, none⟩, 1, 1) : Hd)]).length c4) (ys ++ [((xn, some ⟨W.heap.size, 0, none⟩, 1, 1) : Hd)]) :: symRow (xn, some ⟨W.heap.size, 0, none⟩, 1, 1) [xi] :: rs) (w1.setCell ⟨w.heap.size + 1 + 1, 0, none⟩ (.slice A4 (ys.length + 1) c4)) := by
        rw [← hRow_snoc, List.length_append]
        exact HO5
      have hR6 : Rowed (symRow (xn, some ⟨W.heap.size, 0, none⟩, 1, 1) [xi] :: rs) (sing (pre ++ [(xi, xn)])) (ys ++ [((xn, some ⟨W.heap.size, 0, none⟩, 1, 1) : Hd)]) := by
        rw [sing_yes pre (by simpa using hx)]
        exact HR.out.snoc _ (xn.toNat, [xi]) (by simp; omega) rfl
      have hbw : Below w.heap.size W (w1.setCell ⟨w.heap.size + 1 + 1, 0, none⟩ (.slice A4 (ys.length + 1) c4)) :=
        (((((Below.refl _ W).alloc hB.size _).alloc (by have := hB.size; simp; omega) _).trans hbl).setCell (by simp; omega) _)
      refine ⟨?_, ⟨hbw, ?_⟩, ⟨⟨A4, c4, _, _, HO6, hR6⟩, hB.trans hbw⟩⟩
      · refine KeepsOthers.from ?_ _
        exact (((KeepsOthers.alloc W _).trans (KeepsOthers.alloc _ _)).trans (KeepsOthers.of_grownBy hgr (row_cells HO3.out.head))).trans (KeepsOthers.setCell _ _ _)
      · exact (boxed_of HO6 (List.mem_cons_of_mem _ List.mem_cons_self)).trans hsx.symm
    · gi_wp2
      exact ⟨KeepsFrom.refl _ _, KpB.refl _ _ _, ⟨⟨Av, cv, ys, rs, HO, by rw [sing_no pre (by simpa using hx)]; exact HR.out⟩, hB⟩⟩
  case done =>
    rintro D ys W hD rfl ⟨⟨Av, cv, ys, rs, HO, hR⟩, hB⟩ hK
    have hc := (boxed_of HO List.mem_cons_self).cell
    gi_wp2
    refine ⟨by simp, .inl ⟨_, _, rfl, run_takeDeferred hK, ?_⟩⟩
    refine ⟨_, results_tmp rfl _ _ _, ys, rs, _, rfl, ?_, hR, hB.trans (belowK_b (w := w) (Nat.le_refl _) W D _ _ (by simp at hD; omega) hK rfl rfl)⟩
    exact (HO.tail.tail).turn (grownBy_putObj' _ _ _) (fun r e => by injection e with e; subst e; exact ⟨_, hK, rfl⟩)
  case stop =>
    rintro D c pre W _ _ h _
    exact h.elim
theorem singles_any (A : Option Addr) (cap G : Nat) (zs : List Int) (w : World) (hs : Seen w G A (ints .i64 zs)) (hG : G ≤ w.heap.size) (hl : zs.length ≤ 1024) :
    Calls Try.prog 30 #[.slice A zs.length cap] w fun e w' => ∃ ys rs v, e = .returned v ∧ Owns w.heap.size (hRow v ys :: rs) w' ∧ Rowed rs (sing (backTo zs 0)) ys ∧ Below w.heap.size w w' :=
  callsIn_wide.1 (singles_in Fence.wide 3 trivial trivial trivial rfl (Nat.le_refl _) A cap G zs w hs hG hl)
end Go.Proofs.Ythelblkpfkngmaa
