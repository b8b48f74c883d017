/- Two rows of the call's own that lie apart, both appended to in one statement, in whatever order. -/
import Derived.Test.YtgongeblinomcaaMem
import Derived.Maps.AppendAt
import Derived.Deep.AppendLies
namespace Go.Proofs.Ytgongeblinomcaa
open Go.RowKit
set_option linter.unusedVariables false
set_option linter.unusedSimpArgs false

structure Two (w0 : World) (e : TypeId) (u : Value) (xs : List Int) (v : Value) (ys : List Int) (w : World) : Prop where
  l : w.ownsRow w0.heap.size e 1 u xs.length (ints .i64 xs)
  r : w.ownsRow w0.heap.size e 1 v ys.length (ints .i64 ys)
  apart : ∀ g, u.ownBlock = some g → v.ownBlock ≠ some g
  bel : Below w0.heap.size w0 w
section
variable {w0 w w' : World} {e : TypeId} {u v : Value} {xs ys : List Int}
theorem Two.swap (h : Two w0 e u xs v ys w) : Two w0 e v ys u xs w := ⟨h.r, h.l, fun g hg hu => h.apart g hu hg, h.bel⟩
theorem Two.nil (h : Below w0.heap.size w0 w) : Two w0 e (.slice none 0 0) [] (.slice none 0 0) [] w := ⟨World.ownsRow_nil _ _ _ _, World.ownsRow_nil _ _ _ _, (fun g hg => by cases hg), h⟩
theorem Two.alloc (h : Two w0 e u xs v ys w) (o : Obj) : Two w0 e u xs v ys (w.alloc o) := ⟨h.l.alloc o, h.r.alloc o, h.apart, h.bel.alloc h.bel.size o⟩
theorem Two.drew (h : Two w0 e u xs v ys w) : Two w0 e u xs v ys w.drew := ⟨h.l, h.r, h.apart, h.bel.drew⟩
theorem Two.below (h : Two w0 e u xs v ys w) (hb : Below w.heap.size w w') : Two w0 e u xs v ys w' := ⟨own_below h.l hb, own_below h.r hb, h.apart, h.bel.trans (hb.mono h.bel.size)⟩
end
/-- A source that was laid before, behind an append onto another row. -/
theorem seen_grown {w w' : World} {q G : Nat} {x : Value} {row : Option Nat} (hs : Seen w G (some ⟨q, 0, none⟩) [x]) (hg : w.grownBy w' row) (hr : ∀ g, row = some g → g < q) (hq : q < w.heap.size) : Seen w' G (some ⟨q, 0, none⟩) [x] := by
  rcases hs with h | ⟨g, o, h, hlt, hc⟩
  · cases h
  · injection h with h
    injection h with h1 h2
    subst h1 h2
    refine .inr ⟨_, _, rfl, hlt, fun j y hy => ?_⟩
    rw [hg.cell_far _ hq (fun e => by have := hr q e.symm; omega)]
    exact hc j y hy
theorem keep_far {w w' : World} {row : Option Nat} {B i : Nat} {u : Value} (hg : w.grownBy w' row) (hne : some B ≠ row) (hc : w.cell? ⟨B, i, none⟩ = some u) : w'.cell? ⟨B, i, none⟩ = some u :=
  (hg.cell_far _ (World.block_lt_of_cell? w _ hc) hne).trans hc
theorem step_twoL {P : Program} {ops : Array Oper} {o : Oper} {a : Act} {K : Act → World → Prop} {Q : Exit → Act → World → Prop} {E : Prop} (w : World) (hgd : o.guard = none) (s x : Operand) (t : TypeId)
    (ho : o.op = .call { callee := .builtin .append, args := #[s, x], argTypes := #[t, t] }) (w0 : World) (e : TypeId) (he : ElemOf P t e 1 8)
    (u : Value) (xs : List Int) (v : Value) (ys : List Int) (hs : a.eval s = u) (HO : Two w0 e u xs v ys w) (q G : Nat) (y : Int) (hx : a.eval x = .slice (some ⟨q, 0, none⟩) 1 1) (hsee : Seen w G (some ⟨q, 0, none⟩) [.int .i64 y])
    (hlen : xs.length + 1 ≤ 1099511627776)
    (h : ∀ u' w', Two w0 e u' (xs ++ [y]) v ys w' → w.grownBy w' u.ownBlock → K (a.put o.dst u') w') :
    if Region.wanted o (yielded ops a.tmps) = true then Oper.wp P o a w K Q else E := by
  have hw : Region.wanted o (yielded ops a.tmps) = true := by simp [Region.wanted, hgd]
  rw [if_pos hw]
  obtain ⟨ht, hp, i, z, hi, hz0, hz1, hz2, hzs⟩ := he
  have hc : ∀ j c, [Value.int .i64 y][j]? = some c → w.cell? ((⟨q, 0, none⟩ : Addr).add j) = some c := by
    rcases hsee with h | ⟨g, o, h, _, hc⟩
    · cases h
    · injection h with h
      injection h with h1 h2
      subst h1 h2
      intro j c hj
      rw [addr_add]
      exact hc j c hj
  obtain ⟨u', w', hr, h2, h3, _, h4⟩ := run_append_own_at (P := P) w w0.heap.size t o.type e i z 1 8 ht hi hz0 hz1 hz2 hzs hp u xs.length (ints .i64 xs) HO.l ⟨q, 0, none⟩ 1 1 [.int .i64 y] rfl hc (by intro c hc; simp at hc; subst hc; rfl) (by unfold maxLen; omega) (by omega) HO.bel.size
  unfold Oper.wp execOp
  simp only [ho, resolve, invoke, builtin, Sem.run_bind, Sem.run_pure, Result.andThen_ok, List.map_toArray, List.map_cons, List.map_nil, hs, hx, hr]
  refine h u' w' ⟨?_, ?_, ?_, ?_⟩ h3
  · rw [List.length_append, ints_snoc]; exact h2
  · refine HO.r.kept h3 ?_
    cases hv : v.ownBlock with
    | none => exact .inl rfl
    | some g => exact .inr fun e => HO.apart g e.symm hv
  · intro g hg hv
    rcases h4 with h4 | h4
    · exact HO.apart g (h4.symm.trans hg) hv
    · rw [h4] at hg
      injection hg with hg
      have := (HO.r.lt g hv).2
      omega
  · exact HO.bel.grown h3 HO.bel.size fun k hk => (HO.l.lt k hk).1
theorem step_twoR {P : Program} {ops : Array Oper} {o : Oper} {a : Act} {K : Act → World → Prop} {Q : Exit → Act → World → Prop} {E : Prop} (w : World) (hgd : o.guard = none) (s x : Operand) (t : TypeId)
    (ho : o.op = .call { callee := .builtin .append, args := #[s, x], argTypes := #[t, t] }) (w0 : World) (e : TypeId) (he : ElemOf P t e 1 8)
    (u : Value) (xs : List Int) (v : Value) (ys : List Int) (hs : a.eval s = v) (HO : Two w0 e u xs v ys w) (q G : Nat) (y : Int) (hx : a.eval x = .slice (some ⟨q, 0, none⟩) 1 1) (hsee : Seen w G (some ⟨q, 0, none⟩) [.int .i64 y])
    (hlen : ys.length + 1 ≤ 1099511627776)
    (h : ∀ v' w', Two w0 e u xs v' (ys ++ [y]) w' → w.grownBy w' v.ownBlock → K (a.put o.dst v') w') :
    if Region.wanted o (yielded ops a.tmps) = true then Oper.wp P o a w K Q else E :=
  step_twoL w hgd s x t ho w0 e he v ys u xs hs HO.swap q G y hx hsee hlen fun v' w' h2 h3 => h v' w' h2.swap h3
end Go.Proofs.Ytgongeblinomcaa
