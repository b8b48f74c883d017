/- Texts shared by the claims of this seat, in one. -/
import Derived.Below
import Derived.WalkKit
import Derived.Laws.OwnMore
import Derived.Deep.Draws
import Derived.Deep.QuietTactic
import Derived.BigQuiet
import Derived.Laws.AppendOwn
import Derived.OwnWalk
import Derived.Deep.LoopGhost
import Derived.Deep.RegionHeld3
import Derived.Maps.AppendAt
import Derived.Deep.AppendLies
import Derived.Deep.MidRow
import Derived.Test.YtmdjhbkpekepgaaChecked
import Derived.Laws.MakeOwn
import Derived.Laws.ResultCell
import Derived.OpenShut
import Derived.Maps.OwnSet
import Derived.Maps.OwnOps
import Derived.DeepKeys4
import Derived.MapViews
import Derived.Lib.SmallJoins
/- Words for memory that all walks share: a slice that reads as a list of cells, kept over what a call may do. No program is named here. -/
namespace Go.RowKit
end Go.RowKit
namespace Go.Proofs.Ytmdjhbkpekepgaa
open Go.RowKit
set_option linter.unusedVariables false
set_option linter.unusedSimpArgs false
set_option maxRecDepth 100000

/-- A fact put out of the walk's sight. -/
theorem veil {p : Prop} (h : p) : Hid p := h

/-- The cells from address A on are xs, and they lie below block B. -/
def Seen (w : World) (B : Nat) (A : Option Addr) (xs : List Value) : Prop :=
  xs = [] ∨ ∃ g o, A = some ⟨g, o, none⟩ ∧ g < B ∧ ∀ j u, xs[j]? = some u → w.cell? ⟨g, o + j, none⟩ = some u

theorem Seen.nil (w : World) (B : Nat) (A : Option Addr) : Seen w B A [] := .inl rfl

theorem Seen.of (w w' : World) {B : Nat} {A : Option Addr} {xs : List Value} (h : Seen w B A xs) (hk : ∀ p : Addr, p.block < B → w'.cell? p = w.cell? p) : Seen w' B A xs := by
  rcases h with h | ⟨g, o, e, hg, hc⟩
  · exact .inl h
  · exact .inr ⟨g, o, e, hg, fun j u hu => (hk _ hg).trans (hc j u hu)⟩

theorem Seen.below {w w' : World} {B C : Nat} {A : Option Addr} {xs : List Value} (h : Seen w B A xs) (hb : Below C w w') (hBC : B ≤ C) : Seen w' B A xs :=
  h.of w w' fun _ hp => hb.cell (Nat.lt_of_lt_of_le hp hBC)

theorem Seen.up {w : World} {B B' : Nat} {A : Option Addr} {xs : List Value} (h : Seen w B A xs) (hB : B ≤ B') : Seen w B' A xs := by
  rcases h with h | ⟨g, o, e, hg, hc⟩
  · exact .inl h
  · exact .inr ⟨g, o, e, Nat.lt_of_lt_of_le hg hB, hc⟩

theorem Seen.at {w : World} {B : Nat} {A : Option Addr} {xs : List Value} (h : Seen w B A xs) (hne : 0 < xs.length) :
    ∃ g o, A = some ⟨g, o, none⟩ ∧ g < B ∧ ∀ j u, xs[j]? = some u → w.cell? ⟨g, o + j, none⟩ = some u := by
  rcases h with h | h
  · subst h; simp at hne
  · exact h

/-- Integers in a row. -/
def ints (k : IntKind) (xs : List Int) : List Value := xs.map (Value.int k)
theorem ints_length (k : IntKind) (xs : List Int) : (ints k xs).length = xs.length := by simp [ints]
theorem ints_at {k : IntKind} {xs : List Int} {j : Nat} {x : Int} (h : xs[j]? = some x) : (ints k xs)[j]? = some (.int k x) := by
  simp [ints, h]
theorem some_at {α : Type} {xs : List α} {j : Nat} (h : j < xs.length) : ∃ x, xs[j]? = some x := ⟨xs[j], List.getElem?_eq_getElem h⟩
theorem take_snoc {α : Type} {xs : List α} {k : Nat} {x : α} (h : xs[k]? = some x) : xs.take (k + 1) = xs.take k ++ [x] := by
  rw [List.take_add_one, h]; rfl
/-- One number of a row that came in, with its cell. -/
theorem Seen.int {w : World} {B : Nat} {A : Option Addr} {kd : IntKind} {xs : List Int} (h : Seen w B A (ints kd xs)) {k : Nat} (hk : k < xs.length) :
    ∃ g o x, A = some ⟨g, o, none⟩ ∧ g < B ∧ xs[k]? = some x ∧ w.cell? ⟨g, o + k, none⟩ = some (.int kd x) := by
  obtain ⟨g, o, e, hg, hc⟩ := h.at (by rw [ints_length]; omega)
  obtain ⟨x, hx⟩ := some_at hk
  exact ⟨g, o, x, e, hg, hx, hc k _ (ints_at hx)⟩
/-- A block that was just laid. -/
theorem Seen.new (w : World) (xs : List Value) (t : TypeId) (B : Nat) (hB : w.heap.size < B) : Seen (w.alloc (.cells xs.toArray t)) B (some ⟨w.heap.size, 0, none⟩) xs := by
  refine .inr ⟨_, _, rfl, hB, fun j u hu => ?_⟩
  rw [World.cell?_alloc_at _ _ _ _ rfl]
  simpa using hu
theorem Seen.alloc {w : World} {B : Nat} {A : Option Addr} {xs : List Value} (h : Seen w B A xs) (hB : B ≤ w.heap.size) (o : Obj) : Seen (w.alloc o) B A xs :=
  h.of w _ fun p hp => World.cell?_alloc_lt w o p (Nat.lt_of_lt_of_le hp hB)
theorem below1 (w : World) (a : Obj) : Below w.heap.size w (w.alloc a) := (Below.refl _ _).alloc (Nat.le_refl _) a
theorem below2 (w : World) (a b : Obj) : Below w.heap.size w ((w.alloc a).alloc b) := (below1 w a).alloc (by simp) b
theorem below3 (w : World) (a b c : Obj) : Below w.heap.size w (((w.alloc a).alloc b).alloc c) := (below2 w a b).alloc (by simp; omega) c
theorem addr_add (g o j : Nat) : (⟨g, o, none⟩ : Addr).add j = ⟨g, o + j, none⟩ := by
  unfold Addr.add; split
  · rename_i e; subst e; rfl
  · rfl
theorem ints_one {k : IntKind} {l : List Int} : ∀ u ∈ ints k l, u.oneCell' = true := by
  intro u hu
  simp only [ints, List.mem_map] at hu
  obtain ⟨f, _, rfl⟩ := hu
  rfl
/-- Its first cells. -/
theorem Seen.firsts {w : World} {B : Nat} {A : Option Addr} {xs ys : List Value} (h : Seen w B A (xs ++ ys)) : Seen w B A xs := by
  rcases h with h | ⟨g, o, e, hg, hc⟩
  · exact .inl (List.append_eq_nil_iff.1 h).1
  · refine .inr ⟨g, o, e, hg, fun j u hu => hc j u ?_⟩
    rw [List.getElem?_append_left (List.getElem?_eq_some_iff.1 hu).1]; exact hu
theorem below_of_drew {B : Nat} {W w' : World} (h : Below B W.drew w') : Below B W w' := ⟨h.os, h.tape, h.output, h.size, h.block⟩
theorem size_alloc {W w' : World} {o : Obj} {B : Nat} (h : Below B W.drew w') : W.heap.size ≤ (w'.alloc o).heap.size := by
  have := h.size; simp at this ⊢; omega
/-- What an append is about: the element's type and sizes. -/
structure ElemOf (P : Program) (t e : TypeId) (size bytes : Nat) : Prop where
  ht : P.underlying t = some (.slice e)
  pos : 0 < size
  hi : ∃ i z, P.info? e = some i ∧ i.zero = some z ∧ i.size = size ∧ i.bytes = bytes ∧ z.cells.size = size
theorem ElemOf.mk' {P : Program} {t e : TypeId} {size bytes : Nat} {z : Value} (ht : P.underlying t = some (.slice e)) (hinfo : (P.info? e).map (fun i => (i.zero, i.size, i.bytes)) = some (some z, size, bytes)) (hz : z.cells.size = size) (hp : 0 < size) : ElemOf P t e size bytes := by
  obtain ⟨i, hi, h0, h1, h2⟩ := info_parts hinfo
  exact ⟨ht, hp, i, z, hi, h0, h1, h2, hz⟩
/-- What the call owns stays its own over what leaves all blocks so far alone. -/
theorem own_below {w w' : World} {B : Nat} {e : TypeId} {size : Nat} {v : Value} {n : Nat} {xs : List Value} (h : w.ownsRow B e size v n xs) (hb : Below w.heap.size w w') : w'.ownsRow B e size v n xs := by
  obtain ⟨h1, h2⟩ := h
  refine ⟨h1, ?_⟩
  rcases h2 with h2 | ⟨g, cap, cur, hv, hg, hh, r⟩
  · exact .inl h2
  · have hlt : g < w.heap.size := by
      rcases Nat.lt_or_ge g w.heap.size with hl | hl
      · exact hl
      · rw [Array.getElem?_eq_none hl] at hh; cases hh
    exact .inr ⟨g, cap, cur, hv, hg, by rw [hb.block g hlt]; exact hh, r⟩
theorem own_base {w : World} {B B' : Nat} {e : TypeId} {size : Nat} {v : Value} {n : Nat} {xs : List Value} (h : w.ownsRow B e size v n xs) (hB : B' ≤ B) : w.ownsRow B' e size v n xs := by
  obtain ⟨h1, h2⟩ := h
  refine ⟨h1, ?_⟩
  rcases h2 with h2 | ⟨g, cap, cur, hv, hg, r⟩
  · exact .inl h2
  · exact .inr ⟨g, cap, cur, hv, Nat.le_trans hB hg, r⟩
theorem own_form' {w : World} {B : Nat} {e : TypeId} {size : Nat} {v : Value} {n : Nat} {xs : List Value} (h : w.ownsRow B e size v n xs) : ∃ A c, v = .slice A n c ∧ Seen w w.heap.size A xs ∧ n ≤ c ∧ c ≤ maxLen := by
  obtain ⟨h1, h2⟩ := h
  rcases h2 with ⟨rfl, rfl⟩ | ⟨g, cap, cur, rfl, hg, hh, hn, hc, hs, ht⟩
  · exact ⟨none, 0, rfl, .inl (by simpa using h1), Nat.le_refl _, Nat.zero_le _⟩
  · refine ⟨_, _, rfl, .inr ⟨g, 0, rfl, ?_, fun j u hu => ?_⟩, hn, hc⟩
    · rcases Nat.lt_or_ge g w.heap.size with hl | hl
      · exact hl
      · rw [Array.getElem?_eq_none hl] at hh; cases hh
    · have hj : j < n * size := by have := (List.getElem?_eq_some_iff.1 hu).1; omega
      rw [← ht, List.getElem?_take, if_pos hj] at hu
      simp [World.cell?, hh]
      simpa using hu
theorem Seen.takeInts {w : World} {B : Nat} {A : Option Addr} {k : IntKind} {l : List Int} (h : Seen w B A (ints k l)) (n : Nat) : Seen w B A (ints k (l.take n)) := by
  have e : ints k l = ints k (l.take n) ++ ints k (l.drop n) := by simp only [ints, ← List.map_append, List.take_append_drop]
  rw [e] at h
  exact h.firsts
theorem ret_two {a a' b b' : Value} (h : a = a') (k : b = b') : Ending.returned (.tuple #[a, b]) = .returned (.tuple #[a', b']) := by rw [h, k]
theorem ret_bool {a b : Bool} (h : a = b) : Ending.returned (.bool a) = .returned (.bool b) := by rw [h]
end Go.Proofs.Ytmdjhbkpekepgaa

/- Rows of the call's own, any number of them, that lie apart: what an append, a new block and a call do to them. No program is named here. -/
namespace Go.Proofs.Ytmdjhbkpekepgaa
open Go.RowKit
set_option linter.unusedVariables false
set_option linter.unusedSimpArgs false
set_option maxRecDepth 100000

structure Row where
  e : TypeId
  size : Nat
  v : Value
  n : Nat
  xs : List Value
def Row.apart (r s : Row) : Prop := ∀ g, r.v.ownBlock = some g → s.v.ownBlock ≠ some g
theorem Row.apart.symm {r s : Row} (h : r.apart s) : s.apart r := fun g hg hr => h g hr hg

/-- The rows lie in memory from block B on, no two in one block. -/
structure Owns (B : Nat) (rs : List Row) (w : World) : Prop where
  base : B ≤ w.heap.size
  each : ∀ r ∈ rs, w.ownsRow B r.e r.size r.v r.n r.xs
  apart : rs.Pairwise Row.apart

section
variable {B : Nat} {rs ts : List Row} {r s : Row} {w w' : World}
theorem Owns.nil {B : Nat} {w : World} (h : B ≤ w.heap.size) : Owns B [] w := ⟨h, by simp, .nil⟩
theorem Owns.start (w : World) : Owns w.heap.size [] w := .nil (Nat.le_refl _)
theorem Owns.head (h : Owns B (r :: rs) w) : w.ownsRow B r.e r.size r.v r.n r.xs := h.each r (by simp)
theorem Owns.tail (h : Owns B (r :: rs) w) : Owns B rs w := ⟨h.base, fun x hx => h.each x (by simp [hx]), (List.pairwise_cons.1 h.apart).2⟩
theorem Owns.perm (h : Owns B rs w) (hp : rs.Perm ts) : Owns B ts w :=
  ⟨h.base, fun x hx => h.each x (hp.mem_iff.2 hx), hp.pairwise h.apart fun h => h.symm⟩
theorem Owns.swap (h : Owns B (r :: s :: rs) w) : Owns B (s :: r :: rs) w := h.perm (.swap _ _ _)
theorem Owns.fresh (h : Owns B rs w) (e : TypeId) (size : Nat) : Owns B (⟨e, size, .slice none 0 0, 0, []⟩ :: rs) w :=
  ⟨h.base, fun x hx => by
    rcases List.mem_cons.1 hx with rfl | hx
    · exact World.ownsRow_nil _ _ _ _
    · exact h.each x hx, List.pairwise_cons.2 ⟨fun s _ g hg => (by cases hg), h.apart⟩⟩
theorem Owns.below (h : Owns B rs w) (hb : Below w.heap.size w w') : Owns B rs w' := ⟨Nat.le_trans h.base hb.size, fun x hx => own_below (h.each x hx) hb, h.apart⟩
theorem Owns.alloc (h : Owns B rs w) (o : Obj) : Owns B rs (w.alloc o) := ⟨by have := h.base; simp; omega, fun x hx => (h.each x hx).alloc o, h.apart⟩
theorem Owns.drew (h : Owns B rs w) : Owns B rs w.drew := ⟨h.base, fun x hx => h.each x hx, h.apart⟩
theorem Owns.down {B' : Nat} (h : Owns B rs w) (hB : B' ≤ B) : Owns B' rs w := ⟨Nat.le_trans hB h.base, fun x hx => own_base (h.each x hx) hB, h.apart⟩
/-- What a call hands back lies apart from what was there. -/
theorem Owns.call (h : Owns B rs w) (hb : Below w.heap.size w w') (h2 : Owns w.heap.size ts w') : Owns B (ts ++ rs) w' := by
  have hB := h.base
  refine ⟨Nat.le_trans hB hb.size, fun x hx => ?_, List.pairwise_append.2 ⟨h2.apart, h.apart, fun a ha b hb' g hg hgb => ?_⟩⟩
  · rcases List.mem_append.1 hx with hx | hx
    · exact own_base (h2.each x hx) hB
    · exact own_below (h.each x hx) hb
  · have h3 := ((h2.each a ha).lt g hg).1
    have h4 := ((h.each b hb').lt g hgb).2
    omega
theorem Owns.one (hB : B ≤ w.heap.size) (h : w.ownsRow B r.e r.size r.v r.n r.xs) : Owns B [r] w := ⟨hB, fun x hx => by simp at hx; subst hx; exact h, List.pairwise_singleton _ _⟩
theorem Owns.made (h : Owns B rs w) (e : TypeId) (size : Nat) (cur : Array Value) (cap : Nat) (hm : cap ≤ maxLen) (hs : cur.size = cap * size) :
    Owns B (⟨e, size, .slice (some ⟨w.heap.size, 0, none⟩) 0 cap, 0, []⟩ :: rs) (w.alloc (.cells cur e)) :=
  h.call (below1 _ _) (ts := [⟨e, size, .slice (some ⟨w.heap.size, 0, none⟩) 0 cap, 0, []⟩]) (.one (by simp) (World.ownsRow_made _ _ _ (Nat.le_refl _) hm hs))
theorem Owns.seen (h : Owns B rs w) (hr : r ∈ rs) : ∃ A c, r.v = .slice A r.n c ∧ Seen w w.heap.size A r.xs ∧ r.n ≤ c ∧ c ≤ maxLen := own_form' (h.each r hr)
end

/-- append of what is seen onto the first of the rows. -/
theorem run_ownV {P : Program} (w : World) (B : Nat) (t ty e : TypeId) (size bytes : Nat) (he : ElemOf P t e size bytes)
    (v : Value) (n : Nat) (xs : List Value) (rs : List Row) (HO : Owns B (⟨e, size, v, n, xs⟩ :: rs) w) (G : Nat) (A : Option Addr) (m c : Nat) (news : List Value) (hsee : Seen w G A news) (hl : news.length = m * size) (h1 : ∀ u ∈ news, u.oneCell' = true)
    (h63 : n + m ≤ maxLen) (hbytes : (n + m) * bytes ≤ 140737488355328) :
    ∃ v' w', (Builtin.append_ #[t, t] ty #[v, .slice A m c]).run P w = .ok v' w' ∧ Owns B (⟨e, size, v', n + m, xs ++ news⟩ :: rs) w' ∧ w.grownBy w' v.ownBlock ∧ Below B w w' := by
  have hown := HO.head
  have hB := HO.base
  have hap := (List.pairwise_cons.1 HO.apart).1
  obtain ⟨ht, hp, i, z, hi, hz0, hz1, hz2, hzs⟩ := he
  have fin : ∀ v' w', w'.ownsRow B e size v' (n + m) (xs ++ news) → w.grownBy w' v.ownBlock → (v'.ownBlock = v.ownBlock ∨ v'.ownBlock = some w.heap.size) → Owns B (⟨e, size, v', n + m, xs ++ news⟩ :: rs) w' ∧ w.grownBy w' v.ownBlock ∧ Below B w w' := by
    intro v' w' h2 h3 h4
    refine ⟨⟨Nat.le_trans hB h3.size, fun x hx => ?_, List.pairwise_cons.2 ⟨fun s hs g hg => ?_, HO.tail.apart⟩⟩, h3, (Below.refl _ _).grown h3 hB fun k hk => (hown.lt k hk).1⟩
    · rcases List.mem_cons.1 hx with rfl | hx
      · exact h2
      · refine (HO.tail.each x hx).kept h3 ?_
        cases hv : x.v.ownBlock with
        | none => exact .inl rfl
        | some g => exact .inr fun e => hap x hx g e.symm hv
    · simp only at hg
      rcases h4 with h4 | h4
      · exact hap s hs g (h4.symm.trans hg)
      · rw [h4] at hg
        injection hg with hg
        intro hsg
        have := ((HO.tail.each s hs).lt g hsg).2
        omega
  rcases A with _ | ad
  · have hnews : news = [] := by
      rcases hsee with h | ⟨g, o, h, _⟩
      · exact h
      · cases h
    subst hnews
    have hm : m = 0 := by
      rcases Nat.eq_zero_or_pos m with h | h
      · exact h
      · have : 0 < m * size := Nat.mul_pos h hp
        simp at hl; omega
    subst hm
    refine ⟨v, w, ?_, fin v w (by simpa using hown) (World.grownBy.refl w _) (.inl rfl)⟩
    rcases hown.2 with ⟨h5, h6⟩ | ⟨g, cap, cur, h5, _, _, hnc, _⟩
    · simp only at h5 h6
      subst h5 h6
      simp [Builtin.append_, run_underlying ht, sizeOf, typeInfo, hi, Builtin.lenOf, Builtin.firstCells]
    · simp only at h5 hnc
      subst h5
      simp [Builtin.append_, run_underlying ht, sizeOf, typeInfo, hi, Builtin.lenOf, Builtin.firstCells, hnc, storeCells]
  · have hc : ∀ j u, news[j]? = some u → w.cell? (ad.add j) = some u := by
      rcases hsee with h | ⟨g, o, h, _, hc⟩
      · subst h; intro j u hu; simp at hu
      · injection h with h
        subst h
        intro j u hu
        rw [addr_add]
        exact hc j u hu
    obtain ⟨v', w', hr, h2, h3, _, h4⟩ := run_append_own_at (P := P) w B t ty e i z size bytes ht hi hz0 hz1 hz2 hzs hp v n xs hown ad m c news hl hc h1 h63 hbytes hB
    exact ⟨v', w', hr, fin v' w' h2 h3 h4⟩
theorem wp_ownV {P : Program} {o : Oper} {a : Act} {K : Act → World → Prop} {Q : Exit → Act → World → Prop} (w : World) (s x : Operand) (t : TypeId)
    (ho : o.op = .call { callee := .builtin .append, args := #[s, x], argTypes := #[t, t] })
    (B : Nat) (e : TypeId) (size bytes : Nat) (he : ElemOf P t e size bytes)
    (v : Value) (n : Nat) (xs : List Value) (rs : List Row) (hs : a.eval s = v) (HO : Owns B (⟨e, size, v, n, xs⟩ :: rs) w) (G : Nat) (A : Option Addr) (m c : Nat) (news : List Value) (hx : a.eval x = .slice A m c) (hsee : Seen w G A news) (hl : news.length = m * size) (h1 : ∀ u ∈ news, u.oneCell' = true)
    (h63 : n + m ≤ maxLen) (hbytes : (n + m) * bytes ≤ 140737488355328)
    (h : ∀ v' w', Owns B (⟨e, size, v', n + m, xs ++ news⟩ :: rs) w' → w.grownBy w' v.ownBlock → Below B w w' → K (a.put o.dst v') w') : o.wp P a w K Q := by
  obtain ⟨v', w', hr, h2, h3, h4⟩ := run_ownV (P := P) w B t o.type e size bytes he v n xs rs HO G A m c news hsee hl h1 h63 hbytes
  unfold Oper.wp execOp
  simp only [ho, resolve, invoke, builtin, Sem.run_bind, Sem.run_pure, Result.andThen_ok, List.map_toArray, List.map_cons, List.map_nil, hs, hx, hr]
  exact h v' w' h2 h3 h4
/-- In a walk: append of what is seen. -/
theorem wpList_ownV {P : Program} {ops : Array Oper} {rest : List Oper} {o : Oper} {a : Act} {Q : Exit → Act → World → Prop} (w : World) (hgd : Region.wanted o (yielded ops a.tmps) = true) (s x : Operand) (t : TypeId)
    (ho : o.op = .call { callee := .builtin .append, args := #[s, x], argTypes := #[t, t] })
    (B : Nat) (e : TypeId) (size bytes : Nat) (he : ElemOf P t e size bytes)
    (v : Value) (n : Nat) (xs : List Value) (rs : List Row) (hs : a.eval s = v) (HO : Owns B (⟨e, size, v, n, xs⟩ :: rs) w) (G : Nat) (A : Option Addr) (m c : Nat) (news : List Value) (hx : a.eval x = .slice A m c) (hsee : Seen w G A news) (hl : news.length = m * size) (h1 : ∀ u ∈ news, u.oneCell' = true)
    (h63 : n + m ≤ maxLen) (hbytes : (n + m) * bytes ≤ 140737488355328)
    (h : ∀ v' w', Owns B (⟨e, size, v', n + m, xs ++ news⟩ :: rs) w' → Below B w w' → wpList P ops Q rest (a.put o.dst v') w') : wpList P ops Q (o :: rest) a w :=
  wpList_step fun K hK => by
    rw [if_pos hgd]
    exact wp_ownV w s x t ho B e size bytes he v n xs rs hs HO G A m c news hx hsee hl h1 h63 hbytes fun v' w' h2 _ h4 => hK _ _ (h v' w' h2 h4)
/-- A row of integers. -/
def intRow (e : TypeId) (k : IntKind) (v : Value) (l : List Int) : Row := ⟨e, 1, v, l.length, ints k l⟩
theorem ints_append (k : IntKind) (a b : List Int) : ints k (a ++ b) = ints k a ++ ints k b := by simp [ints]
theorem intRow_append (e : TypeId) (k : IntKind) (v : Value) (l m : List Int) : (⟨e, 1, v, l.length + m.length, ints k l ++ ints k m⟩ : Row) = intRow e k v (l ++ m) := by
  simp [intRow, ints_append]
/-- In a walk: append of values just laid, of whatever kind, onto the first of the rows. -/
theorem wpList_ownN {P : Program} {ops : Array Oper} {rest : List Oper} {o : Oper} {a : Act} {Q : Exit → Act → World → Prop} (w0 : World) (hgd : Region.wanted o (yielded ops a.tmps) = true) (s x : Operand) (t : TypeId)
    (ho : o.op = .call { callee := .builtin .append, args := #[s, x], argTypes := #[t, t] })
    (B : Nat) (e : TypeId) (bytes : Nat) (he : ElemOf P t e 1 bytes)
    (v : Value) (n : Nat) (xs : List Value) (rs : List Row) (hs : a.eval s = v) (HO : Owns B (⟨e, 1, v, n, xs⟩ :: rs) w0) (news : List Value) (hx : a.eval x = .slice (some ⟨w0.heap.size, 0, none⟩) news.length news.length) (h1 : ∀ u ∈ news, u.oneCell' = true)
    (h63 : n + news.length ≤ maxLen) (hbytes : (n + news.length) * bytes ≤ 140737488355328)
    (h : ∀ v' w', Owns B (⟨e, 1, v', n + news.length, xs ++ news⟩ :: rs) w' → Below B w0 w' → w0.heap.size < w'.heap.size → wpList P ops Q rest (a.put o.dst v') w') : wpList P ops Q (o :: rest) a (w0.alloc (.cells news.toArray e)) := by
  refine wpList_ownV (w0.alloc (.cells news.toArray e)) hgd s x t ho B e 1 bytes he v n xs rs hs (HO.alloc _) (w0.heap.size + 1) _ _ _ news hx (Seen.new w0 news e _ (Nat.lt_succ_self _)) (by simp) h1 h63 hbytes ?_
  intro v' w' h2 h3
  have := h3.size
  exact h v' w' h2 (((Below.refl _ _).alloc HO.base _).trans h3) (by simp at this; omega)
/-- In a walk: append of integers just laid onto the first of the rows. -/
theorem wpList_ownI {P : Program} {ops : Array Oper} {rest : List Oper} {o : Oper} {a : Act} {Q : Exit → Act → World → Prop} (w0 : World) (hgd : Region.wanted o (yielded ops a.tmps) = true) (s x : Operand) (t : TypeId)
    (ho : o.op = .call { callee := .builtin .append, args := #[s, x], argTypes := #[t, t] })
    (B : Nat) (e : TypeId) (k : IntKind) (bytes : Nat) (he : ElemOf P t e 1 bytes)
    (v : Value) (l : List Int) (rs : List Row) (hs : a.eval s = v) (HO : Owns B (intRow e k v l :: rs) w0) (ys : List Int) (hx : a.eval x = .slice (some ⟨w0.heap.size, 0, none⟩) ys.length ys.length)
    (h63 : l.length + ys.length ≤ maxLen) (hbytes : (l.length + ys.length) * bytes ≤ 140737488355328)
    (h : ∀ v' w', Owns B (intRow e k v' (l ++ ys) :: rs) w' → Below B w0 w' → w0.heap.size < w'.heap.size → wpList P ops Q rest (a.put o.dst v') w') : wpList P ops Q (o :: rest) a (w0.alloc (.cells (ints k ys).toArray e)) := by
  refine wpList_ownN w0 hgd s x t ho B e bytes he v l.length (ints k l) rs hs HO (ints k ys) (by rw [ints_length]; exact hx) ints_one (by rw [ints_length]; exact h63) (by rw [ints_length]; exact hbytes) ?_
  intro v' w' h2 h3 h4
  refine h v' w' ?_ h3 h4
  rw [← intRow_append]
  rw [ints_length] at h2
  exact h2
/-- Rows of integers, each behind a value of a list. -/
def SeenRows (w : World) (G : Nat) (k : IntKind) (vs : List Value) (ps : List (List Int)) : Prop :=
  vs.length = ps.length ∧ ∀ (j : Nat) (v : Value) (p : List Int), vs[j]? = some v → ps[j]? = some p → ∃ A c, v = .slice A p.length c ∧ Seen w G A (ints k p) ∧ p.length ≤ maxLen
section
variable {w w' : World} {G : Nat} {k : IntKind} {vs : List Value} {ps : List (List Int)}
theorem SeenRows.nil (w : World) (G : Nat) (k : IntKind) : SeenRows w G k [] [] := ⟨rfl, by simp⟩
theorem SeenRows.of (h : SeenRows w G k vs ps) (hk : ∀ A xs, Seen w G A xs → Seen w' G A xs) : SeenRows w' G k vs ps :=
  ⟨h.1, fun j v p hv hp => by obtain ⟨A, c, h1, h2, h3⟩ := h.2 j v p hv hp; exact ⟨A, c, h1, hk _ _ h2, h3⟩⟩
theorem SeenRows.below {C : Nat} (h : SeenRows w G k vs ps) (hb : Below C w w') (hG : G ≤ C) : SeenRows w' G k vs ps := h.of fun A xs hs => hs.below hb hG
theorem SeenRows.up {G' : Nat} (h : SeenRows w G k vs ps) (hG : G ≤ G') : SeenRows w G' k vs ps :=
  ⟨h.1, fun j v p hv hp => by obtain ⟨A, c, h1, h2, h3⟩ := h.2 j v p hv hp; exact ⟨A, c, h1, h2.up hG, h3⟩⟩
theorem SeenRows.at (h : SeenRows w G k vs ps) {j : Nat} (hj : j < ps.length) : ∃ A c p, vs[j]? = some (.slice A p.length c) ∧ ps[j]? = some p ∧ Seen w G A (ints k p) ∧ p.length ≤ maxLen := by
  obtain ⟨p, hp⟩ := some_at hj
  obtain ⟨v, hv⟩ := some_at (xs := vs) (j := j) (by rw [h.1]; exact hj)
  obtain ⟨A, c, e, hs, hl⟩ := h.2 j v p hv hp
  exact ⟨A, c, p, by rw [hv, e], hp, hs, hl⟩
/-- Out of rows of the call's own. -/
theorem Owns.rows {B : Nat} {e : TypeId} {rs : List Row} (h : Owns B rs w) (hl : vs.length = ps.length) (hr : ∀ (j : Nat) (v : Value) (p : List Int), vs[j]? = some v → ps[j]? = some p → intRow e k v p ∈ rs) : SeenRows w w.heap.size k vs ps := by
  refine ⟨hl, fun j v p hv hp => ?_⟩
  obtain ⟨A, c, h1, h2, h3, h4⟩ := h.seen (hr j v p hv hp)
  exact ⟨A, c, h1, h2, Nat.le_trans h3 h4⟩
end
theorem Seen.cell {w : World} {B : Nat} {A : Option Addr} {xs : List Value} (h : Seen w B A xs) {k : Nat} {u : Value} (hk : xs[k]? = some u) :
    ∃ g o, A = some ⟨g, o, none⟩ ∧ g < B ∧ w.cell? ⟨g, o + k, none⟩ = some u := by
  obtain ⟨g, o, e, hg, hc⟩ := h.at (by have := (List.getElem?_eq_some_iff.1 hk).1; omega)
  exact ⟨g, o, e, hg, hc k u hk⟩
end Go.Proofs.Ytmdjhbkpekepgaa

/- Arrays and structs by value, of whatever number of cells: their load, their index; rows of triples. No program is named here. -/
namespace Go.Proofs.Ytmdjhbkpekepgaa
open Go.RowKit
set_option linter.unusedVariables false
set_option linter.unusedSimpArgs false
set_option maxRecDepth 100000

/-- An array's element by its index, out of its value. -/
theorem wpList_index_arr {P : Program} {ops : Array Oper} {rest : List Oper} {o : Oper} {a : Act} {w : World} {Q : Exit → Act → World → Prop} (hgd : o.guard = none) (ty : TypeId) (x i : Operand) (ho : o.op = .index ty x i)
    (n : Nat) (e : TypeId) (q : IntKind) (hu : P.underlying ty = some (.array n e)) (he : P.underlying e = some (.int q)) (hsz : (P.info? e).map (·.size) = some 1)
    (cs : List Value) (hx : a.eval x = .agg cs.toArray) (k : IntKind) (j : Nat) (hi : a.eval i = .int k j) (v : Value) (hj : j < n) (hv : cs[j]? = some v)
    (h : wpList P ops Q rest (a.put o.dst v) w) : wpList P ops Q (o :: rest) a w := by
  refine wpList_plain hgd fun _ hK => ?_
  have hagg : (isAgg e).run P w = .ok false w := by
    unfold isAgg
    rw [Sem.run_bind, run_underlying he w]
    simp
  cases hq : P.info? e with
  | none => simp [hq] at hsz
  | some inf =>
    have hs : inf.size = 1 := by simpa [hq] using hsz
    unfold Oper.wp execOp
    simp only [ho, hx, hi]
    have hr : (Instr.index ty (.agg cs.toArray) (.int k j)).run P w = .ok v w := by
      simp [Instr.index, asIntOf, run_underlying hu, Sem.run_bind, part, sizeOf, typeInfo, hq, hs, hagg, hv, hj]
    simp only [hr, Sem.run_bind, Sem.run_pure, Result.andThen_ok]
    exact hK _ _ h

/-- What lies in a block just laid. -/
theorem range_new (w : World) (xs : List Value) (t : TypeId) : (w.alloc (.cells xs.toArray t)).rangeAt w.heap.size 0 xs := fun j v hv => by
  rw [World.cell?_alloc_at _ _ _ _ rfl]
  simpa using hv
theorem range_left {w : World} {b o : Nat} {xs ys : List Value} (h : w.rangeAt b o (xs ++ ys)) : w.rangeAt b o xs := fun j v hv => h j v (by rw [List.getElem?_append_left (List.getElem?_eq_some_iff.1 hv).1]; exact hv)
theorem range_below {w w' : World} {B b o : Nat} {xs : List Value} (h : w.rangeAt b o xs) (hb : Below B w w') (hB : b < B) : w'.rangeAt b o xs := fun j v hv => (hb.cell (by exact hB)).trans (h j v hv)

/-- Structs of three integers in a row. -/
def tripleCells (l : List (Int × Nat × Nat)) : List Value := l.flatMap fun f => [.int .i64 f.1, .int .i64 f.2.1, .int .i64 f.2.2]
theorem tripleCells_length (l : List (Int × Nat × Nat)) : (tripleCells l).length = l.length * 3 := by
  induction l with
  | nil => rfl
  | cons f l ih => simp [tripleCells] at ih ⊢; omega
theorem tripleCells_one {l : List (Int × Nat × Nat)} : ∀ u ∈ tripleCells l, u.oneCell' = true := by
  intro u hu
  simp only [tripleCells, List.mem_flatMap] at hu
  obtain ⟨f, _, hu⟩ := hu
  simp at hu
  rcases hu with rfl | rfl | rfl <;> rfl
theorem tripleCells_at : ∀ (l : List (Int × Nat × Nat)) (k : Nat) (f : Int × Nat × Nat), l[k]? = some f → (tripleCells l)[k * 3]? = some (.int .i64 f.1) ∧ (tripleCells l)[k * 3 + 1]? = some (.int .i64 f.2.1) ∧ (tripleCells l)[k * 3 + 2]? = some (.int .i64 f.2.2)
  | [], k, f, h => by simp at h
  | g :: l, 0, f, h => by simp at h; subst h; simp [tripleCells]
  | g :: l, k + 1, f, h => by
    rw [List.getElem?_cons_succ] at h
    have e : ∀ j, (tripleCells (g :: l))[j + 3]? = (tripleCells l)[j]? := by intro j; simp [tripleCells]
    have := tripleCells_at l k f h
    refine ⟨?_, ?_, ?_⟩
    · rw [show (k + 1) * 3 = k * 3 + 3 by omega, e]; exact this.1
    · rw [show (k + 1) * 3 + 1 = k * 3 + 1 + 3 by omega, e]; exact this.2.1
    · rw [show (k + 1) * 3 + 2 = k * 3 + 2 + 3 by omega, e]; exact this.2.2
/-- One struct of a row that is seen, with its three cells. -/
theorem Seen.triple {w : World} {B : Nat} {A : Option Addr} {l : List (Int × Nat × Nat)} (h : Seen w B A (tripleCells l)) {k : Nat} (hk : k < l.length) :
    ∃ g o s n c, A = some ⟨g, o, none⟩ ∧ g < B ∧ l[k]? = some (s, n, c) ∧ w.cell? ⟨g, o + k * 3, none⟩ = some (.int .i64 s) ∧ w.cell? ⟨g, o + k * 3 + 1, none⟩ = some (.int .i64 (n : Int)) ∧ w.cell? ⟨g, o + k * 3 + 2, none⟩ = some (.int .i64 (c : Int)) := by
  obtain ⟨g, o, e, hg, hc⟩ := h.at (by rw [tripleCells_length]; omega)
  obtain ⟨⟨s, n, c⟩, hx⟩ := some_at hk
  obtain ⟨h1, h2, h3⟩ := tripleCells_at l k _ hx
  exact ⟨g, o, s, n, c, e, hg, hx, hc _ _ h1, by have := hc _ _ h2; rw [Nat.add_assoc]; exact this, by have := hc _ _ h3; rw [Nat.add_assoc]; exact this⟩
end Go.Proofs.Ytmdjhbkpekepgaa

/- Bits of numbers, the highest first, and bytes: plain mathematics. -/
namespace Go.Proofs.Ytmdjhbkpekepgaa
set_option linter.unusedVariables false
set_option linter.unusedSimpArgs false
set_option maxRecDepth 100000

def bitsN : Nat → Nat → List Bool
  | 0, _ => []
  | w + 1, v => bitsN w (v / 2) ++ [decide (v % 2 = 1)]
def valB (l : List Bool) : Nat := l.foldl (fun n b => 2 * n + b.toNat) 0

theorem bitsN_length (w v : Nat) : (bitsN w v).length = w := by
  induction w generalizing v with
  | zero => rfl
  | succ w ih => simp [bitsN, ih]
theorem valB_snoc (l : List Bool) (b : Bool) : valB (l ++ [b]) = 2 * valB l + b.toNat := by simp [valB]
theorem valB_bitsN (w v : Nat) (h : v < 2 ^ w) : valB (bitsN w v) = v := by
  induction w generalizing v with
  | zero => simp at h; subst h; rfl
  | succ w ih =>
    rw [bitsN, valB_snoc, ih _ (by rw [Nat.pow_succ] at h; omega)]
    rcases Nat.mod_two_eq_zero_or_one v with hv | hv <;> simp [hv] <;> omega
theorem list_snoc {α : Type} (l : List α) (h : l ≠ []) : ∃ a b, l = a ++ [b] := ⟨l.dropLast, l.getLast h, (List.dropLast_concat_getLast h).symm⟩
theorem bitsN_inj {w a b : Nat} (ha : a < 2 ^ w) (hb : b < 2 ^ w) (h : bitsN w a = bitsN w b) : a = b := by
  rw [← valB_bitsN w a ha, ← valB_bitsN w b hb, h]
theorem bitsN_add (a b v : Nat) : bitsN (a + b) v = bitsN a (v / 2 ^ b) ++ bitsN b v := by
  induction b generalizing v with
  | zero => simp [bitsN]
  | succ b ih =>
    rw [← Nat.add_assoc, bitsN, ih, bitsN, List.append_assoc]
    congr 1
    rw [Nat.div_div_eq_div_mul, ← Nat.pow_succ', ]
def unpack (bs : List Int) : List Bool := bs.flatMap fun x => bitsN 8 x.toNat
def Bytes (bs : List Int) : Prop := ∀ x ∈ bs, 0 ≤ x ∧ x ≤ 255
def fieldBits (l : List (Int × Int)) : List Bool := l.flatMap fun f => bitsN f.1.toNat f.2.toNat
def okF (f : Int × Int) : Prop := (0 ≤ f.1 ∧ f.1 ≤ 24) ∧ 0 ≤ f.2 ∧ f.2 < 2 ^ f.1.toNat
instance (f : Int × Int) : Decidable (okF f) := by unfold okF; infer_instance

theorem unpack_cons (x : Int) (a : List Int) : unpack (x :: a) = bitsN 8 x.toNat ++ unpack a := by simp [unpack]
theorem unpack_length (a : List Int) : (unpack a).length = 8 * a.length := by
  induction a with
  | nil => rfl
  | cons x a ih => rw [unpack_cons, List.length_append, bitsN_length, ih, List.length_cons]; omega
theorem unpack_inj : ∀ {a b : List Int}, Bytes a → Bytes b → unpack a = unpack b → a = b
  | [], [], _, _, _ => rfl
  | [], y :: b, _, _, h => by have := congrArg List.length h; simp [unpack_length] at this
  | x :: a, [], _, _, h => by have := congrArg List.length h; simp [unpack_length] at this
  | x :: a, y :: b, ha, hb, h => by
    rw [unpack_cons, unpack_cons] at h
    obtain ⟨h1, h2⟩ := List.append_inj h (by rw [bitsN_length, bitsN_length])
    have hx := ha x (by simp)
    have hy := hb y (by simp)
    have e := bitsN_inj (w := 8) (by omega) (by omega) h1
    have := unpack_inj (fun z hz => ha z (by simp [hz])) (fun z hz => hb z (by simp [hz])) h2
    rw [this]; congr 1; omega
/-- What Write answers: the error's number. -/
def writeErr (l : List (Int × Int)) : Int := if 20000 < l.length then 2 else if ∀ f ∈ l, okF f then 0 else 1
/-- What Write makes: whole bytes, the fields' bits, then ones. -/
def Written (l : List (Int × Int)) (out : List Int) : Prop :=
  (writeErr l ≠ 0 → out = []) ∧ (writeErr l = 0 → Bytes out ∧ ∃ p, p < 8 ∧ unpack out = fieldBits l ++ List.replicate p true)
theorem Written.same {l : List (Int × Int)} {a b : List Int} (ha : Written l a) (hb : Written l b) : a = b := by
  by_cases h : writeErr l = 0
  · obtain ⟨ba, p, hp, ea⟩ := ha.2 h
    obtain ⟨bb, q, hq, eb⟩ := hb.2 h
    have h1 := congrArg List.length ea
    have h2 := congrArg List.length eb
    simp [unpack_length] at h1 h2
    have : p = q := by omega
    subst this
    exact unpack_inj ba bb (ea.trans eb.symm)
  · rw [ha.1 h, hb.1 h]

def sumW (ws : List Int) : Int := ws.foldr (· + ·) 0
end Go.Proofs.Ytmdjhbkpekepgaa

/- Canonical prefix codes in numbers: which counts have codewords, what these are, that none begins another. No program is named here. -/
namespace Go.Proofs.Ytmdjhbkpekepgaa
set_option linter.unusedVariables false
set_option linter.unusedSimpArgs false
set_option maxRecDepth 100000

/-- From words of k + 1 bits on, c being the next code: the lengths and codes. -/
def codesFrom : Nat → Nat → List Nat → Option (List (Nat × Nat))
  | _, _, [] => some []
  | k, c, n :: ns => if c + n ≤ 2 ^ (k + 1) - 1 then (codesFrom (k + 1) (2 * (c + n)) ns).map ((List.range n).map (fun i => (k + 1, c + i)) ++ ·) else none
def codes (ns : List Nat) : Option (List (Nat × Nat)) := codesFrom 0 0 ns

/-- What has been handed out, and what is to come. -/
def CInv (ns : List Nat) (k c : Nat) (acc : List (Nat × Nat)) : Prop := codes ns = (codesFrom k c (ns.drop k)).map (acc ++ ·) ∧ c < 2 ^ (k + 1) - 1 ∧ acc.length = (ns.take k).sum
theorem CInv.start (ns : List Nat) : CInv ns 0 0 [] := ⟨by show codesFrom 0 0 ns = _; rw [List.drop_zero]; cases h : codesFrom 0 0 ns <;> simp, by decide, rfl⟩
def wordsTo (k c i : Nat) : List (Nat × Nat) := (List.range i).map fun j => (k + 1, c + j)
theorem wordsTo_length (k c i : Nat) : (wordsTo k c i).length = i := by simp [wordsTo]
theorem wordsTo_snoc (k c i : Nat) : wordsTo k c (i + 1) = wordsTo k c i ++ [(k + 1, c + i)] := by simp [wordsTo, List.range_succ]
theorem drop_nat {ns : List Nat} {k n : Nat} (h : ns[k]? = some n) : ns.drop k = n :: ns.drop (k + 1) := by
  obtain ⟨hk, e⟩ := List.getElem?_eq_some_iff.1 h
  rw [List.drop_eq_getElem_cons hk, e]
theorem CInv.fail {ns : List Nat} {k c n : Nat} {acc : List (Nat × Nat)} (h : CInv ns k c acc) (hn : ns[k]? = some n) {i : Nat} (hi : i < n) (hc : 2 ^ (k + 1) - 1 ≤ c + i) : codes ns = none := by
  rw [h.1, drop_nat hn]
  unfold codesFrom
  rw [if_neg (by omega)]
  rfl
theorem take_sum {ns : List Nat} {k n : Nat} (h : ns[k]? = some n) : (ns.take (k + 1)).sum = (ns.take k).sum + n := by
  rw [List.take_add_one, h]; simp [List.sum_append]
theorem CInv.next {ns : List Nat} {k c n : Nat} {acc : List (Nat × Nat)} (h : CInv ns k c acc) (hn : ns[k]? = some n) (hc : c + n ≤ 2 ^ (k + 1) - 1) : CInv ns (k + 1) (2 * (c + n)) (acc ++ wordsTo k c n) := by
  refine ⟨?_, ?_, ?_⟩
  · rw [h.1, drop_nat hn]
    conv => lhs; unfold codesFrom
    rw [if_pos hc]
    cases codesFrom (k + 1) (2 * (c + n)) (ns.drop (k + 1)) <;> simp [wordsTo]
  · have : 2 ^ (k + 1 + 1) = 2 * 2 ^ (k + 1) := by rw [Nat.pow_succ]; omega
    have h2 : 0 < 2 ^ (k + 1) := Nat.pow_pos (by omega)
    omega
  · rw [List.length_append, h.2.2, wordsTo_length, take_sum hn]
theorem CInv.done {ns : List Nat} {c : Nat} {acc : List (Nat × Nat)} (h : CInv ns ns.length c acc) : codes ns = some acc := by
  rw [h.1, List.drop_length]
  simp [codesFrom]
theorem codes_length {ns : List Nat} {l : List (Nat × Nat)} (h : codes ns = some l) : l.length = ns.sum := by
  have key : ∀ (ns : List Nat) (k c : Nat) (l : List (Nat × Nat)), codesFrom k c ns = some l → l.length = ns.sum := by
    intro ns
    induction ns with
    | nil => intro k c l h; simp [codesFrom] at h; subst h; rfl
    | cons n ns ih =>
      intro k c l h
      unfold codesFrom at h
      split at h
      · cases hq : codesFrom (k + 1) (2 * (c + n)) ns with
        | none => simp [hq] at h
        | some m => simp [hq] at h; subst h; simp [ih _ _ _ hq]
      · cases h
  exact key ns 0 0 l h

/-- Each word lies right behind the one ahead; all of them leave room. -/
def Kr : Nat → List (Nat × Nat) → Prop
  | R, [] => R < 65536
  | R, p :: l => 1 ≤ p.1 ∧ p.1 ≤ 16 ∧ p.2 * 2 ^ (16 - p.1) = R ∧ (∀ q ∈ l, p.1 ≤ q.1) ∧ Kr (R + 2 ^ (16 - p.1)) l
/-! ### no word begins another one -/
theorem Kr.lt {R : Nat} {l : List (Nat × Nat)} (h : Kr R l) : R < 65536 := by
  induction l generalizing R with
  | nil => exact h
  | cons p l ih => exact Nat.lt_of_le_of_lt (Nat.le_add_right _ _) (ih h.2.2.2.2)
theorem Kr.ge {R : Nat} {l : List (Nat × Nat)} (h : Kr R l) : ∀ p ∈ l, 1 ≤ p.1 ∧ p.1 ≤ 16 ∧ R ≤ p.2 * 2 ^ (16 - p.1) ∧ p.2 * 2 ^ (16 - p.1) + 2 ^ (16 - p.1) < 65536 := by
  induction l generalizing R with
  | nil => simp
  | cons q l ih =>
    obtain ⟨h1, h2, h3, h4, h5⟩ := h
    intro p hp
    rcases List.mem_cons.1 hp with rfl | hp
    · exact ⟨h1, h2, by omega, by have := h5.lt; omega⟩
    · have := ih h5 p hp
      exact ⟨this.1, this.2.1, Nat.le_trans (Nat.le_add_right _ _) this.2.2.1, this.2.2.2⟩
theorem Kr.small {R : Nat} {l : List (Nat × Nat)} (h : Kr R l) {p : Nat × Nat} (hp : p ∈ l) : p.2 + 1 < 2 ^ p.1 := by
  obtain ⟨h1, h2, h3, h4⟩ := h.ge p hp
  have e : 2 ^ p.1 * 2 ^ (16 - p.1) = 65536 := by rw [← Nat.pow_add, show p.1 + (16 - p.1) = 16 by omega]
  rcases Nat.lt_or_ge (p.2 + 1) (2 ^ p.1) with h5 | h5
  · exact h5
  · have := Nat.mul_le_mul_right (2 ^ (16 - p.1)) h5
    rw [Nat.add_mul, e] at this
    omega
/-- Of two words the later one lies behind the earlier one. -/
theorem Kr.apart {R : Nat} {l : List (Nat × Nat)} (h : Kr R l) : l.Pairwise fun p q => p.1 ≤ q.1 ∧ p.2 * 2 ^ (16 - p.1) + 2 ^ (16 - p.1) ≤ q.2 * 2 ^ (16 - q.1) := by
  induction l generalizing R with
  | nil => exact .nil
  | cons p l ih =>
    obtain ⟨h1, h2, h3, h4, h5⟩ := h
    refine List.pairwise_cons.2 ⟨fun q hq => ⟨h4 q hq, ?_⟩, ih h5⟩
    have := (h5.ge q hq).2.2.1
    omega
theorem shift_ne {a b c d : Nat} (hab : a ≤ b) (hb : b ≤ 16) (h : c * 2 ^ (16 - a) + 2 ^ (16 - a) ≤ d * 2 ^ (16 - b)) : c < d / 2 ^ (b - a) := by
  have e : 2 ^ (16 - a) = 2 ^ (b - a) * 2 ^ (16 - b) := by rw [← Nat.pow_add]; congr 1; omega
  have h0 : 0 < 2 ^ (16 - b) := Nat.pow_pos (by omega)
  have h1 : 0 < 2 ^ (b - a) := Nat.pow_pos (by omega)
  rw [e] at h
  have h2 : (c + 1) * 2 ^ (b - a) * 2 ^ (16 - b) ≤ d * 2 ^ (16 - b) := by
    rw [Nat.add_mul, Nat.add_mul, Nat.one_mul, Nat.mul_assoc]; exact h
  have h3 := Nat.le_of_mul_le_mul_right h2 h0
  have := (Nat.le_div_iff_mul_le h1).2 h3
  omega
/-- No word begins another one. -/
theorem Kr.noFront {R : Nat} {l : List (Nat × Nat)} (h : Kr R l) {i k : Nat} {p q : Nat × Nat} (hp : l[i]? = some p) (hq : l[k]? = some q) (hne : i ≠ k) (hle : p.1 ≤ q.1) : q.2 / 2 ^ (q.1 - p.1) ≠ p.2 := by
  have ha := List.pairwise_iff_getElem.1 h.apart
  obtain ⟨hi, rfl⟩ := List.getElem?_eq_some_iff.1 hp
  obtain ⟨hk, rfl⟩ := List.getElem?_eq_some_iff.1 hq
  rcases Nat.lt_or_gt_of_ne hne with hlt | hlt
  · have h1 := ha i k hi hk hlt
    have h2 := (h.ge _ (List.getElem_mem hk)).2.1
    have := shift_ne h1.1 h2 h1.2
    omega
  · have h1 := ha k i hk hi hlt
    have h2 := (h.ge _ (List.getElem_mem hi)).2.1
    have h3 : (l[i]).1 = (l[k]).1 := by omega
    have := shift_ne h1.1 h2 h1.2
    rw [h3] at this ⊢
    simp at this ⊢
    omega
/-- The bits of one begin those of another: they are one. -/
theorem Kr.bits {R : Nat} {l : List (Nat × Nat)} (h : Kr R l) {i k : Nat} {p q : Nat × Nat} (hp : l[i]? = some p) (hq : l[k]? = some q) {b : List Bool} (h1 : bitsN p.1 p.2 <+: b) (h2 : bitsN q.1 q.2 <+: b) : i = k := by
  have key : ∀ {i k : Nat} {p q : Nat × Nat}, l[i]? = some p → l[k]? = some q → bitsN p.1 p.2 <+: b → bitsN q.1 q.2 <+: b → p.1 ≤ q.1 → i = k := by
    intro i k p q hp hq h1 h2 hle
    refine Classical.byContradiction fun hne => h.noFront hp hq hne hle ?_
    have h3 : bitsN p.1 p.2 <+: bitsN q.1 q.2 := List.prefix_of_prefix_length_le h1 h2 (by rw [bitsN_length, bitsN_length]; exact hle)
    have e : bitsN q.1 q.2 = bitsN p.1 (q.2 / 2 ^ (q.1 - p.1)) ++ bitsN (q.1 - p.1) q.2 := by
      rw [← bitsN_add]; congr 1; omega
    rw [e] at h3
    have h4 := List.prefix_iff_eq_take.1 h3
    rw [List.take_left' (by rw [bitsN_length, bitsN_length])] at h4
    have hpm := h.small (List.mem_of_getElem? hp)
    have hqm := h.small (List.mem_of_getElem? hq)
    refine (bitsN_inj (by omega) ?_ h4).symm
    have h0 : 0 < 2 ^ (q.1 - p.1) := Nat.pow_pos (by omega)
    rw [Nat.div_lt_iff_lt_mul h0, ← Nat.pow_add, show p.1 + (q.1 - p.1) = q.1 by omega]
    omega
  rcases Nat.le_total p.1 q.1 with hle | hle
  · exact key hp hq h1 h2 hle
  · exact (key hq hp h2 h1 hle).symm
end Go.Proofs.Ytmdjhbkpekepgaa

/- A table's value, and whether its counts fit: the contract of table.countsMatch. -/
namespace Go.Proofs.Ytmdjhbkpekepgaa
open Go.RowKit
set_option linter.unusedVariables false
set_option linter.unusedSimpArgs false
set_option maxRecDepth 100000

/-- The cells of a table. -/
def tabCells (cs : List Int) (A : Option Addr) (n c : Nat) : List Value := ints .i64 cs ++ [.slice A n c]
/-- A table's value. -/
abbrev tabV (cs : List Int) (A : Option Addr) (n c : Nat) : Value := .agg (tabCells cs A n c).toArray
theorem tabCells_last {cs : List Int} {A : Option Addr} {n c : Nat} (h : cs.length = 16) : (tabCells cs A n c)[16]? = some (.slice A n c) := by
  unfold tabCells
  rw [List.getElem?_append_right (by rw [ints_length]; omega), ints_length, h]; rfl
theorem tabCells_length {cs : List Int} {A : Option Addr} {n c : Nat} (h : cs.length = 16) : (tabCells cs A n c).length = 17 := by
  simp [tabCells, ints_length, h]
theorem tabCells_one {cs : List Int} {A : Option Addr} {n c : Nat} : ∀ u ∈ tabCells cs A n c, u.oneCell' = true := by
  intro u hu
  rcases List.mem_append.1 hu with hu | hu
  · exact ints_one u hu
  · simp at hu; subst hu; rfl

theorem info_tab : (Try.prog.info? 27).map (·.size) = some 17 := by kernel_rfl
theorem info_arr : (Try.prog.info? 24).map (·.size) = some 16 := by kernel_rfl
theorem info_int1 : (Try.prog.info? 3).map (·.size) = some 1 := by kernel_rfl

/-- The counts are numbers whose sum fits the symbols. -/
def Good (cs : List Int) (n : Nat) : Prop := (∀ x ∈ cs, 0 ≤ x) ∧ sumW cs ≤ 256 ∧ sumW cs = n
instance (cs : List Int) (n : Nat) : Decidable (Good cs n) := by unfold Good; infer_instance
def goodB (cs : List Int) (n : Nat) : Bool := decide (Good cs n)
theorem goodB_no {cs : List Int} {n : Nat} (h : ¬ Good cs n) : goodB cs n = false := decide_eq_false h
theorem goodB_iff {cs : List Int} {n : Nat} : goodB cs n = true ↔ Good cs n := decide_eq_true_iff
theorem sumW_app (a b : List Int) : sumW (a ++ b) = sumW a + sumW b := by
  induction a with
  | nil => simp [sumW]
  | cons x a ih => simp [sumW] at ih ⊢; omega
theorem sumW_pos (ws : List Int) (h : ∀ x ∈ ws, 0 ≤ x) : 0 ≤ sumW ws := by
  induction ws with
  | nil => simp [sumW]
  | cons x a ih => have h1 := h x (by simp); have h2 := ih fun y hy => h y (by simp [hy]); simp [sumW] at h2 ⊢; omega
theorem good_stop {cs : List Int} {n k : Nat} {x : Int} (hx : cs[k]? = some x) (h : x < 0 ∨ 256 - sumW (cs.take k) < x) : ¬ Good cs n := by
  rintro ⟨h1, h2, h3⟩
  have h4 := h1 x (List.mem_of_getElem? hx)
  have e : sumW cs = sumW (cs.take k) + x + sumW (cs.drop (k + 1)) := by
    conv => lhs; rw [← List.take_append_drop (k + 1) cs, sumW_app, take_snoc hx, sumW_app]
    simp [sumW]
  have h5 := sumW_pos (cs.drop (k + 1)) fun y hy => h1 y (List.mem_of_mem_drop hy)
  omega
theorem sumW_take {cs : List Int} {k : Nat} {x : Int} (hx : cs[k]? = some x) : sumW (cs.take (k + 1)) = sumW (cs.take k) + x := by
  rw [take_snoc hx, sumW_app]; simp [sumW]

theorem mem_snoc {α : Type} {p : α → Prop} {l : List α} {k : Nat} {x : α} (hx : l[k]? = some x) (h : ∀ y ∈ l.take k, p y) (h2 : p x) : ∀ y ∈ l.take (k + 1), p y := by
  intro y hy
  rw [take_snoc hx] at hy
  rcases List.mem_append.1 hy with hy | hy
  · exact h y hy
  · simp at hy; subst hy; exact h2
set_option maxHeartbeats 1000000 in
theorem countsMatch_any (cs : List Int) (A : Option Addr) (n c : Nat) (w : World) (hcs : cs.length = 16) (hn : n ≤ maxLen) (hb : ∀ x ∈ cs, -9223372036854775808 ≤ x ∧ x ≤ 9223372036854775807) :
    Calls Try.prog 36 #[tabV cs A n c] w fun e w' => e = .returned (.bool (goodB cs n)) ∧ Below w.heap.size w w' := by
  have h16 : (tabCells cs A n c)[16]? = some (.slice A n c) := tabCells_last hcs
  have hlt : w.heap.size < (w.alloc (.cells (tabCells cs A n c).toArray 27)).heap.size := by simp
  have hr : Hid (∀ xs, xs = tabCells cs A n c → (w.alloc (.cells xs.toArray 27)).rangeAt w.heap.size 0 (ints .i64 cs)) := by
    show ∀ xs, _
    intro xs e
    subst e
    exact range_left (range_new w _ _)
  unfold maxLen at hn
  have Hb := veil hb
  have Hcs := veil hcs
  have he : Hid (∀ xs, xs = tabCells cs A n c → xs = tabCells cs A n c) := fun _ h => h
  clear hb hcs
  obtain ⟨xs, hxs⟩ : ∃ xs, xs = tabCells cs A n c := ⟨_, rfl⟩
  have Hr := veil (hr.out xs hxs)
  unfold tabV
  rw [← hxs] at h16 ⊢
  clear hr hxs he hlt
  go_enter Try.func36, Try.ntmps36
  go_wp2_with (first
    | (refine wpList_load_mid rfl 24 (.tmp 6) rfl w.heap.size 0 rfl (ints .i64 cs) _ Hr.out Try.underlying24 rfl (by rw [ints_length, Hcs.out]; exact info_arr) ?_)
    | fail)
  go_loopg [3, 5, 8] 16 (fun gk s x i wr => ∃ k : Nat, gk = 16 - k ∧ k ≤ 16 ∧ i = .int .i64 k ∧ (∃ z : Int, s = .int .i64 z ∧ Hid (z = sumW (cs.take k)) ∧ 0 ≤ z ∧ z ≤ 256) ∧ Hid (∀ x ∈ cs.take k, 0 ≤ x) ∧ wr.cell? ⟨w.heap.size, 16, none⟩ = some (.slice A n c) ∧ Below w.heap.size w wr)
  case atStart => exact ⟨0, rfl, by omega, rfl, ⟨0, rfl, veil rfl, by omega, by omega⟩, veil (by simp), by rw [World.cell?_alloc_at _ _ _ _ rfl]; simpa using h16, below1 _ _⟩
  case round =>
    obtain ⟨k, rfl, hk, rfl, ⟨z, rfl, Hz, hz0, hz1⟩, Hp, h17, hbel⟩ := hrel
    by_cases hlt : k < 16
    · obtain ⟨x, hx⟩ := some_at (xs := cs) (j := k) (by rw [Hcs.out]; omega)
      have hxb := Hb.out x (List.mem_of_getElem? hx)
      have Hx := veil hx; clear hx
      by_cases h0 : x < 0
      · go_wp2_with (first
          | (refine wpList_index_arr rfl 24 (.tmp 7) (.tmp 8) rfl 16 3 .i64 Try.underlying24 Try.underlying3 info_int1 (ints .i64 cs) rfl .i64 k rfl (.int .i64 x) hlt (ints_at Hx.out) ?_)
          | fail)
        go_ret
        exact ⟨ret_bool (goodB_no (good_stop (n := n) Hx.out (.inl h0))).symm, hbel⟩
      · by_cases h1 : 256 - z < x
        · go_wp2_with (first
            | (refine wpList_index_arr rfl 24 (.tmp 7) (.tmp 8) rfl 16 3 .i64 Try.underlying24 Try.underlying3 info_int1 (ints .i64 cs) rfl .i64 k rfl (.int .i64 x) hlt (ints_at Hx.out) ?_)
            | fail)
          go_ret
          exact ⟨ret_bool (goodB_no (good_stop (n := n) Hx.out (.inr (by rw [← Hz.out]; exact h1)))).symm, hbel⟩
        · have hw : IntKind.i64.wrap (z + x) = z + x := by rw [IntKind.wrap_i64]; omega
          go_wp2_with (first
            | (refine wpList_index_arr rfl 24 (.tmp 7) (.tmp 8) rfl 16 3 .i64 Try.underlying24 Try.underlying3 info_int1 (ints .i64 cs) rfl .i64 k rfl (.int .i64 x) hlt (ints_at Hx.out) ?_)
            | fail)
          go_roundg (16 - (k + 1))
          case rel => exact ⟨k + 1, rfl, by omega, by go_num, ⟨z + x, by go_num, veil (by rw [sumW_take Hx.out, ← Hz.out]), by omega, by omega⟩, veil (mem_snoc Hx.out Hp.out (by omega)), h17, hbel⟩
          case measure => omega
    · obtain rfl : k = 16 := by omega
      go_wp2
      go_ret
      refine ⟨ret_bool ?_, hbel⟩
      rw [Bool.eq_iff_iff, goodB_iff]
      have e : cs.take 16 = cs := by rw [List.take_of_length_le]; rw [Hcs.out]; omega
      have h3 := Hp.out
      have h4 := Hz.out
      rw [e] at h3 h4
      simp only [beq_iff_eq]
      constructor
      · intro h5; exact ⟨h3, by omega, by omega⟩
      · intro h5; have := h5.2.2; omega
end Go.Proofs.Ytmdjhbkpekepgaa

/- table.assign: its contract. -/
namespace Go.Proofs.Ytmdjhbkpekepgaa
open Go.RowKit
set_option linter.unusedVariables false
set_option linter.unusedSimpArgs false
set_option maxRecDepth 100000

theorem elem_word : ElemOf Try.prog 69 80 3 24 := .mk' (z := .agg #[.int .i64 0, .int .i64 0, .int .i64 0]) Try.underlying69 (by kernel_rfl) rfl (by omega)
theorem info_word : (Try.prog.info? 80).map (fun i => (i.zero, i.size, i.bytes)) = some (some (.agg #[.int .i64 0, .int .i64 0, .int .i64 0]), 3, 24) := by kernel_rfl
theorem run_make_words (n : Nat) (h : n ≤ 1099511627776) (u : World) : ∃ cur, (Instr.makeSlice 69 (.int .i64 0) (.int .i64 (n : Int))).run Try.prog u =
    .ok (.slice (some ⟨u.heap.size, 0, none⟩) 0 n) (u.alloc (.cells cur 80)) ∧ cur.size = n * 3 := by
  obtain ⟨i0, hi, hz0, hz1, hz2⟩ := info_parts info_word
  have h := run_make (P := Try.prog) u 69 80 i0 (.agg #[.int .i64 0, .int .i64 0, .int .i64 0]) Try.underlying69 hi hz0 .i64 .i64 0 n (by omega) (by omega) (by rw [hz2]; omega) (by omega)
  exact ⟨_, h, by simp [madeCells, hz1, Value.cells]⟩
abbrev wordRow (v : Value) (l : List (Int × Nat × Nat)) : Row := ⟨80, 3, v, l.length, tripleCells l⟩
/-- In a walk: append of one word just laid onto the first of the rows. -/
theorem wpList_ownT {ops : Array Oper} {rest : List Oper} {o : Oper} {a : Act} {Q : Exit → Act → World → Prop} (w0 : World) (hgd : Region.wanted o (yielded ops a.tmps) = true) (s x : Operand)
    (ho : o.op = .call { callee := .builtin .append, args := #[s, x], argTypes := #[69, 69] })
    (B : Nat) (v : Value) (l : List (Int × Nat × Nat)) (rs : List Row) (hs : a.eval s = v) (HO : Owns B (wordRow v l :: rs) w0) (f0 f1 f2 : Int) (n c : Nat) (hn : f1 = n) (hc : f2 = c) (hx : a.eval x = .slice (some ⟨w0.heap.size, 0, none⟩) 1 1)
    (h63 : l.length + 1 ≤ 1048576)
    (h : ∀ v' w', Owns B (wordRow v' (l ++ [(f0, n, c)]) :: rs) w' → Below B w0 w' → w0.heap.size < w'.heap.size → wpList Try.prog ops Q rest (a.put o.dst v') w') : wpList Try.prog ops Q (o :: rest) a (w0.alloc (.cells #[.int .i64 f0, .int .i64 f1, .int .i64 f2] 80)) := by
  subst hn hc
  have e : (⟨80, 3, v, l.length + 1, tripleCells l ++ tripleCells [(f0, n, c)]⟩ : Row) = wordRow v (l ++ [(f0, n, c)]) := by simp [wordRow, tripleCells]
  refine wpList_ownV _ hgd s x _ ho B 80 3 24 elem_word v l.length (tripleCells l) rs hs (HO.alloc _) (w0.heap.size + 1) _ 1 1 (tripleCells [(f0, n, c)]) hx (Seen.new w0 (tripleCells [(f0, n, c)]) _ _ (Nat.lt_succ_self _)) (by rw [tripleCells_length]; rfl) tripleCells_one (by unfold maxLen; omega) (by omega) ?_
  intro v' w' h2 h3
  have := h3.size
  refine h v' w' ?_ (((Below.refl _ _).alloc HO.base _).trans h3) (by simp at this; omega)
  have e : (⟨80, 3, v', l.length + 1, tripleCells l ++ tripleCells [(f0, n, c)]⟩ : Row) = wordRow v' (l ++ [(f0, n, c)]) := by simp [wordRow, tripleCells]
  rw [← e]
  exact h2

/-- Words out of symbols and codes. -/
def mkWords (syms : List Int) (l : List (Nat × Nat)) : List (Int × Nat × Nat) := List.zipWith (fun s p => (s, p.1, p.2)) syms l
theorem mkWords_length (syms : List Int) (l : List (Nat × Nat)) (h : l.length ≤ syms.length) : (mkWords syms l).length = l.length := by simp [mkWords]; omega
theorem mkWords_nil (syms : List Int) : mkWords syms [] = [] := by simp [mkWords]
theorem mkWords_snoc {syms : List Int} {l : List (Nat × Nat)} {s : Int} (h : syms[l.length]? = some s) (p : Nat × Nat) : mkWords syms (l ++ [p]) = mkWords syms l ++ [(s, p.1, p.2)] := by
  have hl := (List.getElem?_eq_some_iff.1 h).1
  have e : syms = syms.take l.length ++ s :: syms.drop (l.length + 1) := by
    rw [← List.singleton_append, ← List.append_assoc, ← take_snoc h, List.take_append_drop]
  have h1 : ∀ m : List (Nat × Nat), m.length = l.length → mkWords syms m = mkWords (syms.take l.length) m := by
    intro m hm
    unfold mkWords
    apply List.ext_getElem?
    intro i
    simp only [List.getElem?_zipWith, List.getElem?_take]
    by_cases hi : i < l.length
    · rw [if_pos hi]
    · rw [if_neg hi, List.getElem?_eq_none (by omega : m.length ≤ i)]
      cases syms[i]? <;> rfl
  rw [h1 l rfl]
  conv => lhs; rw [e]
  unfold mkWords
  rw [List.zipWith_append (by simp; omega)]
  simp

/-- The words of a table: none where the lengths may not be. -/
def tabWords (ns : List Nat) (syms : List Int) : List (Int × Nat × Nat) := mkWords syms ((codes ns).getD [])
def natI (ns : List Nat) : List Int := ns.map Int.ofNat
theorem natI_length (ns : List Nat) : (natI ns).length = ns.length := by simp [natI]
theorem natI_at {ns : List Nat} {k n : Nat} (h : ns[k]? = some n) : (natI ns)[k]? = some (n : Int) := by simp [natI, h]
theorem ones_eq (k : Nat) (h : k < 16) : wrap64 (wrap64 (2 ^ (k + 1)) - 1) = ((2 ^ (k + 1) - 1 : Nat) : Int) := by
  have h1 : 2 ^ (k + 1) ≤ 2 ^ 16 := Nat.pow_le_pow_right (by omega) (by omega)
  have h2 : 0 < 2 ^ (k + 1) := Nat.pow_pos (by omega)
  have h3 : ((2 : Int) ^ (k + 1)) = ((2 ^ (k + 1) : Nat) : Int) := by simp
  rw [h3]
  unfold wrap64
  omega

set_option maxHeartbeats 2000000 in
set_option maxRecDepth 100000 in
theorem assign_any (ns : List Nat) (syms : List Int) (A : Option Addr) (c G : Nat) (w : World) (hns : ns.length = 16) (hsum : ns.sum = syms.length) (h256 : syms.length ≤ 256) (hs : Seen w G A (ints .i64 syms)) (hG : G ≤ w.heap.size) :
    Calls Try.prog 37 #[tabV (natI ns) A syms.length c] w fun e w' => ∃ v, e = .returned (.tuple #[v, .bool (codes ns).isSome]) ∧ Owns w.heap.size [wordRow v (tabWords ns syms)] w' ∧ Below w.heap.size w w' := by
  have hcs : (natI ns).length = 16 := by rw [natI_length]; exact hns
  have h16 : (tabCells (natI ns) A syms.length c)[16]? = some (.slice A syms.length c) := tabCells_last hcs
  have hr : Hid (∀ xs, xs = tabCells (natI ns) A syms.length c → (w.alloc (.cells xs.toArray 27)).rangeAt w.heap.size 0 (ints .i64 (natI ns))) := by
    show ∀ xs, _
    intro xs e
    subst e
    exact range_left (range_new w _ _)
  have Hcs := veil hcs; have Hns := veil hns; have Hsum := veil hsum
  clear hcs hns hsum
  obtain ⟨xs, hxs⟩ : ∃ xs, xs = tabCells (natI ns) A syms.length c := ⟨_, rfl⟩
  have Hr := veil (hr.out xs hxs)
  unfold tabV
  rw [← hxs] at h16 ⊢
  clear hr hxs
  obtain ⟨cur, hmk, hcur⟩ := run_make_words syms.length (by omega) (w.alloc (.cells xs.toArray 27))
  have Hcur := veil hcur; clear hcur
  have Hr2 := veil (World.rangeAt_alloc Hr.out (.cells cur 80))
  go_enter Try.func37, Try.ntmps37
  go_wp2_with (first
    | (refine wpList_load_mid rfl 24 (.tmp 14) rfl w.heap.size 0 rfl (ints .i64 (natI ns)) _ Hr2.out Try.underlying24 rfl (by rw [ints_length, Hcs.out]; exact info_arr) ?_)
    | fail)
  go_loopg [4, 5, 6, 7, 8, 9, 16] 16 (fun gk v cv kv nv lv ov i wr => ∃ (k cd : Nat) (acc : List (Nat × Nat)), gk = 16 - k ∧ k ≤ 16 ∧ i = .int .i64 k ∧ cv = .int .i64 cd ∧ Hid (CInv ns k cd acc) ∧ wr.cell? ⟨w.heap.size, 16, none⟩ = some (.slice A syms.length c) ∧
    Owns (w.heap.size + 1) [wordRow v (mkWords syms acc)] wr ∧ Below w.heap.size w wr)
  case atStart =>
    refine ⟨0, 0, [], rfl, by omega, rfl, rfl, veil (CInv.start ns), ?_, ?_, below2 _ _ _⟩
    · rw [World.cell?_alloc_lt _ _ _ (by simp), World.cell?_alloc_at _ _ _ _ rfl]; simpa using h16
    · rw [mkWords_nil]
      have := ((Owns.start (w.alloc (.cells xs.toArray 27))).made 80 3 cur syms.length (by unfold maxLen; omega) Hcur.out)
      simpa [wordRow, tripleCells] using this
  case round =>
    obtain ⟨k, cd, acc, rfl, hk, rfl, rfl, HI, h17, HO, hbel⟩ := hrel
    by_cases hlt : k < 16
    · obtain ⟨n, hn⟩ := some_at (xs := ns) (j := k) (by rw [Hns.out]; omega)
      have hcd := HI.out.2.1
      have hp16 : 2 ^ (k + 1) ≤ 2 ^ 16 := Nat.pow_le_pow_right (by omega) (by omega)
      have hn256 : (ns.take k).sum + n ≤ 256 := by
        have h1 := take_sum hn
        have h2 : (ns.take (k + 1)).sum + (ns.drop (k + 1)).sum = ns.sum := by rw [← List.sum_append, List.take_append_drop]
        have := Hsum.out
        omega
      have hacc : acc.length + n ≤ syms.length := by
        have h1 := take_sum hn
        have h2 : (ns.take (k + 1)).sum + (ns.drop (k + 1)).sum = ns.sum := by rw [← List.sum_append, List.take_append_drop]
        have := Hsum.out
        have := HI.out.2.2
        omega
      have Hn := veil hn; have Hcd := veil hcd; have Hp16 := veil hp16
      have hcd2 : cd < 65536 := by omega
      have hn2 : n ≤ 256 := by omega
      clear hn hcd hp16 hn256
      have hones := ones_eq k hlt
      go_wp2_with (first
        | (refine wpList_index_arr rfl 24 (.tmp 15) (.tmp 16) rfl 16 3 .i64 Try.underlying24 Try.underlying3 info_int1 (ints .i64 (natI ns)) rfl .i64 k rfl (.int .i64 (n : Int)) hlt (ints_at (natI_at Hn.out)) ?_)
        | fail)
      rw [hones]
      clear hones
      obtain ⟨N, hN⟩ : ∃ N, N = 2 ^ (k + 1) - 1 := ⟨_, rfl⟩
      rw [← hN]
      have HN := veil hN
      have hN2 : N < 65536 := by have := Hp16.out; omega
      clear hN
      have hz := hbel.size
      go_loopg [4, 5, 26] n (fun gk v cv i wr2 => ∃ j : Nat, gk = n - j ∧ j ≤ n ∧ i = .int .i64 j ∧ cv = .int .i64 ((cd + j : Nat) : Int) ∧ Hid (cd + j ≤ N) ∧ wr2.cell? ⟨w.heap.size, 16, none⟩ = some (.slice A syms.length c) ∧
        Owns (w.heap.size + 1) [wordRow v (mkWords syms (acc ++ wordsTo k cd j))] wr2 ∧ Below w.heap.size w wr2)
      case atStart => exact ⟨0, rfl, Nat.zero_le _, rfl, rfl, veil (by have := Hcd.out; have := HN.out; omega), h17, by simpa [wordsTo] using HO, hbel⟩
      case round =>
        obtain ⟨j, rfl, hj, rfl, rfl, HJ, h18, HO2, hbel2⟩ := hrel
        have hz2 := hbel2.size
        by_cases hjn : j < n
        · by_cases hf : N ≤ cd + j
          · have hd := HI.out.fail Hn.out hjn (by rw [← HN.out]; exact hf)
            have Hd := veil hd; clear hd
            have hf' : (N : Int) ≤ (cd : Int) + j := by omega
            go_wp2
            go_ret2
            exact ⟨_, ret_two rfl (by rw [Hd.out]; rfl), by unfold tabWords; rw [Hd.out]; simp only [Option.getD_none, mkWords_nil]; exact (Owns.nil hbel2.size).fresh _ _, hbel2⟩
          · have hf' : ¬ (N : Int) ≤ (cd : Int) + j := by omega
            have hlen : (acc ++ wordsTo k cd j).length = acc.length + j := by rw [List.length_append, wordsTo_length]
            obtain ⟨g, o, x, rfl, hg, hx, h1⟩ := hs.int (k := acc.length + j) (by omega)
            have hml : (mkWords syms (acc ++ wordsTo k cd j)).length = acc.length + j := by rw [mkWords_length _ _ (by omega), hlen]
            have hsn := mkWords_snoc (l := acc ++ wordsTo k cd j) (s := x) (by rw [hlen]; exact hx) (k + 1, cd + j)
            rw [List.append_assoc, ← wordsTo_snoc] at hsn
            have Hsn := veil hsn
            rw [← hbel2.cell (by simp; omega)] at h1
            obtain ⟨A4, c4, e4, _, _, _⟩ := HO2.seen (List.mem_cons_self ..)
            simp only [wordRow] at e4
            rw [hml] at e4
            subst e4
            have Hml := veil hml
            clear hsn hlen hx hml
            generalize mkWords syms (acc ++ wordsTo k cd j) = ws at *
            go_wp2_with (first
              | (at_builtin; go_loud (refine wpList_ownT _ rfl (.tmp 31) (.tmp 41) rfl (w.heap.size + 1) (.slice A4 (acc.length + j) c4) ws [] rfl HO2 x _ _ (k + 1) (cd + j) (by omega) (by omega) rfl (by have := Hml.out; omega) ?_); intro v1 w1 HO3 hb3 hz3))
            have h18' := h18
            rw [← hb3.cell (by simp)] at h18'
            go_roundg (n - (j + 1))
            case rel => exact ⟨j + 1, rfl, by omega, by go_num, by go_num, veil (by omega), h18', by rw [Hsn.out]; exact HO3, hbel2.trans (hb3.mono (by omega))⟩
            case measure => omega
        · obtain rfl : j = n := by omega
          have hw : IntKind.i64.wrap (2 * ((cd : Int) + j)) = 2 * ((cd : Int) + j) := by rw [IntKind.wrap_i64]; omega
          go_wp2
          go_roundg (16 - (k + 1))
          case rel => exact ⟨k + 1, 2 * (cd + j), acc ++ wordsTo k cd j, rfl, by omega, by go_num, by go_num, veil (HI.out.next Hn.out (by rw [← HN.out]; exact HJ.out)), h18, HO2, hbel2⟩
          case measure => omega
    · obtain rfl : k = 16 := by omega
      have hd : codes ns = some acc := by have h := HI.out; rw [← Hns.out] at h; exact h.done
      have Hd := veil hd; clear hd
      go_wp2
      go_ret2
      exact ⟨_, ret_two rfl (by rw [Hd.out]; rfl), by unfold tabWords; rw [Hd.out]; exact HO.down (by omega), hbel⟩
end Go.Proofs.Ytmdjhbkpekepgaa

/- A map from numbers to fields, and one from fields to numbers, as functions: made, written, asked. -/
namespace Go.Proofs.Ytmdjhbkpekepgaa
open Go.RowKit
open Go.Maps (Keyed)
set_option linter.unusedVariables false
set_option linter.unusedSimpArgs false
set_option maxRecDepth 100000

/-- What a field reads as. -/
def fd (p : Int × Int) : DataW Unit := .agg [.lit (.int .i64 p.1), .lit (.int .i64 p.2)]
abbrev fv (p : Int × Int) : Value := .agg #[.int .i64 p.1, .int .i64 p.2]
def fieldElem : Value → Option (DataW Unit × List MemPlace)
  | .agg cs => match cs.toList with
    | [.int .i64 a, .int .i64 b] => some (fd (a, b), [])
    | _ => none
  | _ => none
theorem fieldElem_mk (p : Int × Int) : fieldElem (fv p) = some (fd p, []) := rfl
abbrev WF (x : Int) : Prop := (Lit.int .i64 x).wf = true
theorem wf_of {x : Int} (h : -9223372036854775808 ≤ x ∧ x ≤ 9223372036854775807) : WF x := WalkArith.wf_i64 h

theorem keyInt : Keyed Try.prog 3 := Go.Maps.int_keyed Try.underlying3
/-- Block b is a map of at most n entries, s of them, that holds what f says. -/
def MapF (w : World) (b n : Nat) (f : Int → Option (Int × Int)) (s : Nat) : Prop :=
  ∃ D : DataW Unit, w.ownsMap Try.prog 3 fieldElem b n D ∧ Maps.size D = s ∧ ∀ x, WF x → Maps.has D (.int .i64 x) = (f x).isSome ∧ D.atKey (.int .i64 x) (fd (0, 0)) = fd ((f x).getD (0, 0))
def upd {α β : Type} [DecidableEq α] (f : α → Option β) (x : α) (p : β) : α → Option β := fun y => if y = x then some p else f y
section
variable {w w' : World} {b n s : Nat} {f : Int → Option (Int × Int)}
theorem MapF.made (w : World) : MapF (w.alloc (.map #[] 0)) w.heap.size 0 (fun _ => none) 0 :=
  ⟨.map [], World.ownsMap_made _ _ _ _, rfl, fun x hx => ⟨rfl, rfl⟩⟩
theorem MapF.lt (h : MapF w b n f s) : b < w.heap.size := by obtain ⟨D, h1, _⟩ := h; exact h1.lt
theorem MapF.below (h : MapF w b n f s) {C : Nat} (hb : Below C w w') (hC : b < C) : MapF w' b n f s := by
  have hlt := h.lt
  obtain ⟨D, ⟨es, clock, h1, h2⟩, h3⟩ := h
  exact ⟨D, ⟨es, clock, by rw [hb.block b hC]; exact h1, h2⟩, h3⟩
theorem MapF.store (h : MapF w b n f s) (hn : n < maxLen) {x : Int} (hx : WF x) (p : Int × Int) :
    ∃ w', (Instr.mapUpdate 72 (.map (some b)) (.int .i64 x) (fv p)).run Try.prog w = .ok () w' ∧ MapF w' b (n + 1) (upd f x p) (if (f x).isSome then s else s + 1) ∧ w.grownBy w' (some b) := by
  obtain ⟨D, h1, h2, h3⟩ := h
  have hT := h1.tidy keyInt
  obtain ⟨w', r1, r2, r3⟩ := h1.update keyInt Try.underlying72 hn (Maps.keyOf_int_mk Try.underlying3 hx) (fieldElem_mk p)
  refine ⟨w', r1, ⟨_, r2, ?_, fun y hy => ?_⟩, r3⟩
  · rw [Maps.size_put hT, (h3 x hx).1, h2]
  · by_cases e : y = x
    · subst e
      rw [Maps.has_put_same hT.isMap (by trivial), Maps.atKey_put_same hT.isMap (by trivial)]
      simp [upd]
    · have hne : Lit.int IntKind.i64 y ≠ Lit.int IntKind.i64 x := by simpa using e
      rw [Maps.has_put_other hne, Maps.atKey_put_other hne]
      simp only [upd, if_neg e]
      exact h3 y hy
theorem MapF.len (h : MapF w b n f s) (ty : TypeId) : (Builtin.len_ #[72] ty #[.map (some b)]).run Try.prog w = .ok (.int .i64 (s : Int)) w := by
  obtain ⟨D, h1, h2, h3⟩ := h
  rw [h1.len Try.underlying72 ty, h2]
end

end Go.Proofs.Ytmdjhbkpekepgaa
