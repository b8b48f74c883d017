/- Texts shared by the claims of this seat, in one. -/
import Derived.Below
import Derived.WalkKit
import Derived.Laws.OwnMore
import Derived.Deep.Draws
import Derived.Deep.QuietTactic
import Derived.BigQuiet
import Derived.Laws.AppendOwn
import Derived.OwnWalk
import Derived.Deep.LoopGhost
import Derived.Deep.RegionHeld3
import Derived.Maps.AppendAt
import Derived.Deep.AppendLies
import Derived.Deep.MidRow
import Derived.Deep.WholeRow
import Derived.Test.YtgajlplmpbaanaaRows
import Derived.Laws.ResultCell
import Derived.ChangeKeysEq
import Derived.OpenShut
import Derived.Great.BuildSlice
import Derived.Laws.MakeOwn
import Derived.Deep.Cut
import Derived.Deep.DeepCutAuto
/- Words for memory that all walks share: a slice that reads as a list of cells, kept over what a call may do. No program is named here. -/
namespace Go.RowKit
theorem Below.drewN {B : Nat} {a w : World} (h : Below B a w) (n : Nat) : Below B a (w.drewN n) := ⟨h.os, h.tape, h.output, h.size, h.block⟩
end Go.RowKit
namespace Go.Proofs.Ytgajlplmpbaanaa
open Go.RowKit
set_option linter.unusedVariables false
set_option linter.unusedSimpArgs false
set_option maxRecDepth 100000

/-- A fact put out of the walk's sight. -/
theorem veil {p : Prop} (h : p) : Hid p := h

/-- The cells from address A on are xs, and they lie below block B. -/
def Seen (w : World) (B : Nat) (A : Option Addr) (xs : List Value) : Prop :=
  xs = [] ∨ ∃ g o, A = some ⟨g, o, none⟩ ∧ g < B ∧ ∀ j u, xs[j]? = some u → w.cell? ⟨g, o + j, none⟩ = some u

theorem Seen.nil (w : World) (B : Nat) (A : Option Addr) : Seen w B A [] := .inl rfl

theorem Seen.of (w w' : World) {B : Nat} {A : Option Addr} {xs : List Value} (h : Seen w B A xs) (hk : ∀ p : Addr, p.block < B → w'.cell? p = w.cell? p) : Seen w' B A xs := by
  rcases h with h | ⟨g, o, e, hg, hc⟩
  · exact .inl h
  · exact .inr ⟨g, o, e, hg, fun j u hu => (hk _ hg).trans (hc j u hu)⟩

theorem Seen.below {w w' : World} {B C : Nat} {A : Option Addr} {xs : List Value} (h : Seen w B A xs) (hb : Below C w w') (hBC : B ≤ C) : Seen w' B A xs :=
  h.of w w' fun _ hp => hb.cell (Nat.lt_of_lt_of_le hp hBC)

theorem Seen.up {w : World} {B B' : Nat} {A : Option Addr} {xs : List Value} (h : Seen w B A xs) (hB : B ≤ B') : Seen w B' A xs := by
  rcases h with h | ⟨g, o, e, hg, hc⟩
  · exact .inl h
  · exact .inr ⟨g, o, e, Nat.lt_of_lt_of_le hg hB, hc⟩

theorem Seen.at {w : World} {B : Nat} {A : Option Addr} {xs : List Value} (h : Seen w B A xs) (hne : 0 < xs.length) :
    ∃ g o, A = some ⟨g, o, none⟩ ∧ g < B ∧ ∀ j u, xs[j]? = some u → w.cell? ⟨g, o + j, none⟩ = some u := by
  rcases h with h | h
  · subst h; simp at hne
  · exact h

/-- Integers in a row. -/
def ints (k : IntKind) (xs : List Int) : List Value := xs.map (Value.int k)
theorem ints_length (k : IntKind) (xs : List Int) : (ints k xs).length = xs.length := by simp [ints]
theorem ints_at {k : IntKind} {xs : List Int} {j : Nat} {x : Int} (h : xs[j]? = some x) : (ints k xs)[j]? = some (.int k x) := by
  simp [ints, h]
theorem some_at {α : Type} {xs : List α} {j : Nat} (h : j < xs.length) : ∃ x, xs[j]? = some x := ⟨xs[j], List.getElem?_eq_getElem h⟩
theorem take_snoc {α : Type} {xs : List α} {k : Nat} {x : α} (h : xs[k]? = some x) : xs.take (k + 1) = xs.take k ++ [x] := by
  rw [List.take_add_one, h]; rfl
/-- One number of a row that came in, with its cell. -/
theorem Seen.int {w : World} {B : Nat} {A : Option Addr} {kd : IntKind} {xs : List Int} (h : Seen w B A (ints kd xs)) {k : Nat} (hk : k < xs.length) :
    ∃ g o x, A = some ⟨g, o, none⟩ ∧ g < B ∧ xs[k]? = some x ∧ w.cell? ⟨g, o + k, none⟩ = some (.int kd x) := by
  obtain ⟨g, o, e, hg, hc⟩ := h.at (by rw [ints_length]; omega)
  obtain ⟨x, hx⟩ := some_at hk
  exact ⟨g, o, x, e, hg, hx, hc k _ (ints_at hx)⟩
/-- A block that was just laid. -/
theorem Seen.new (w : World) (xs : List Value) (t : TypeId) (B : Nat) (hB : w.heap.size < B) : Seen (w.alloc (.cells xs.toArray t)) B (some ⟨w.heap.size, 0, none⟩) xs := by
  refine .inr ⟨_, _, rfl, hB, fun j u hu => ?_⟩
  rw [World.cell?_alloc_at _ _ _ _ rfl]
  simpa using hu
theorem Seen.alloc {w : World} {B : Nat} {A : Option Addr} {xs : List Value} (h : Seen w B A xs) (hB : B ≤ w.heap.size) (o : Obj) : Seen (w.alloc o) B A xs :=
  h.of w _ fun p hp => World.cell?_alloc_lt w o p (Nat.lt_of_lt_of_le hp hB)
theorem below1 (w : World) (a : Obj) : Below w.heap.size w (w.alloc a) := (Below.refl _ _).alloc (Nat.le_refl _) a
theorem below2 (w : World) (a b : Obj) : Below w.heap.size w ((w.alloc a).alloc b) := (below1 w a).alloc (by simp) b
theorem addr_add (g o j : Nat) : (⟨g, o, none⟩ : Addr).add j = ⟨g, o + j, none⟩ := by
  unfold Addr.add; split
  · rename_i e; subst e; rfl
  · rfl
theorem ints_one {k : IntKind} {l : List Int} : ∀ u ∈ ints k l, u.oneCell' = true := by
  intro u hu
  simp only [ints, List.mem_map] at hu
  obtain ⟨f, _, rfl⟩ := hu
  rfl
/-- What an append is about: the element's type and sizes. -/
structure ElemOf (P : Program) (t e : TypeId) (size bytes : Nat) : Prop where
  ht : P.underlying t = some (.slice e)
  pos : 0 < size
  hi : ∃ i z, P.info? e = some i ∧ i.zero = some z ∧ i.size = size ∧ i.bytes = bytes ∧ z.cells.size = size
theorem ElemOf.mk' {P : Program} {t e : TypeId} {size bytes : Nat} {z : Value} (ht : P.underlying t = some (.slice e)) (hinfo : (P.info? e).map (fun i => (i.zero, i.size, i.bytes)) = some (some z, size, bytes)) (hz : z.cells.size = size) (hp : 0 < size) : ElemOf P t e size bytes := by
  obtain ⟨i, hi, h0, h1, h2⟩ := info_parts hinfo
  exact ⟨ht, hp, i, z, hi, h0, h1, h2, hz⟩
/-- What the call owns stays its own over what leaves all blocks so far alone. -/
theorem own_below {w w' : World} {B : Nat} {e : TypeId} {size : Nat} {v : Value} {n : Nat} {xs : List Value} (h : w.ownsRow B e size v n xs) (hb : Below w.heap.size w w') : w'.ownsRow B e size v n xs := by
  obtain ⟨h1, h2⟩ := h
  refine ⟨h1, ?_⟩
  rcases h2 with h2 | ⟨g, cap, cur, hv, hg, hh, r⟩
  · exact .inl h2
  · have hlt : g < w.heap.size := by
      rcases Nat.lt_or_ge g w.heap.size with hl | hl
      · exact hl
      · rw [Array.getElem?_eq_none hl] at hh; cases hh
    exact .inr ⟨g, cap, cur, hv, hg, by rw [hb.block g hlt]; exact hh, r⟩
theorem own_base {w : World} {B B' : Nat} {e : TypeId} {size : Nat} {v : Value} {n : Nat} {xs : List Value} (h : w.ownsRow B e size v n xs) (hB : B' ≤ B) : w.ownsRow B' e size v n xs := by
  obtain ⟨h1, h2⟩ := h
  refine ⟨h1, ?_⟩
  rcases h2 with h2 | ⟨g, cap, cur, hv, hg, r⟩
  · exact .inl h2
  · exact .inr ⟨g, cap, cur, hv, Nat.le_trans hB hg, r⟩
theorem own_form' {w : World} {B : Nat} {e : TypeId} {size : Nat} {v : Value} {n : Nat} {xs : List Value} (h : w.ownsRow B e size v n xs) : ∃ A c, v = .slice A n c ∧ Seen w w.heap.size A xs ∧ n ≤ c ∧ c ≤ maxLen := by
  obtain ⟨h1, h2⟩ := h
  rcases h2 with ⟨rfl, rfl⟩ | ⟨g, cap, cur, rfl, hg, hh, hn, hc, hs, ht⟩
  · exact ⟨none, 0, rfl, .inl (by simpa using h1), Nat.le_refl _, Nat.zero_le _⟩
  · refine ⟨_, _, rfl, .inr ⟨g, 0, rfl, ?_, fun j u hu => ?_⟩, hn, hc⟩
    · rcases Nat.lt_or_ge g w.heap.size with hl | hl
      · exact hl
      · rw [Array.getElem?_eq_none hl] at hh; cases hh
    · have hj : j < n * size := by have := (List.getElem?_eq_some_iff.1 hu).1; omega
      rw [← ht, List.getElem?_take, if_pos hj] at hu
      simp [World.cell?, hh]
      simpa using hu
theorem ret_two {a a' b b' : Value} (h : a = a') (k : b = b') : Ending.returned (.tuple #[a, b]) = .returned (.tuple #[a', b']) := by rw [h, k]
theorem ret_bool {a b : Bool} (h : a = b) : Ending.returned (.bool a) = .returned (.bool b) := by rw [h]
end Go.Proofs.Ytgajlplmpbaanaa

/- A number of 64 bits. -/
namespace Go.Proofs.Ytgajlplmpbaanaa
def In64 (n : Int) : Prop := -9223372036854775808 ≤ n ∧ n ≤ 9223372036854775807
end Go.Proofs.Ytgajlplmpbaanaa

/- Rows of the call's own, any number of them, that lie apart: what an append, a new block and a call do to them. No program is named here. -/
namespace Go.Proofs.Ytgajlplmpbaanaa
open Go.RowKit
set_option linter.unusedVariables false
set_option linter.unusedSimpArgs false
set_option maxRecDepth 100000

structure Row where
  e : TypeId
  size : Nat
  v : Value
  n : Nat
  xs : List Value
def Row.apart (r s : Row) : Prop := ∀ g, r.v.ownBlock = some g → s.v.ownBlock ≠ some g
theorem Row.apart.symm {r s : Row} (h : r.apart s) : s.apart r := fun g hg hr => h g hr hg

/-- The rows lie in memory from block B on, no two in one block. -/
structure Owns (B : Nat) (rs : List Row) (w : World) : Prop where
  base : B ≤ w.heap.size
  each : ∀ r ∈ rs, w.ownsRow B r.e r.size r.v r.n r.xs
  apart : rs.Pairwise Row.apart

section
variable {B : Nat} {rs ts : List Row} {r s : Row} {w w' : World}
theorem Owns.nil {B : Nat} {w : World} (h : B ≤ w.heap.size) : Owns B [] w := ⟨h, by simp, .nil⟩
theorem Owns.head (h : Owns B (r :: rs) w) : w.ownsRow B r.e r.size r.v r.n r.xs := h.each r (by simp)
theorem Owns.tail (h : Owns B (r :: rs) w) : Owns B rs w := ⟨h.base, fun x hx => h.each x (by simp [hx]), (List.pairwise_cons.1 h.apart).2⟩
theorem Owns.fresh (h : Owns B rs w) (e : TypeId) (size : Nat) : Owns B (⟨e, size, .slice none 0 0, 0, []⟩ :: rs) w :=
  ⟨h.base, fun x hx => by
    rcases List.mem_cons.1 hx with rfl | hx
    · exact World.ownsRow_nil _ _ _ _
    · exact h.each x hx, List.pairwise_cons.2 ⟨fun s _ g hg => (by cases hg), h.apart⟩⟩
theorem Owns.below (h : Owns B rs w) (hb : Below w.heap.size w w') : Owns B rs w' := ⟨Nat.le_trans h.base hb.size, fun x hx => own_below (h.each x hx) hb, h.apart⟩
theorem Owns.alloc (h : Owns B rs w) (o : Obj) : Owns B rs (w.alloc o) := ⟨by have := h.base; simp; omega, fun x hx => (h.each x hx).alloc o, h.apart⟩
theorem Owns.drewN (h : Owns B rs w) (n : Nat) : Owns B rs (w.drewN n) := h.below ((Below.refl _ _).drewN n)
/-- What a call hands back lies apart from what was there. -/
theorem Owns.call (h : Owns B rs w) (hb : Below w.heap.size w w') (h2 : Owns w.heap.size ts w') : Owns B (ts ++ rs) w' := by
  have hB := h.base
  refine ⟨Nat.le_trans hB hb.size, fun x hx => ?_, List.pairwise_append.2 ⟨h2.apart, h.apart, fun a ha b hb' g hg hgb => ?_⟩⟩
  · rcases List.mem_append.1 hx with hx | hx
    · exact own_base (h2.each x hx) hB
    · exact own_below (h.each x hx) hb
  · have h3 := ((h2.each a ha).lt g hg).1
    have h4 := ((h.each b hb').lt g hgb).2
    omega
theorem Owns.one (hB : B ≤ w.heap.size) (h : w.ownsRow B r.e r.size r.v r.n r.xs) : Owns B [r] w := ⟨hB, fun x hx => by simp at hx; subst hx; exact h, List.pairwise_singleton _ _⟩
theorem Owns.made (h : Owns B rs w) (e : TypeId) (size : Nat) (cur : Array Value) (cap : Nat) (hm : cap ≤ maxLen) (hs : cur.size = cap * size) :
    Owns B (⟨e, size, .slice (some ⟨w.heap.size, 0, none⟩) 0 cap, 0, []⟩ :: rs) (w.alloc (.cells cur e)) :=
  h.call (below1 _ _) (ts := [⟨e, size, .slice (some ⟨w.heap.size, 0, none⟩) 0 cap, 0, []⟩]) (.one (by simp) (World.ownsRow_made _ _ _ (Nat.le_refl _) hm hs))
theorem Owns.seen (h : Owns B rs w) (hr : r ∈ rs) : ∃ A c, r.v = .slice A r.n c ∧ Seen w w.heap.size A r.xs ∧ r.n ≤ c ∧ c ≤ maxLen := own_form' (h.each r hr)
end

/-- append of what is seen onto the first of the rows. -/
theorem run_ownV {P : Program} (w : World) (B : Nat) (t ty e : TypeId) (size bytes : Nat) (he : ElemOf P t e size bytes)
    (v : Value) (n : Nat) (xs : List Value) (rs : List Row) (HO : Owns B (⟨e, size, v, n, xs⟩ :: rs) w) (G : Nat) (A : Option Addr) (m c : Nat) (news : List Value) (hsee : Seen w G A news) (hl : news.length = m * size) (h1 : ∀ u ∈ news, u.oneCell' = true)
    (h63 : n + m ≤ maxLen) (hbytes : (n + m) * bytes ≤ 140737488355328) :
    ∃ v' w', (Builtin.append_ #[t, t] ty #[v, .slice A m c]).run P w = .ok v' w' ∧ Owns B (⟨e, size, v', n + m, xs ++ news⟩ :: rs) w' ∧ w.grownBy w' v.ownBlock ∧ Below B w w' := by
  have hown := HO.head
  have hB := HO.base
  have hap := (List.pairwise_cons.1 HO.apart).1
  obtain ⟨ht, hp, i, z, hi, hz0, hz1, hz2, hzs⟩ := he
  have fin : ∀ v' w', w'.ownsRow B e size v' (n + m) (xs ++ news) → w.grownBy w' v.ownBlock → (v'.ownBlock = v.ownBlock ∨ v'.ownBlock = some w.heap.size) → Owns B (⟨e, size, v', n + m, xs ++ news⟩ :: rs) w' ∧ w.grownBy w' v.ownBlock ∧ Below B w w' := by
    intro v' w' h2 h3 h4
    refine ⟨⟨Nat.le_trans hB h3.size, fun x hx => ?_, List.pairwise_cons.2 ⟨fun s hs g hg => ?_, HO.tail.apart⟩⟩, h3, (Below.refl _ _).grown h3 hB fun k hk => (hown.lt k hk).1⟩
    · rcases List.mem_cons.1 hx with rfl | hx
      · exact h2
      · refine (HO.tail.each x hx).kept h3 ?_
        cases hv : x.v.ownBlock with
        | none => exact .inl rfl
        | some g => exact .inr fun e => hap x hx g e.symm hv
    · simp only at hg
      rcases h4 with h4 | h4
      · exact hap s hs g (h4.symm.trans hg)
      · rw [h4] at hg
        injection hg with hg
        intro hsg
        have := ((HO.tail.each s hs).lt g hsg).2
        omega
  rcases A with _ | ad
  · have hnews : news = [] := by
      rcases hsee with h | ⟨g, o, h, _⟩
      · exact h
      · cases h
    subst hnews
    have hm : m = 0 := by
      rcases Nat.eq_zero_or_pos m with h | h
      · exact h
      · have : 0 < m * size := Nat.mul_pos h hp
        simp at hl; omega
    subst hm
    refine ⟨v, w, ?_, fin v w (by simpa using hown) (World.grownBy.refl w _) (.inl rfl)⟩
    rcases hown.2 with ⟨h5, h6⟩ | ⟨g, cap, cur, h5, _, _, hnc, _⟩
    · simp only at h5 h6
      subst h5 h6
      simp [Builtin.append_, run_underlying ht, sizeOf, typeInfo, hi, Builtin.lenOf, Builtin.firstCells]
    · simp only at h5 hnc
      subst h5
      simp [Builtin.append_, run_underlying ht, sizeOf, typeInfo, hi, Builtin.lenOf, Builtin.firstCells, hnc, storeCells]
  · have hc : ∀ j u, news[j]? = some u → w.cell? (ad.add j) = some u := by
      rcases hsee with h | ⟨g, o, h, _, hc⟩
      · subst h; intro j u hu; simp at hu
      · injection h with h
        subst h
        intro j u hu
        rw [addr_add]
        exact hc j u hu
    obtain ⟨v', w', hr, h2, h3, _, h4⟩ := run_append_own_at (P := P) w B t ty e i z size bytes ht hi hz0 hz1 hz2 hzs hp v n xs hown ad m c news hl hc h1 h63 hbytes hB
    exact ⟨v', w', hr, fin v' w' h2 h3 h4⟩
theorem wp_ownV {P : Program} {o : Oper} {a : Act} {K : Act → World → Prop} {Q : Exit → Act → World → Prop} (w : World) (s x : Operand) (t : TypeId)
    (ho : o.op = .call { callee := .builtin .append, args := #[s, x], argTypes := #[t, t] })
    (B : Nat) (e : TypeId) (size bytes : Nat) (he : ElemOf P t e size bytes)
    (v : Value) (n : Nat) (xs : List Value) (rs : List Row) (hs : a.eval s = v) (HO : Owns B (⟨e, size, v, n, xs⟩ :: rs) w) (G : Nat) (A : Option Addr) (m c : Nat) (news : List Value) (hx : a.eval x = .slice A m c) (hsee : Seen w G A news) (hl : news.length = m * size) (h1 : ∀ u ∈ news, u.oneCell' = true)
    (h63 : n + m ≤ maxLen) (hbytes : (n + m) * bytes ≤ 140737488355328)
    (h : ∀ v' w', Owns B (⟨e, size, v', n + m, xs ++ news⟩ :: rs) w' → w.grownBy w' v.ownBlock → Below B w w' → K (a.put o.dst v') w') : o.wp P a w K Q := by
  obtain ⟨v', w', hr, h2, h3, h4⟩ := run_ownV (P := P) w B t o.type e size bytes he v n xs rs HO G A m c news hsee hl h1 h63 hbytes
  unfold Oper.wp execOp
  simp only [ho, resolve, invoke, builtin, Sem.run_bind, Sem.run_pure, Result.andThen_ok, List.map_toArray, List.map_cons, List.map_nil, hs, hx, hr]
  exact h v' w' h2 h3 h4
/-- In a walk: append of what is seen. -/
theorem wpList_ownV {P : Program} {ops : Array Oper} {rest : List Oper} {o : Oper} {a : Act} {Q : Exit → Act → World → Prop} (w : World) (hgd : Region.wanted o (yielded ops a.tmps) = true) (s x : Operand) (t : TypeId)
    (ho : o.op = .call { callee := .builtin .append, args := #[s, x], argTypes := #[t, t] })
    (B : Nat) (e : TypeId) (size bytes : Nat) (he : ElemOf P t e size bytes)
    (v : Value) (n : Nat) (xs : List Value) (rs : List Row) (hs : a.eval s = v) (HO : Owns B (⟨e, size, v, n, xs⟩ :: rs) w) (G : Nat) (A : Option Addr) (m c : Nat) (news : List Value) (hx : a.eval x = .slice A m c) (hsee : Seen w G A news) (hl : news.length = m * size) (h1 : ∀ u ∈ news, u.oneCell' = true)
    (h63 : n + m ≤ maxLen) (hbytes : (n + m) * bytes ≤ 140737488355328)
    (h : ∀ v' w', Owns B (⟨e, size, v', n + m, xs ++ news⟩ :: rs) w' → Below B w w' → wpList P ops Q rest (a.put o.dst v') w') : wpList P ops Q (o :: rest) a w :=
  wpList_step fun K hK => by
    rw [if_pos hgd]
    exact wp_ownV w s x t ho B e size bytes he v n xs rs hs HO G A m c news hx hsee hl h1 h63 hbytes fun v' w' h2 _ h4 => hK _ _ (h v' w' h2 h4)
/-- A row of integers. -/
def intRow (e : TypeId) (k : IntKind) (v : Value) (l : List Int) : Row := ⟨e, 1, v, l.length, ints k l⟩
theorem ints_append (k : IntKind) (a b : List Int) : ints k (a ++ b) = ints k a ++ ints k b := by simp [ints]
theorem intRow_append (e : TypeId) (k : IntKind) (v : Value) (l m : List Int) : (⟨e, 1, v, l.length + m.length, ints k l ++ ints k m⟩ : Row) = intRow e k v (l ++ m) := by
  simp [intRow, ints_append]
/-- In a walk: append of values just laid, of whatever kind, onto the first of the rows. -/
theorem wpList_ownN {P : Program} {ops : Array Oper} {rest : List Oper} {o : Oper} {a : Act} {Q : Exit → Act → World → Prop} (w0 : World) (hgd : Region.wanted o (yielded ops a.tmps) = true) (s x : Operand) (t : TypeId)
    (ho : o.op = .call { callee := .builtin .append, args := #[s, x], argTypes := #[t, t] })
    (B : Nat) (e : TypeId) (bytes : Nat) (he : ElemOf P t e 1 bytes)
    (v : Value) (n : Nat) (xs : List Value) (rs : List Row) (hs : a.eval s = v) (HO : Owns B (⟨e, 1, v, n, xs⟩ :: rs) w0) (news : List Value) (hx : a.eval x = .slice (some ⟨w0.heap.size, 0, none⟩) news.length news.length) (h1 : ∀ u ∈ news, u.oneCell' = true)
    (h63 : n + news.length ≤ maxLen) (hbytes : (n + news.length) * bytes ≤ 140737488355328)
    (h : ∀ v' w', Owns B (⟨e, 1, v', n + news.length, xs ++ news⟩ :: rs) w' → Below B w0 w' → w0.heap.size < w'.heap.size → wpList P ops Q rest (a.put o.dst v') w') : wpList P ops Q (o :: rest) a (w0.alloc (.cells news.toArray e)) := by
  refine wpList_ownV (w0.alloc (.cells news.toArray e)) hgd s x t ho B e 1 bytes he v n xs rs hs (HO.alloc _) (w0.heap.size + 1) _ _ _ news hx (Seen.new w0 news e _ (Nat.lt_succ_self _)) (by simp) h1 h63 hbytes ?_
  intro v' w' h2 h3
  have := h3.size
  exact h v' w' h2 (((Below.refl _ _).alloc HO.base _).trans h3) (by simp at this; omega)
/-- In a walk: append of integers just laid onto the first of the rows. -/
theorem wpList_ownI {P : Program} {ops : Array Oper} {rest : List Oper} {o : Oper} {a : Act} {Q : Exit → Act → World → Prop} (w0 : World) (hgd : Region.wanted o (yielded ops a.tmps) = true) (s x : Operand) (t : TypeId)
    (ho : o.op = .call { callee := .builtin .append, args := #[s, x], argTypes := #[t, t] })
    (B : Nat) (e : TypeId) (k : IntKind) (bytes : Nat) (he : ElemOf P t e 1 bytes)
    (v : Value) (l : List Int) (rs : List Row) (hs : a.eval s = v) (HO : Owns B (intRow e k v l :: rs) w0) (ys : List Int) (hx : a.eval x = .slice (some ⟨w0.heap.size, 0, none⟩) ys.length ys.length)
    (h63 : l.length + ys.length ≤ maxLen) (hbytes : (l.length + ys.length) * bytes ≤ 140737488355328)
    (h : ∀ v' w', Owns B (intRow e k v' (l ++ ys) :: rs) w' → Below B w0 w' → w0.heap.size < w'.heap.size → wpList P ops Q rest (a.put o.dst v') w') : wpList P ops Q (o :: rest) a (w0.alloc (.cells (ints k ys).toArray e)) := by
  refine wpList_ownN w0 hgd s x t ho B e bytes he v l.length (ints k l) rs hs HO (ints k ys) (by rw [ints_length]; exact hx) ints_one (by rw [ints_length]; exact h63) (by rw [ints_length]; exact hbytes) ?_
  intro v' w' h2 h3 h4
  refine h v' w' ?_ h3 h4
  rw [← intRow_append]
  rw [ints_length] at h2
  exact h2
/-- Rows of integers, each behind a value of a list. -/
def SeenRows (w : World) (G : Nat) (k : IntKind) (vs : List Value) (ps : List (List Int)) : Prop :=
  vs.length = ps.length ∧ ∀ (j : Nat) (v : Value) (p : List Int), vs[j]? = some v → ps[j]? = some p → ∃ A c, v = .slice A p.length c ∧ Seen w G A (ints k p) ∧ p.length ≤ maxLen
section
variable {w w' : World} {G : Nat} {k : IntKind} {vs : List Value} {ps : List (List Int)}
theorem SeenRows.nil (w : World) (G : Nat) (k : IntKind) : SeenRows w G k [] [] := ⟨rfl, by simp⟩
theorem SeenRows.of (h : SeenRows w G k vs ps) (hk : ∀ A xs, Seen w G A xs → Seen w' G A xs) : SeenRows w' G k vs ps :=
  ⟨h.1, fun j v p hv hp => by obtain ⟨A, c, h1, h2, h3⟩ := h.2 j v p hv hp; exact ⟨A, c, h1, hk _ _ h2, h3⟩⟩
theorem SeenRows.below {C : Nat} (h : SeenRows w G k vs ps) (hb : Below C w w') (hG : G ≤ C) : SeenRows w' G k vs ps := h.of fun A xs hs => hs.below hb hG
theorem SeenRows.up {G' : Nat} (h : SeenRows w G k vs ps) (hG : G ≤ G') : SeenRows w G' k vs ps :=
  ⟨h.1, fun j v p hv hp => by obtain ⟨A, c, h1, h2, h3⟩ := h.2 j v p hv hp; exact ⟨A, c, h1, h2.up hG, h3⟩⟩
theorem SeenRows.at (h : SeenRows w G k vs ps) {j : Nat} (hj : j < ps.length) : ∃ A c p, vs[j]? = some (.slice A p.length c) ∧ ps[j]? = some p ∧ Seen w G A (ints k p) ∧ p.length ≤ maxLen := by
  obtain ⟨p, hp⟩ := some_at hj
  obtain ⟨v, hv⟩ := some_at (xs := vs) (j := j) (by rw [h.1]; exact hj)
  obtain ⟨A, c, e, hs, hl⟩ := h.2 j v p hv hp
  exact ⟨A, c, p, by rw [hv, e], hp, hs, hl⟩
/-- Out of rows of the call's own. -/
theorem Owns.rows {B : Nat} {e : TypeId} {rs : List Row} (h : Owns B rs w) (hl : vs.length = ps.length) (hr : ∀ (j : Nat) (v : Value) (p : List Int), vs[j]? = some v → ps[j]? = some p → intRow e k v p ∈ rs) : SeenRows w w.heap.size k vs ps := by
  refine ⟨hl, fun j v p hv hp => ?_⟩
  obtain ⟨A, c, h1, h2, h3, h4⟩ := h.seen (hr j v p hv hp)
  exact ⟨A, c, h1, h2, Nat.le_trans h3 h4⟩
end
theorem Seen.cell {w : World} {B : Nat} {A : Option Addr} {xs : List Value} (h : Seen w B A xs) {k : Nat} {u : Value} (hk : xs[k]? = some u) :
    ∃ g o, A = some ⟨g, o, none⟩ ∧ g < B ∧ w.cell? ⟨g, o + k, none⟩ = some u := by
  obtain ⟨g, o, e, hg, hc⟩ := h.at (by have := (List.getElem?_eq_some_iff.1 hk).1; omega)
  exact ⟨g, o, e, hg, hc k u hk⟩
end Go.Proofs.Ytgajlplmpbaanaa

/- Arrays and structs by value, of whatever number of cells: their load, their index; rows of triples. No program is named here. -/
namespace Go.Proofs.Ytgajlplmpbaanaa
open Go.RowKit
set_option linter.unusedVariables false
set_option linter.unusedSimpArgs false
set_option maxRecDepth 100000

/-- An array's element by its index, out of its value. -/
theorem wpList_index_arr {P : Program} {ops : Array Oper} {rest : List Oper} {o : Oper} {a : Act} {w : World} {Q : Exit → Act → World → Prop} (hgd : o.guard = none) (ty : TypeId) (x i : Operand) (ho : o.op = .index ty x i)
    (n : Nat) (e : TypeId) (q : IntKind) (hu : P.underlying ty = some (.array n e)) (he : P.underlying e = some (.int q)) (hsz : (P.info? e).map (·.size) = some 1)
    (cs : List Value) (hx : a.eval x = .agg cs.toArray) (k : IntKind) (j : Nat) (hi : a.eval i = .int k j) (v : Value) (hj : j < n) (hv : cs[j]? = some v)
    (h : wpList P ops Q rest (a.put o.dst v) w) : wpList P ops Q (o :: rest) a w := by
  refine wpList_plain hgd fun _ hK => ?_
  have hagg : (isAgg e).run P w = .ok false w := by
    unfold isAgg
    rw [Sem.run_bind, run_underlying he w]
    simp
  cases hq : P.info? e with
  | none => simp [hq] at hsz
  | some inf =>
    have hs : inf.size = 1 := by simpa [hq] using hsz
    unfold Oper.wp execOp
    simp only [ho, hx, hi]
    have hr : (Instr.index ty (.agg cs.toArray) (.int k j)).run P w = .ok v w := by
      simp [Instr.index, asIntOf, run_underlying hu, Sem.run_bind, part, sizeOf, typeInfo, hq, hs, hagg, hv, hj]
    simp only [hr, Sem.run_bind, Sem.run_pure, Result.andThen_ok]
    exact hK _ _ h

/-- What lies in a block just laid. -/
theorem range_new (w : World) (xs : List Value) (t : TypeId) : (w.alloc (.cells xs.toArray t)).rangeAt w.heap.size 0 xs := fun j v hv => by
  rw [World.cell?_alloc_at _ _ _ _ rfl]
  simpa using hv
theorem range_below {w w' : World} {B b o : Nat} {xs : List Value} (h : w.rangeAt b o xs) (hb : Below B w w') (hB : b < B) : w'.rangeAt b o xs := fun j v hv => (hb.cell (by exact hB)).trans (h j v hv)

end Go.Proofs.Ytgajlplmpbaanaa

/- A block whose cells are all known, and one cell of it written. No program is named here. -/
namespace Go.Proofs.Ytgajlplmpbaanaa
open Go.RowKit
set_option linter.unusedVariables false
set_option linter.unusedSimpArgs false
set_option maxRecDepth 100000

/-- Block b is these cells. -/
def Blk (w : World) (b : Nat) (xs : List Value) (t : TypeId) : Prop := w.heap[b]? = some (.cells xs.toArray t (0, 0))
section
variable {w w' : World} {b : Nat} {xs : List Value} {t : TypeId}
theorem Blk.new (w : World) (xs : List Value) (t : TypeId) : Blk (w.alloc (.cells xs.toArray t)) w.heap.size xs t := heap_alloc_last w _
theorem Blk.lt (h : Blk w b xs t) : b < w.heap.size := (Array.getElem?_eq_some_iff.1 h).1
theorem Blk.cell (h : Blk w b xs t) {i : Nat} {v : Value} (hv : xs[i]? = some v) : w.cell? ⟨b, i, none⟩ = some v := by
  rw [cell_of_row w b i _ _ _ h]; simpa using hv
theorem Blk.frozen (h : Blk w b xs t) (i : Nat) : w.frozen? ⟨b, i, none⟩ = false := frozen_of_row w b i _ _ h
theorem Blk.range (h : Blk w b xs t) : w.rangeAt b 0 xs := fun j v hv => by rw [Nat.zero_add]; exact h.cell hv
theorem Blk.below (h : Blk w b xs t) {C : Nat} (hb : Below C w w') (hC : b < C) : Blk w' b xs t := by
  unfold Blk at h ⊢; rw [hb.block b hC]; exact h
theorem Blk.set (h : Blk w b xs t) (i : Nat) (v : Value) : Blk (w.setCell ⟨b, i, none⟩ v) b (xs.set i v) t := by
  have := heap_setCell_same w b i xs.toArray t v h
  unfold Blk
  rw [this]
  simp
theorem Blk.drewN (h : Blk w b xs t) (n : Nat) : Blk (w.drewN n) b xs t := h
theorem Owns.setCell {B : Nat} {rs : List Row} (h : Owns B rs w) {a : Addr} (ha : a.block < B) (v : Value) : Owns B rs (w.setCell a v) := by
  refine ⟨by have := h.base; simpa [World.setCell] using this, fun r hr => ?_, h.apart⟩
  obtain ⟨h1, h2⟩ := h.each r hr
  refine ⟨h1, ?_⟩
  rcases h2 with h2 | ⟨g, cap, cur, hv, hg, hh, r⟩
  · exact .inl h2
  · exact .inr ⟨g, cap, cur, hv, hg, by rw [Below.heap_setCell _ _ _ _ (by omega)]; exact hh, r⟩
end
/-- A whole value into the block made last. -/
theorem wpList_store_new {P : Program} {ops : Array Oper} {rest : List Oper} {o : Oper} {a : Act} {Q : Exit → Act → World → Prop} (w0 : World) (hgd : o.guard = none) (t : TypeId) (x y : Operand) (ho : o.op = .store t x y) (c : Array Value) (c' : List Value)
    (hx : a.eval x = .pointer (some ⟨w0.heap.size, 0, none⟩)) (hy : a.eval y = .agg c'.toArray) (hi : (P.info? t).map (·.size) = some c'.length) (hsz : c.size = c'.length) (h1 : ∀ u ∈ c', u.oneCell' = true)
    (h : wpList P ops Q rest (a.put o.dst undef) (w0.alloc (.cells c'.toArray t))) : wpList P ops Q (o :: rest) a (w0.alloc (.cells c t)) := by
  refine wpList_plain hgd fun _ hK => ?_
  have hr := run_storeAt_new (P := P) w0 t c c'.toArray (by simpa using hi) (by simpa using hsz) (all_oneCell_toArray h1)
  unfold Oper.wp execOp
  simp only [ho, hx, hy, hr, Sem.run_bind, Sem.run_pure, Result.andThen_ok]
  exact hK _ _ h
theorem Blk.kept {w w' : World} {b : Nat} {xs : List Value} {t : TypeId} {r : Option Nat} (h : Blk w b xs t) (hg : w.grownBy w' r) (hr : some b ≠ r) : Blk w' b xs t := by
  unfold Blk at h ⊢
  rw [hg.block b (Array.getElem?_eq_some_iff.1 h).1 hr]; exact h
theorem Owns.kept {w w' : World} {B b : Nat} {rs : List Row} (h : Owns B rs w) (hg : w.grownBy w' (some b)) (hb : b < B) : Owns B rs w' := by
  refine ⟨Nat.le_trans h.base hg.size, fun r hr => (h.each r hr).kept hg ?_, h.apart⟩
  cases hv : r.v.ownBlock with
  | none => exact .inl rfl
  | some g => exact .inr fun e => by injection e with e; have := ((h.each r hr).lt g hv).1; omega
end Go.Proofs.Ytgajlplmpbaanaa

/- A block's value (64 numbers), and whether two are equal. -/
namespace Go.Proofs.Ytgajlplmpbaanaa
open Go.RowKit
set_option linter.unusedVariables false
set_option linter.unusedSimpArgs false
set_option maxRecDepth 100000

/-- A block's value. -/
abbrev blkV (cs : List Int) : Value := .agg (ints .i64 cs).toArray
theorem info_blk : (Try.prog.info? 31).map (·.size) = some 64 := by kernel_rfl
theorem info_blkn {xs : List Value} (h : xs.length = 64) : (Try.prog.info? 31).map (·.size) = some xs.length := by rw [h]; exact info_blk
end Go.Proofs.Ytgajlplmpbaanaa

/- The zero block, three blocks just laid, a block and a code handed back: what the walks over blocks share. -/
namespace Go.Proofs.Ytgajlplmpbaanaa
open Go.RowKit
set_option linter.unusedVariables false
set_option linter.unusedSimpArgs false
set_option maxRecDepth 100000

def zeroB : List Value := ints .i64 (List.replicate 64 0)
end Go.Proofs.Ytgajlplmpbaanaa

/- Rounding and clamping in numbers. -/
namespace Go.Proofs.Ytgajlplmpbaanaa
open Go.RowKit
set_option linter.unusedVariables false
set_option linter.unusedSimpArgs false
set_option maxRecDepth 100000

/-- n within bounds. -/
def clampZ (n lo hi : Int) : Int := if n < lo then lo else if hi < n then hi else n
theorem retI {x y : Int} (h : x = y) : (Ending.returned (.int .i64 x)) = .returned (.int .i64 y) := by rw [h]
end Go.Proofs.Ytgajlplmpbaanaa

/- Rounding and clamping in numbers; blocks made number by number. -/
namespace Go.Proofs.Ytgajlplmpbaanaa
open Go.RowKit
set_option linter.unusedVariables false
set_option linter.unusedSimpArgs false
set_option maxRecDepth 100000

/-- All numbers within bounds. -/
def inB (lo hi : Int) (cs : List Int) : Bool := cs.all fun x => decide (lo ≤ x) && decide (x ≤ hi)
theorem inB_mem {lo hi : Int} {cs : List Int} : inB lo hi cs = true ↔ ∀ x ∈ cs, lo ≤ x ∧ x ≤ hi := by simp [inB]
theorem inB_at {lo hi : Int} {cs : List Int} (h : inB lo hi cs = true) {i : Nat} {x : Int} (hx : cs[i]? = some x) : lo ≤ x ∧ x ≤ hi := inB_mem.1 h x (List.mem_of_getElem? hx)
end Go.Proofs.Ytgajlplmpbaanaa

/- Planes in blocks, in numbers: cut, joined, there and back, edges, clamped. No program is named here. -/
namespace Go.Proofs.Ytgajlplmpbaanaa
set_option linter.unusedVariables false
set_option linter.unusedSimpArgs false
set_option maxRecDepth 100000

def acrossN (W : Nat) : Nat := (W + 7) / 8
def manyN (W H : Nat) : Nat := acrossN W * acrossN H
/-- One sample of what is joined. -/
def pixAt (L : List (List Int)) (W j : Nat) : Int := clampZ ((L.getD (j / W / 8 * acrossN W + j % W / 8) []).getD (j / W % 8 * 8 + j % W % 8) 0 + 128) 0 255
def joinK (L : List (List Int)) (W n : Nat) : List Int := (List.range n).map (pixAt L W)
def joinL (L : List (List Int)) (W H : Nat) : List Int := joinK L W (W * H)
def badWH (w h : Int) : Prop := w < 1 ∨ 64 < w ∨ h < 1 ∨ 64 < h
instance (w h : Int) : Decidable (badWH w h) := by unfold badWH; infer_instance
def eSides (w h : Int) : Int := if badWH w h then 1 else 0
def eJoin (L : List (List Int)) (w h : Int) : Int := if badWH w h then 1 else if L.length ≠ manyN w.toNat h.toNat then 4 else if (∀ r ∈ L, inB (-40000) 40000 r = true) then 0 else 1
def oJoin (L : List (List Int)) (w h : Int) : List Int := if eJoin L w h = 0 then joinL L w.toNat h.toNat else []
def oMany (w h : Int) : Int := if badWH w h then 0 else (manyN w.toNat h.toNat : Nat)
theorem acrossN_pos {W : Nat} (h : 0 < W) : 0 < acrossN W := by unfold acrossN; omega
theorem joinK_length (L : List (List Int)) (W n : Nat) : (joinK L W n).length = n := by simp [joinK]
theorem joinK_next (L : List (List Int)) (W n : Nat) : joinK L W (n + 1) = joinK L W n ++ [pixAt L W n] := by
  unfold joinK; rw [List.range_succ, List.map_append]; rfl
theorem mul_div_at {W y x : Nat} (hx : x < W) : (W * y + x) / W = y ∧ (W * y + x) % W = x := by
  have hp : 0 < W := by omega
  exact ⟨by rw [Nat.mul_add_div hp, Nat.div_eq_of_lt hx]; omega, by rw [Nat.mul_add_mod, Nat.mod_eq_of_lt hx]⟩
theorem getD_of {α : Type} {l : List α} {i : Nat} {x d : α} (h : l[i]? = some x) : l.getD i d = x := by rw [List.getD_eq_getElem?_getD, h]; rfl
/-- Of the blocks' own places. -/
theorem places {W H r c : Nat} (hr : r < H) (hc : c < W) : r / 8 * acrossN W + c / 8 < manyN W H ∧ (r / 8 * acrossN W + c / 8) / acrossN W = r / 8 ∧ (r / 8 * acrossN W + c / 8) % acrossN W = c / 8 := by
  have hp : 0 < acrossN W := acrossN_pos (by omega)
  have h1 : c / 8 < acrossN W := by unfold acrossN; omega
  have h2 : r / 8 + 1 ≤ acrossN H := by unfold acrossN; omega
  have h3 := mul_div_at (W := acrossN W) (y := r / 8) h1
  rw [Nat.mul_comm] at h3
  refine ⟨?_, h3.1, h3.2⟩
  have h4 : (r / 8 + 1) * acrossN W ≤ acrossN H * acrossN W := Nat.mul_le_mul_right _ h2
  rw [Nat.add_mul, Nat.one_mul, Nat.mul_comm (acrossN H)] at h4
  exact Nat.lt_of_lt_of_le (Nat.add_lt_add_left h1 _) h4
theorem many_le {W H : Nat} (hW : W ≤ 64) (hH : H ≤ 64) : manyN W H ≤ 64 := by
  have h1 : acrossN W ≤ 8 := by unfold acrossN; omega
  have h2 : acrossN H ≤ 8 := by unfold acrossN; omega
  exact Nat.mul_le_mul h1 h2
end Go.Proofs.Ytgajlplmpbaanaa

/- The reference's outside, in a text of its own. -/
namespace Go.Proofs.Ytgajlplmpbaanaa
open Go.RowKit
set_option linter.unusedVariables false
set_option linter.unusedSimpArgs false
set_option maxRecDepth 100000

theorem out_yes (n lo hi : Int) (h : n < lo ∨ hi < n) (w : World) : Calls Try.prog 22 #[.int .i64 n, .int .i64 lo, .int .i64 hi] w fun e w' => e = .returned (.bool true) ∧ w' = w := by
  go_enter Try.func22, Try.ntmps22
  go_wp2
  all_goals (go_ret; exact ⟨ret_bool (by simp <;> omega), rfl⟩)
theorem out_no (n lo hi : Int) (h : lo ≤ n ∧ n ≤ hi) (w : World) : Calls Try.prog 22 #[.int .i64 n, .int .i64 lo, .int .i64 hi] w fun e w' => e = .returned (.bool false) ∧ w' = w := by
  go_enter Try.func22, Try.ntmps22
  go_wp2
  all_goals (go_ret; exact ⟨ret_bool (by simp <;> omega), rfl⟩)
end Go.Proofs.Ytgajlplmpbaanaa

/- Rows of integers of one length, one behind another in memory: blocks in a slice. No program is named here. -/
namespace Go.Proofs.Ytgajlplmpbaanaa
open Go.RowKit
set_option linter.unusedVariables false
set_option linter.unusedSimpArgs false
set_option maxRecDepth 100000

/-- Rows of integers, one behind another. -/
def rowsC (L : List (List Int)) : List Value := L.flatMap (ints .i64)
theorem rowsC_length {n : Nat} : ∀ {L : List (List Int)}, (∀ r ∈ L, r.length = n) → (rowsC L).length = L.length * n
  | [], _ => by simp [rowsC]
  | r :: L, h => by
    have h1 := rowsC_length (L := L) fun x hx => h x (List.mem_cons_of_mem _ hx)
    have h2 := h r List.mem_cons_self
    simp only [rowsC, List.flatMap_cons, List.length_append, ints_length, List.length_cons] at h1 ⊢
    rw [h1, h2, Nat.add_mul]; omega
theorem rowsC_at {n : Nat} : ∀ {L : List (List Int)}, (∀ r ∈ L, r.length = n) → ∀ {i j : Nat} {r : List Int}, L[i]? = some r → j < n → (rowsC L)[i * n + j]? = (ints .i64 r)[j]?
  | [], _, i, j, r, h, _ => by simp at h
  | s :: L, hl, 0, j, r, h, hj => by
    simp at h; subst h
    have := hl s List.mem_cons_self
    rw [rowsC, List.flatMap_cons, Nat.zero_mul, Nat.zero_add, List.getElem?_append_left (by rw [ints_length]; omega)]
  | s :: L, hl, i + 1, j, r, h, hj => by
    rw [List.getElem?_cons_succ] at h
    have h2 := hl s List.mem_cons_self
    have ih := rowsC_at (L := L) (fun x hx => hl x (List.mem_cons_of_mem _ hx)) h hj
    rw [rowsC, List.flatMap_cons, List.getElem?_append_right (by rw [ints_length, h2, Nat.add_mul]; omega), ints_length, h2, show (i + 1) * n + j - n = i * n + j by rw [Nat.add_mul]; omega]
    exact ih
/-- One row of a slice that is seen. -/
theorem Seen.row {w : World} {G n : Nat} {A : Option Addr} {L : List (List Int)} (h : Seen w G A (rowsC L)) (hl : ∀ r ∈ L, r.length = n) (hp : 0 < n) {k : Nat} (hk : k < L.length) :
    ∃ g o r, A = some ⟨g, o, none⟩ ∧ g < G ∧ L[k]? = some r ∧ r.length = n ∧ w.rangeAt g (o + k * n) (ints .i64 r) := by
  obtain ⟨r, hr⟩ := some_at hk
  have hrl := hl r (List.mem_of_getElem? hr)
  have hlt : 0 < (rowsC L).length := by rw [rowsC_length hl]; exact Nat.mul_pos (by omega) hp
  obtain ⟨g, o, e, hg, hc⟩ := h.at hlt
  refine ⟨g, o, r, e, hg, hr, hrl, fun j v hv => ?_⟩
  have hj : j < n := by have := (List.getElem?_eq_some_iff.1 hv).1; rw [ints_length] at this; omega
  have h2 := rowsC_at hl hr hj
  rw [hv] at h2
  have := hc _ _ h2
  rw [Nat.add_assoc]; exact this
end Go.Proofs.Ytgajlplmpbaanaa

/- Blocks in a row: made, built, appended. -/
namespace Go.Proofs.Ytgajlplmpbaanaa
open Go.RowKit
set_option linter.unusedVariables false
set_option linter.unusedSimpArgs false
set_option maxRecDepth 100000

end Go.Proofs.Ytgajlplmpbaanaa

/- A call of a function that was handed over, its number a letter; a block and two numbers handed back; what a call may do to one block. No program is named here. -/
namespace Go.Proofs.Ytgajlplmpbaanaa
open Go.RowKit
set_option linter.unusedVariables false
set_option linter.unusedSimpArgs false
set_option maxRecDepth 100000

/-- A call of this function enters its body. -/
def Enters (P : Program) (f : FuncId) : Prop := ∀ (args : Array Value) (w : World), (callFunc f args).run P w = .ok (.enter f args) w
theorem Enters.of {P : Program} {f : FuncId} {fn : Func} (h : P.funcs[f]? = some fn) (hn : (fn.name == "runtime.NumGoroutine") = false) (hb : fn.body.isNone = false) : Enters P f := by
  intro args w
  have h1 : ¬ fn.name = "runtime.NumGoroutine" := by simpa using hn
  have h2 : ¬ fn.body = none := by intro e; rw [e] at hb; cases hb
  simp [callFunc, h, h1, h2]
theorem Seen.grown {w w' : World} {G g : Nat} {A : Option Addr} {xs : List Value} (h : Seen w G A xs) (hg : w.grownBy w' (some g)) (h1 : G ≤ g) (h2 : G ≤ w.heap.size) : Seen w' G A xs :=
  h.of w w' fun p hp => World.cell?_of_block (hg.block p.block (by omega) (by simp; omega))
end Go.Proofs.Ytgajlplmpbaanaa

/- The reference's SidesCheck, many and PlaneCut: their contracts. -/
namespace Go.Proofs.Ytgajlplmpbaanaa
open Go.RowKit
set_option linter.unusedVariables false
set_option linter.unusedSimpArgs false
set_option maxRecDepth 100000

theorem refSides_any (x y : Int) (w : World) : Calls Try.prog 15 #[.int .i64 x, .int .i64 y] w fun e w' => e = .returned (.int .i64 (eSides x y)) ∧ w' = w := by
  obtain ⟨E, hE⟩ : ∃ E, E = eSides x y := ⟨_, rfl⟩
  rw [← hE]
  by_cases hx : x < 1 ∨ 64 < x
  · have e1 : E = 1 := by rw [hE]; exact if_pos (by unfold badWH; omega)
    subst e1
    clear hE
    have HX := veil (out_yes x 1 64 hx w)
    clear hx
    go_enter Try.func15, Try.ntmps15
    go_wp2_with fail
    refine HX.out.mono ?_
    rintro e _ ⟨rfl, rfl⟩
    clear HX
    go_wp2
    go_ret
    exact ⟨rfl, rfl⟩
  · have HX := veil (out_no x 1 64 (by omega) w)
    by_cases hy : y < 1 ∨ 64 < y
    · have e1 : E = 1 := by rw [hE]; exact if_pos (by unfold badWH; omega)
      subst e1
      have HY := veil (out_yes y 1 64 hy w)
      clear hE hx hy
      go_enter Try.func15, Try.ntmps15
      go_wp2_with fail
      refine HX.out.mono ?_
      rintro e _ ⟨rfl, rfl⟩
      clear HX
      go_wp2_with fail
      refine HY.out.mono ?_
      rintro e _ ⟨rfl, rfl⟩
      clear HY
      go_wp2
      go_ret
      exact ⟨rfl, rfl⟩
    · have e1 : E = 0 := by rw [hE]; exact if_neg (by unfold badWH; omega)
      subst e1
      have HY := veil (out_no y 1 64 (by omega) w)
      clear hE hx hy
      go_enter Try.func15, Try.ntmps15
      go_wp2_with fail
      refine HX.out.mono ?_
      rintro e _ ⟨rfl, rfl⟩
      clear HX
      go_wp2_with fail
      refine HY.out.mono ?_
      rintro e _ ⟨rfl, rfl⟩
      clear HY
      go_wp2
      go_ret
      exact ⟨rfl, rfl⟩
theorem inB_snoc {lo hi : Int} {cs : List Int} {k : Nat} {x : Int} (hx : cs[k]? = some x) (h : inB lo hi (cs.take k) = true) (h1 : lo ≤ x ∧ x ≤ hi) : inB lo hi (cs.take (k + 1)) = true := by
  rw [take_snoc hx, inB_mem]
  intro y hy
  rcases List.mem_append.1 hy with hy | hy
  · exact inB_mem.1 h y hy
  · rw [List.mem_singleton.1 hy]; exact h1
theorem Owns.far {B : Nat} {rs : List Row} {W w6 : World} {o : Obj} (h : Owns B rs W) (hg : (W.alloc o).grownBy w6 (some W.heap.size)) : Owns B rs w6 := by
  have h2 := h.alloc o
  refine ⟨Nat.le_trans h2.base hg.size, fun r hr => (h2.each r hr).kept hg ?_, h.apart⟩
  cases hv : r.v.ownBlock with
  | none => exact .inl rfl
  | some g => exact .inr fun e => by injection e with e; have := ((h.each r hr).lt g hv).2; omega
end Go.Proofs.Ytgajlplmpbaanaa

/- quant.Round, clamp, within, Check, checkBoth: their contracts. -/
namespace Go.Proofs.Ytgajlplmpbaanaa
open Go.RowKit
set_option linter.unusedVariables false
set_option linter.unusedSimpArgs false
set_option maxRecDepth 100000

theorem inB_take {lo hi : Int} {cs : List Int} {k : Nat} {x : Int} (hx : cs[k]? = some x) (h : inB lo hi (cs.take k) = true) (h1 : lo ≤ x) (h2 : x ≤ hi) : inB lo hi (cs.take (k + 1)) = true := by
  rw [take_snoc hx]; unfold inB at *; rw [List.all_append, h]; simp [h1, h2]
end Go.Proofs.Ytgajlplmpbaanaa

/- The reference's clamp and Round: their contracts. -/
namespace Go.Proofs.Ytgajlplmpbaanaa
open Go.RowKit
set_option linter.unusedVariables false
set_option linter.unusedSimpArgs false
set_option maxRecDepth 100000

theorem refClamp_any (n lo hi : Int) (w : World) :
    Calls Try.prog 27 #[.int .i64 n, .int .i64 lo, .int .i64 hi] w fun e w' => e = .returned (.int .i64 (clampZ n lo hi)) ∧ w' = w := by
  go_enter Try.func27, Try.ntmps27
  go_wp2
  all_goals (go_ret; exact ⟨retI (by unfold clampZ; split <;> (try split) <;> omega), rfl⟩)
end Go.Proofs.Ytgajlplmpbaanaa

/- The reference's BlockWithin: its contract. -/
namespace Go.Proofs.Ytgajlplmpbaanaa
open Go.RowKit
set_option linter.unusedVariables false
set_option linter.unusedSimpArgs false
set_option maxRecDepth 100000

theorem inB_bad {lo hi : Int} {cs : List Int} {k : Nat} {x : Int} (hx : cs[k]? = some x) (h : ¬ (lo ≤ x ∧ x ≤ hi)) : inB lo hi cs = false := by
  cases e : inB lo hi cs with
  | false => rfl
  | true => exact absurd (inB_at e hx) h
set_option maxHeartbeats 1000000 in
set_option maxRecDepth 100000 in
theorem bwithin_any (cs : List Int) (lo hi : Int) (w : World) (hc : cs.length = 64) :
    Calls Try.prog 26 #[blkV cs, .int .i64 lo, .int .i64 hi] w fun e w' => e = .returned (.bool (inB lo hi cs)) ∧ Below w.heap.size w w' := by
  have hb0 := below1 w (.cells (ints .i64 cs).toArray 31)
  have hr := range_new w (ints .i64 cs) 31
  have Hl : Hid ((ints .i64 cs).length = 64) := by show _ = _; rw [ints_length, hc]
  have Hat : Hid (∀ (k : Nat) (x : Int), cs[k]? = some x → (ints .i64 cs)[k]? = some (.int .i64 x)) := fun _ _ h => ints_at h
  obtain ⟨E, hE⟩ : ∃ E, E = inB lo hi cs := ⟨_, rfl⟩
  rw [← hE]
  have HE := veil hE; clear hE
  unfold blkV
  generalize ints .i64 cs = xs at *
  go_enter Try.func26, Try.ntmps26
  go_wp2_with (first
    | (refine wpList_load_mid rfl 31 (.tmp 3) rfl w.heap.size 0 rfl xs _ hr Try.underlying31 rfl (info_blkn Hl.out) ?_)
    | fail)
  go_loopg [10] 64 (fun gk i wr => ∃ k : Nat, gk = 64 - k ∧ k ≤ 64 ∧ i = .int .i64 (k : Int) ∧ Hid (inB lo hi (cs.take k) = true) ∧ Below w.heap.size w wr)
  case atStart => exact ⟨0, rfl, by omega, rfl, by simp [inB, Hid], hb0⟩
  case round =>
    clear hr hb0
    obtain ⟨k, rfl, hk, rfl, HI, hb⟩ := hrel
    by_cases hlt : k < 64
    · have hltz : (k : Int) < 64 := by omega
      obtain ⟨x, hx⟩ := some_at (xs := cs) (j := k) (by omega)
      have hxs := Hat.out _ _ hx
      by_cases h1 : lo ≤ x ∧ x ≤ hi
      · have HI2 := veil (inB_take hx HI.out h1.1 h1.2)
        have HO := veil (out_no x lo hi h1 wr)
        clear HI hx
        go_wp2_with (first
          | (refine wpList_index_arr rfl 31 (.tmp 9) (.tmp 10) rfl 64 3 .i64 Try.underlying31 Try.underlying3 (by kernel_rfl) xs rfl .i64 k rfl (.int .i64 x) hlt hxs ?_)
          | fail)
        refine HO.out.mono ?_
        rintro e w1 ⟨rfl, rfl⟩
        go_wp2_with fail
        go_roundg (64 - (k + 1))
        case rel => exact ⟨k + 1, rfl, by omega, by go_num, HI2, hb⟩
        case measure => omega
      · have h2 := inB_bad hx h1
        have HO := veil (out_yes x lo hi (by omega) wr)
        rw [← HE.out] at h2
        subst h2
        clear HI hx
        go_wp2_with (first
          | (refine wpList_index_arr rfl 31 (.tmp 9) (.tmp 10) rfl 64 3 .i64 Try.underlying31 Try.underlying3 (by kernel_rfl) xs rfl .i64 k rfl (.int .i64 x) hlt hxs ?_)
          | fail)
        refine HO.out.mono ?_
        rintro e w1 ⟨rfl, rfl⟩
        go_wp2
        go_ret
        exact ⟨rfl, hb⟩
    · obtain rfl : k = 64 := by omega
      have h2 : inB lo hi cs = true := by have := HI.out; rw [List.take_of_length_le (by omega)] at this; exact this
      rw [← HE.out] at h2
      subst h2
      go_wp2
      go_ret
      exact ⟨rfl, hb⟩
end Go.Proofs.Ytgajlplmpbaanaa

/- Rows of numbers. -/
namespace Go.Proofs.Ytgajlplmpbaanaa
open Go.RowKit

theorem elem_int : ElemOf Try.prog 22 3 1 8 := .mk' (z := .int .i64 0) Try.underlying22 (by kernel_rfl) rfl (by omega)
end Go.Proofs.Ytgajlplmpbaanaa

/- The reference's many and PlaneJoin: their contracts. -/
namespace Go.Proofs.Ytgajlplmpbaanaa
open Go.RowKit
set_option linter.unusedVariables false
set_option linter.unusedSimpArgs false
set_option maxRecDepth 100000

theorem refMany_any (W H : Nat) (hW : W ≤ 64) (hH : H ≤ 64) (w : World) : Calls Try.prog 25 #[.int .i64 (W : Int), .int .i64 (H : Int)] w fun e w' => e = .returned (.int .i64 (manyN W H : Nat)) ∧ w' = w := by
  obtain ⟨P, hP⟩ : ∃ P, P = acrossN W := ⟨_, rfl⟩
  obtain ⟨Q, hQ⟩ : ∃ Q, Q = acrossN H := ⟨_, rfl⟩
  obtain ⟨M, hM⟩ : ∃ M, M = manyN W H := ⟨_, rfl⟩
  have e1 : (P : Int) * (Q : Int) = (M : Int) := by rw [hM, manyN, ← hP, ← hQ]; simp
  have hm : M ≤ 64 := by rw [hM]; exact many_le hW hH
  unfold acrossN at hP hQ
  obtain ⟨a, ha⟩ : ∃ a : Nat, a = W + 7 := ⟨_, rfl⟩
  obtain ⟨b, hb⟩ : ∃ b : Nat, b = H + 7 := ⟨_, rfl⟩
  have z1 : (W : Int) + 7 = (a : Int) := by omega
  have z2 : (H : Int) + 7 = (b : Int) := by omega
  have z3 : (a : Int) / 8 = (P : Int) := by omega
  have z4 : (b : Int) / 8 = (Q : Int) := by omega
  have hb2 : a ≤ 71 ∧ b ≤ 71 ∧ P ≤ 8 ∧ Q ≤ 8 := by omega
  rw [← hM]
  clear hM hP hQ ha hb
  go_enter Try.func25, Try.ntmps25
  go_wp2
  go_ret
  exact ⟨rfl, rfl⟩
theorem eJoin_bad {L : List (List Int)} {x y : Int} (h : badWH x y) : eJoin L x y = 1 := if_pos h
theorem eJoin_len {L : List (List Int)} {x y : Int} (h : ¬ badWH x y) (h2 : L.length ≠ manyN x.toNat y.toNat) : eJoin L x y = 4 := by unfold eJoin; rw [if_neg h, if_pos h2]
theorem eJoin_in {L : List (List Int)} {x y : Int} (h : ¬ badWH x y) (h2 : L.length = manyN x.toNat y.toNat) : eJoin L x y = if (∀ r ∈ L, inB (-40000) 40000 r = true) then 0 else 1 := by unfold eJoin; rw [if_neg h, if_neg (by rw [h2]; simp)]
set_option maxRecDepth 100000 in
set_option maxHeartbeats 2000000 in
theorem refJoin_any (L : List (List Int)) (A : Option Addr) (c G : Nat) (x y : Int) (w : World) (hL : ∀ r ∈ L, r.length = 64) (hs : Seen w G A (rowsC L)) (hl : L.length ≤ maxLen) (hG : G ≤ w.heap.size) :
    Calls Try.prog 14 #[.slice A L.length c, .int .i64 x, .int .i64 y] w fun e w' => ∃ v, e = .returned (.tuple #[v, .int .i64 (eJoin L x y)]) ∧ Owns w.heap.size [intRow 3 .i64 v (oJoin L x y)] w' ∧ Below w.heap.size w w' := by
  obtain ⟨E, hE⟩ : ∃ E, E = eJoin L x y := ⟨_, rfl⟩
  obtain ⟨O, hO⟩ : ∃ O, O = oJoin L x y := ⟨_, rfl⟩
  rw [← hE, ← hO]
  have HE := veil hE
  have HOe : Hid (E ≠ 0 → O = []) := by show _ → _; intro h; rw [hO]; exact if_neg (by rw [← hE]; exact h)
  have HOk : Hid (E = 0 → O = joinL L x.toNat y.toNat) := by show _ → _; intro h; rw [hO]; exact if_pos (by rw [← hE]; exact h)
  have HSi := veil (refSides_any x y w)
  have hempty : ∀ w', Below w.heap.size w w' → Owns w.heap.size [intRow 3 .i64 (.slice none 0 0) []] w' := fun w' h => (Owns.nil h.size).fresh _ _
  have Hempty := veil hempty
  clear hE hO hempty
  unfold maxLen at hl
  go_enter Try.func14, Try.ntmps14
  go_wp2_with fail
  refine HSi.out.mono ?_
  rintro e wq ⟨rfl, hwq⟩
  obtain rfl : w = wq := hwq.symm
  clear hwq HSi
  by_cases hbad : badWH x y
  · have hE1 := HE.out.trans (eJoin_bad hbad)
    have hO1 := HOe.out (by rw [hE1]; decide)
    have e1 : eSides x y = 1 := if_pos hbad
    rw [e1]
    subst hO1
    have HE1 := veil hE1
    clear hE1 e1 hbad
    go_wp2_with fail
    go_ret2
    exact ⟨_, ret_two rfl (by rw [HE1.out]; rfl), Hempty.out _ (Below.refl _ _), Below.refl _ _⟩
  · have e1 : eSides x y = 0 := if_neg hbad
    rw [e1]
    have hb' := hbad
    unfold badWH at hb'
    obtain ⟨W, hW⟩ : ∃ W : Nat, x = (W : Int) := ⟨x.toNat, by omega⟩
    obtain ⟨H, hH⟩ : ∃ H : Nat, y = (H : Int) := ⟨y.toNat, by omega⟩
    subst hW hH
    rw [Int.toNat_natCast, Int.toNat_natCast] at HOk
    have hW1 : 1 ≤ W ∧ W ≤ 64 := by omega
    have hH1 : 1 ≤ H ∧ H ≤ 64 := by omega
    have HMa := veil (refMany_any W H hW1.2 hH1.2 w)
    have HL4 : Hid (L.length ≠ manyN W H → E = 4) := veil fun h => HE.out.trans (eJoin_len hbad (by rw [Int.toNat_natCast, Int.toNat_natCast]; exact h))
    have HL0 : Hid (L.length = manyN W H → E = if (∀ r ∈ L, inB (-40000) 40000 r = true) then 0 else 1) := veil fun h => HE.out.trans (eJoin_in hbad (by rw [Int.toNat_natCast, Int.toNat_natCast]; exact h))
    have HMe : Hid (manyN W H = acrossN H * acrossN W) := veil (by unfold manyN; exact Nat.mul_comm _ _)
    have hN64 := many_le hW1.2 hH1.2
    obtain ⟨N, hN⟩ : ∃ N, N = manyN W H := ⟨_, rfl⟩
    rw [← hN] at HMa HL4 HL0 HMe hN64
    have HN := veil hN
    clear hN e1 hb' hbad HE
    go_wp2_with fail
    refine HMa.out.mono ?_
    rintro e wq ⟨rfl, hwq⟩
    obtain rfl : w = wq := hwq.symm
    clear hwq HMa
    by_cases hlen : L.length = N
    · have hlz : ((L.length : Int) != (N : Int)) = false := by simp; omega
      have HE2 := veil (HL0.out hlen)
      have Hlen := veil hlen
      have hl64 : L.length ≤ 64 := by omega
      have HW : Hid (∀ r ∈ L, ∀ W, Calls Try.prog 26 #[blkV r, .int .i64 (-40000), .int .i64 40000] W fun e w' => e = .returned (.bool (inB (-40000) 40000 r)) ∧ Below W.heap.size W w') := fun r hr W => bwithin_any r (-40000) 40000 W (hL r hr)
      unfold blkV at HW
      clear hlen HL4 HL0 hlz
      have hlz : ((L.length : Int) != (N : Int)) = false := by have := Hlen.out; simp; omega
      go_wp2_with fail
      go_loopg [10, 29] L.length (fun gk bv iv wr => ∃ k : Nat, gk = L.length - k ∧ k ≤ L.length ∧ iv = .int .i64 (k : Int) ∧ Hid (∀ r ∈ L.take k, inB (-40000) 40000 r = true) ∧ Hid (Below w.heap.size w wr))
      case atStart => exact ⟨0, rfl, Nat.zero_le _, rfl, veil (by simp), veil (Below.refl _ _)⟩
      case round =>
        obtain ⟨k, rfl, hk, rfl, HI, HB⟩ := hrel
        by_cases hlt : k < L.length
        · have hltz : (k : Int) < (L.length : Int) := by omega
          have hb := HB.out
          obtain ⟨g, o, r, rfl, hg, hr, hrl, hrange⟩ := hs.row hL (by omega) hlt
          have hrg := range_below hrange hb (by omega)
          have hmem := List.mem_of_getElem? hr
          have HC := veil (HW.out r hmem)
          have Hl : Hid ((ints .i64 r).length = 64) := by show _ = _; rw [ints_length, hrl]
          have hone := ints_one (k := .i64) (l := r)
          have hr2 := range_new wr (ints .i64 r) 31
          have hb2 := hb.alloc hb.size (.cells (ints .i64 r).toArray 31)
          have HIn : Hid (inB (-40000) 40000 r = true → ∀ x ∈ L.take (k + 1), inB (-40000) 40000 x = true) := fun h x hx => by
            rw [take_snoc hr] at hx
            rcases List.mem_append.1 hx with hx | hx
            · exact HI.out x hx
            · rw [List.mem_singleton.1 hx]; exact h
          have Hbad : Hid (inB (-40000) 40000 r = false → ¬ ∀ r ∈ L, inB (-40000) 40000 r = true) := fun h h2 => by rw [h2 r hmem] at h; cases h
          clear hrange hr hmem hb
          generalize hys : ints .i64 r = ys at *
          clear hys
          go_wp2_with (first
            | (refine wpList_load_mid rfl 31 (.tmp 31) rfl g (o + k * 64) rfl ys _ hrg Try.underlying31 rfl (info_blkn Hl.out) ?_)
            | (refine wpList_store_new wr rfl 31 (.tmp 10) (.tmp 32) rfl zeroB.toArray ys rfl rfl (info_blkn Hl.out) (by rw [Hl.out]; rfl) hone ?_)
            | (refine wpList_load_mid rfl 31 (.tmp 10) rfl wr.heap.size 0 rfl ys _ hr2 Try.underlying31 rfl (info_blkn Hl.out) ?_)
            | fail)
          refine (HC.out _).mono ?_
          rintro e w2 ⟨rfl, hb3⟩
          have hb4 := veil (hb2.trans (hb3.mono hb2.size))
          clear hrg hr2 hb2 hb3 HC
          cases hin : inB (-40000) 40000 r with
          | true =>
            have HI2 := veil (HIn.out hin)
            clear hin HIn HI
            go_wp2_with fail
            go_roundg (L.length - (k + 1))
            case rel => exact ⟨k + 1, rfl, by omega, by go_num, HI2, hb4⟩
            case measure => omega
          | false =>
            have hE1 := HE2.out
            rw [if_neg (Hbad.out hin)] at hE1
            have hO1 := HOe.out (by rw [hE1]; decide)
            subst hO1
            have HE1 := veil hE1
            clear hin HIn HI hE1
            go_wp2_with fail
            go_ret2
            exact ⟨_, ret_two rfl (by rw [HE1.out]; rfl), Hempty.out _ hb4.out, hb4.out⟩
        · obtain rfl : k = L.length := by omega
          have hi := HI.out
          rw [List.take_length] at hi
          have hE0 := HE2.out
          rw [if_pos hi] at hE0
          have hOc := HOk.out hE0
          have HE0 := veil hE0; have HOc := veil hOc; have Hin := veil hi
          clear hE0 hOc hi HI HE2 HOk HOe hlt HW
          obtain ⟨W0, rfl⟩ : ∃ W0 : World, W0 = wr := ⟨_, rfl⟩
          have HO0 : Hid (Owns w.heap.size [intRow 3 .i64 (.slice none 0 0) (joinK L W (W * 0))] W0) := Hempty.out _ HB.out
          go_wp2_with fail
          go_loopg [11, 38] H (fun gk ov iv wr => ∃ a : Nat, gk = H - a ∧ a ≤ H ∧ iv = .int .i64 (a : Int) ∧ Hid (Owns w.heap.size [intRow 3 .i64 ov (joinK L W (W * a))] wr) ∧ Hid (Below w.heap.size w wr))
          case atStart => exact ⟨0, rfl, Nat.zero_le _, rfl, HO0, HB⟩
          case round =>
            clear HO0 HB
            obtain ⟨a, rfl, ha, rfl, HO, HB⟩ := hrel
            obtain ⟨W2, rfl⟩ : ∃ W2 : World, W2 = wr := ⟨_, rfl⟩
            by_cases haq : a < H
            · have haz : (a : Int) < (H : Int) := by omega
              have HO1 : Hid (Owns w.heap.size [intRow 3 .i64 u11 (joinK L W (W * a + 0))] W2) := HO
              have HB1 := HB
              clear HO HB
              go_wp2_with fail
              go_loopg [11, 42] W (fun gk ov iv wr => ∃ b : Nat, gk = W - b ∧ b ≤ W ∧ iv = .int .i64 (b : Int) ∧ Hid (Owns w.heap.size [intRow 3 .i64 ov (joinK L W (W * a + b))] wr) ∧ Hid (Below w.heap.size w wr))
              case atStart => exact ⟨0, rfl, Nat.zero_le _, rfl, HO1, HB1⟩
              case round =>
                clear HO1 HB1
                obtain ⟨b, rfl, hb, rfl, HO, HB⟩ := hrel
                by_cases hbq : b < W
                · have hbz : (b : Int) < (W : Int) := by omega
                  have hpl := places haq hbq
                  have hB := HB.out
                  obtain ⟨P, hP⟩ : ∃ P, P = acrossN W := ⟨_, rfl⟩
                  have hP8 : P ≤ 8 ∧ P = (W + 7) / 8 := by rw [hP]; unfold acrossN; omega
                  obtain ⟨q, hq⟩ : ∃ q : Nat, q = a / 8 := ⟨_, rfl⟩
                  obtain ⟨q2, hq2⟩ : ∃ q2 : Nat, q2 = b / 8 := ⟨_, rfl⟩
                  obtain ⟨r, hr⟩ : ∃ r : Nat, r = a % 8 := ⟨_, rfl⟩
                  obtain ⟨r2, hr2⟩ : ∃ r2 : Nat, r2 = b % 8 := ⟨_, rfl⟩
                  obtain ⟨r8, hr8⟩ : ∃ r8 : Nat, r8 = r * 8 := ⟨_, rfl⟩
                  obtain ⟨j2, hj2⟩ : ∃ j2 : Nat, j2 = r8 + r2 := ⟨_, rfl⟩
                  obtain ⟨p1, hp1⟩ : ∃ p1 : Nat, p1 = q * P := ⟨_, rfl⟩
                  obtain ⟨ix, hix⟩ : ∃ ix : Nat, ix = p1 + q2 := ⟨_, rfl⟩
                  obtain ⟨w7, hw7⟩ : ∃ w7 : Nat, w7 = W + 7 := ⟨_, rfl⟩
                  have hixl : ix < L.length := by
                    have := hpl.1
                    rw [← hP, ← hq, ← hq2, ← hp1, ← hix, ← HN.out, ← Hlen.out] at this
                    exact this
                  obtain ⟨g, o, rr, rfl, hg, hrr, hrl, hrange⟩ := hs.row hL (by omega) hixl
                  have hrg := range_below hrange hB (by omega)
                  have hmem := List.mem_of_getElem? hrr
                  obtain ⟨v, hv⟩ := some_at (xs := rr) (j := j2) (by omega)
                  have hvi : -40000 ≤ v ∧ v ≤ 40000 := inB_at (Hin.out rr hmem) hv
                  have hpix : pixAt L W (W * a + b) = clampZ (v + 128) 0 255 := by
                    have hd := mul_div_at (W := W) (y := a) hbq
                    unfold pixAt
                    rw [hd.1, hd.2, ← hP, ← hq, ← hq2, ← hp1, ← hix, getD_of hrr, ← hr, ← hr2, ← hr8, ← hj2, getD_of hv]
                  obtain ⟨pv, hpv⟩ : ∃ pv, pv = clampZ (v + 128) 0 255 := ⟨_, rfl⟩
                  have hnx : joinK L W (W * a + (b + 1)) = joinK L W (W * a + b) ++ [pv] := by rw [hpv, ← hpix]; exact joinK_next L W (W * a + b)
                  have Hnx := veil hnx
                  have Hl : Hid ((ints .i64 rr).length = 64) := by show _ = _; rw [ints_length, hrl]
                  have hone := ints_one (k := .i64) (l := rr)
                  have hcv : (wr.alloc (.cells (ints .i64 rr).toArray 31)).cell? ⟨wr.heap.size, j2, none⟩ = some (.int .i64 v) := (Blk.new wr (ints .i64 rr) 31).cell (ints_at hv)
                  have HCl := veil (refClamp_any (v + 128) 0 255 (wr.alloc (.cells (ints .i64 rr).toArray 31)))
                  rw [← hpv] at HCl
                  have HOa := veil (HO.out.alloc (.cells (ints .i64 rr).toArray 31))
                  have HBa := veil (hB.alloc hB.size (.cells (ints .i64 rr).toArray 31))
                  have hcl : (joinK L W (W * a + b)).length ≤ 4096 := by
                    rw [joinK_length]
                    have := Nat.mul_le_mul hW1.2 (show a ≤ 63 by omega)
                    omega
                  obtain ⟨cc, hcc⟩ : ∃ cc, cc = joinK L W (W * a + b) := ⟨_, rfl⟩
                  rw [← hcc] at Hnx HOa hcl
                  have z1 : (a : Int) / 8 = (q : Int) := by omega
                  have z2 : (W : Int) + 7 = (w7 : Int) := by omega
                  have z3 : (w7 : Int) / 8 = (P : Int) := by omega
                  have z4 : (q : Int) * (P : Int) = (p1 : Int) := by rw [hp1]; simp
                  have z5 : (b : Int) / 8 = (q2 : Int) := by omega
                  have z6 : (p1 : Int) + (q2 : Int) = (ix : Int) := by omega
                  have z7 : (a : Int) % 8 = (r : Int) := by omega
                  have z8 : (r : Int) * 8 = (r8 : Int) := by omega
                  have z9 : (b : Int) % 8 = (r2 : Int) := by omega
                  have z10 : (r8 : Int) + (r2 : Int) = (j2 : Int) := by omega
                  have b1 : q < 8 ∧ q2 < 8 ∧ r < 8 ∧ r2 < 8 ∧ r8 < 64 ∧ j2 < 64 ∧ w7 < 72 ∧ P ≤ 8 ∧ p1 < 64 ∧ ix < 64 := by omega
                  have hixz : (ix : Int) < (L.length : Int) := by omega
                  clear HO hrange hmem hv hpix hpv hnx hcc hrr hr hr2 hq hq2 hr8 hj2 hp1 hix hw7 hP hP8 hpl hB
                  generalize hys : ints .i64 rr = ys at *
                  clear hys
                  go_wp2_with (first
                    | (refine wpList_load_mid rfl 31 (.tmp 55) rfl g (o + ix * 64) rfl ys _ hrg Try.underlying31 rfl (info_blkn Hl.out) ?_)
                    | (refine wpList_store_new wr rfl 31 (.tmp 14) (.tmp 56) rfl zeroB.toArray ys rfl rfl (info_blkn Hl.out) (by rw [Hl.out]; rfl) hone ?_)
                    | fail)
                  refine HCl.out.mono ?_
                  rintro e wq ⟨rfl, hwq⟩
                  rw [← hwq] at HOa HBa
                  clear HCl hrg hcv hone hwq
                  go_wp2_with (first
                    | (at_builtin; go_loud (refine wpList_ownI _ rfl (.tmp 57) (.tmp 68) _ rfl w.heap.size 3 .i64 8 elem_int u11 cc [] rfl HOa.out [pv] rfl (by unfold maxLen; simp; omega) (by simp; omega) ?_); intro v6 w6 HO6 hb6 hz6)
                    | fail)
                  have hO8 : Hid (Owns w.heap.size [intRow 3 .i64 v6 (joinK L W (W * a + (b + 1)))] w6) := veil (by rw [Hnx.out]; exact HO6)
                  have hb8 := veil (HBa.out.trans hb6)
                  go_roundg (W - (b + 1))
                  case rel => exact ⟨b + 1, rfl, by omega, by go_num, hO8, hb8⟩
                  case measure => omega
                · obtain rfl : W = b := by omega
                  have hbz : ¬ (W : Int) < (W : Int) := by omega
                  have HO2 : Hid (Owns w.heap.size [intRow 3 .i64 u11 (joinK L W (W * (a + 1)))] wr) := HO
                  clear HO
                  go_wp2_with fail
                  go_roundg (H - (a + 1))
                  case rel => exact ⟨a + 1, rfl, by omega, by go_num, HO2, HB⟩
                  case measure => omega
            · obtain rfl : H = a := by omega
              have hmz : ¬ (H : Int) < (H : Int) := by omega
              have HO3 : Hid (Owns w.heap.size [intRow 3 .i64 u11 O] W2) := veil (by rw [HOc.out]; exact HO.out)
              have HE1 := HE0
              clear HO
              go_wp2_with fail
              go_ret2
              exact ⟨_, ret_two rfl (by rw [HE1.out]; rfl), HO3.out, HB.out⟩
    · have hlz : ((L.length : Int) != (N : Int)) = true := by simp; omega
      have hE1 := HL4.out hlen
      have hO1 := HOe.out (by rw [hE1]; decide)
      subst hO1
      have HE1 := veil hE1
      clear hE1 hlen HL4 HL0
      go_wp2_with fail
      go_ret2
      exact ⟨_, ret_two rfl (by rw [HE1.out]; rfl), Hempty.out _ (Below.refl _ _), Below.refl _ _⟩
end Go.Proofs.Ytgajlplmpbaanaa

/- What plane's Cut, Many and Join are to do, as the laws use it. -/
namespace Go.Proofs.Ytgajlplmpbaanaa
open Go.RowKit
set_option linter.unusedVariables false
set_option linter.unusedSimpArgs false
set_option maxRecDepth 100000

/-- plane.Many's contract. -/
def PManySpec : Prop := ∀ (x y : Int) (w : World), In64 x → In64 y →
    Calls Try.prog 11 #[.int .i64 x, .int .i64 y] w fun e w' => e = .returned (.tuple #[.int .i64 (oMany x y), .int .i64 (eSides x y)]) ∧ Below w.heap.size w w'
theorem many01_any (HM : PManySpec) (w : World) : Calls Try.prog 11 #[.int .i64 0, .int .i64 1] w fun e w' => e = .returned (.tuple #[.int .i64 0, .int .i64 1]) ∧ Below w.heap.size w w' :=
  HM 0 1 w (by unfold In64; omega) (by unfold In64; omega)
/-- plane.Join's contract. -/
def PJoinSpec : Prop := ∀ (L : List (List Int)) (A : Option Addr) (c G : Nat) (x y : Int) (w : World), (∀ r ∈ L, r.length = 64) → (∀ r ∈ L, ∀ z ∈ r, In64 z) → Seen w G A (rowsC L) → L.length ≤ maxLen → L.length ≤ c → In64 x → In64 y → G ≤ w.heap.size →
    Calls Try.prog 13 #[.slice A L.length c, .int .i64 x, .int .i64 y] w fun e w' => ∃ v, e = .returned (.tuple #[v, .int .i64 (eJoin L x y)]) ∧ Owns w.heap.size [intRow 3 .i64 v (oJoin L x y)] w' ∧ Below w.heap.size w w'
theorem oJoin_len (L : List (List Int)) (x y : Int) : (oJoin L x y).length ≤ 4096 := by
  unfold oJoin
  by_cases h : eJoin L x y = 0
  · rw [if_pos h]
    show (joinK _ _ _).length ≤ _
    rw [joinK_length]
    by_cases hb : badWH x y
    · rw [eJoin_bad hb] at h; omega
    · unfold badWH at hb
      have : x.toNat ≤ 64 := by omega
      have h2 : y.toNat ≤ 64 := by omega
      exact Nat.mul_le_mul this h2
  · rw [if_neg h]; simp
end Go.Proofs.Ytgajlplmpbaanaa

/- The reference's comparison of two lists of numbers tells whether they are equal. -/
namespace Go.Proofs.Ytgajlplmpbaanaa
open Go.RowKit
set_option linter.unusedVariables false
set_option linter.unusedSimpArgs false
set_option maxRecDepth 100000

set_option maxHeartbeats 400000 in
theorem eqInt (A B : Option Addr) (c d G : Nat) (xs ys : List Int) (w : World) (hx : Seen w G A (ints .i64 xs)) (hy : Seen w G B (ints .i64 ys)) (hlx : xs.length ≤ maxLen) (hly : ys.length ≤ maxLen) :
    Calls Try.prog 16 #[.slice A xs.length c, .slice B ys.length d] w fun e w' => e = .returned (.bool (decide (xs = ys))) ∧ w = w' := by
  unfold maxLen at hlx hly
  by_cases hl : xs.length = ys.length
  · have hne : ((xs.length : Int) != (ys.length : Int)) = false := by simp [hl]
    have Hl := veil hl
    clear hl
    go_enter Try.func16, Try.ntmps16
    go_wp2
    go_loop [5, 6, 14] (fun _ _ i => ∃ k : Nat, k ≤ xs.length ∧ i = .int .i64 k ∧ Hid (xs.take k = ys.take k)) (fun _ _ i => xs.length - (intOf i).toNat)
    case atStart => exact ⟨0, Nat.zero_le _, rfl, veil rfl⟩
    case round =>
      obtain ⟨k, hk, rfl, He⟩ := hrel
      by_cases hlt : k < xs.length
      · have hky : (k : Int) < (ys.length : Int) := by have := Hl.out; omega
        obtain ⟨g, o, x, rfl, _, hxk, h1⟩ := hx.int hlt
        obtain ⟨g', o', y, rfl, _, hyk, h2⟩ := hy.int (k := k) (by omega)
        have Hx := veil hxk; have Hy := veil hyk
        clear hxk hyk
        by_cases hxy : x = y
        · obtain rfl := hxy
          have hb : (x != x) = false := by simp
          go_wp2
          go_round
          case rel => exact ⟨k + 1, by omega, by go_num, veil (by rw [take_snoc Hx.out, take_snoc Hy.out, He.out])⟩
          case measure => simp [intOf]; omega
        · have hb : (x != y) = true := by simpa using hxy
          go_wp2
          go_ret
          refine ⟨ret_bool ?_, rfl⟩
          symm
          simp only [decide_eq_false_iff_not]
          intro e
          have h3 := Hx.out
          rw [e, Hy.out] at h3
          exact hxy (by injection h3 with h3; exact h3.symm)
      · go_wp2
        go_ret
        refine ⟨ret_bool ?_, rfl⟩
        symm
        have h3 := He.out
        rw [List.take_of_length_le (by omega), List.take_of_length_le (by have := Hl.out; omega)] at h3
        simpa using h3
  · have hne : ((xs.length : Int) != (ys.length : Int)) = true := by simp; omega
    have hd : decide (xs = ys) = false := by simp; intro e; exact hl (by rw [e])
    have Hd := veil hd
    clear hd hl
    go_enter Try.func16, Try.ntmps16
    go_wp2
    go_ret
    exact ⟨ret_bool Hd.out.symm, rfl⟩
end Go.Proofs.Ytgajlplmpbaanaa
