/- Texts shared by the claims of this seat, in one. -/
import Derived.Below
import Derived.WalkKit
import Derived.Laws.OwnMore
import Derived.Deep.Draws
import Derived.Deep.QuietTactic
import Derived.BigQuiet
import Derived.Laws.AppendOwn
import Derived.OwnWalk
import Derived.Deep.LoopGhost
import Derived.Deep.RegionHeld3
import Derived.Maps.AppendAt
import Derived.Deep.AppendLies
import Derived.Deep.MidRow
import Derived.Deep.WholeRow
import Derived.Test.YtgajlplmpbaanaaRows
import Derived.Laws.ResultCell
import Derived.ChangeKeysEq
import Derived.OpenShut
import Derived.Great.BuildSlice
import Derived.Laws.MakeOwn
import Derived.Deep.Cut
import Derived.Deep.DeepCutAuto
/- Words for memory that all walks share: a slice that reads as a list of cells, kept over what a call may do. No program is named here. -/
namespace Go.RowKit
theorem Below.drewN {B : Nat} {a w : World} (h : Below B a w) (n : Nat) : Below B a (w.drewN n) := ⟨h.os, h.tape, h.output, h.size, h.block⟩
end Go.RowKit
namespace Go.Proofs.Ytgajlplmpbaanaa
open Go.RowKit
set_option linter.unusedVariables false
set_option linter.unusedSimpArgs false
set_option maxRecDepth 100000

/-- A fact put out of the walk's sight. -/
theorem veil {p : Prop} (h : p) : Hid p := h

/-- The cells from address A on are xs, and they lie below block B. -/
def Seen (w : World) (B : Nat) (A : Option Addr) (xs : List Value) : Prop :=
  xs = [] ∨ ∃ g o, A = some ⟨g, o, none⟩ ∧ g < B ∧ ∀ j u, xs[j]? = some u → w.cell? ⟨g, o + j, none⟩ = some u

theorem Seen.nil (w : World) (B : Nat) (A : Option Addr) : Seen w B A [] := .inl rfl

theorem Seen.of (w w' : World) {B : Nat} {A : Option Addr} {xs : List Value} (h : Seen w B A xs) (hk : ∀ p : Addr, p.block < B → w'.cell? p = w.cell? p) : Seen w' B A xs := by
  rcases h with h | ⟨g, o, e, hg, hc⟩
  · exact .inl h
  · exact .inr ⟨g, o, e, hg, fun j u hu => (hk _ hg).trans (hc j u hu)⟩

theorem Seen.below {w w' : World} {B C : Nat} {A : Option Addr} {xs : List Value} (h : Seen w B A xs) (hb : Below C w w') (hBC : B ≤ C) : Seen w' B A xs :=
  h.of w w' fun _ hp => hb.cell (Nat.lt_of_lt_of_le hp hBC)

theorem Seen.up {w : World} {B B' : Nat} {A : Option Addr} {xs : List Value} (h : Seen w B A xs) (hB : B ≤ B') : Seen w B' A xs := by
  rcases h with h | ⟨g, o, e, hg, hc⟩
  · exact .inl h
  · exact .inr ⟨g, o, e, Nat.lt_of_lt_of_le hg hB, hc⟩

theorem Seen.at {w : World} {B : Nat} {A : Option Addr} {xs : List Value} (h : Seen w B A xs) (hne : 0 < xs.length) :
    ∃ g o, A = some ⟨g, o, none⟩ ∧ g < B ∧ ∀ j u, xs[j]? = some u → w.cell? ⟨g, o + j, none⟩ = some u := by
  rcases h with h | h
  · subst h; simp at hne
  · exact h

/-- Integers in a row. -/
def ints (k : IntKind) (xs : List Int) : List Value := xs.map (Value.int k)
theorem ints_length (k : IntKind) (xs : List Int) : (ints k xs).length = xs.length := by simp [ints]
theorem ints_at {k : IntKind} {xs : List Int} {j : Nat} {x : Int} (h : xs[j]? = some x) : (ints k xs)[j]? = some (.int k x) := by
  simp [ints, h]
theorem some_at {α : Type} {xs : List α} {j : Nat} (h : j < xs.length) : ∃ x, xs[j]? = some x := ⟨xs[j], List.getElem?_eq_getElem h⟩
theorem take_snoc {α : Type} {xs : List α} {k : Nat} {x : α} (h : xs[k]? = some x) : xs.take (k + 1) = xs.take k ++ [x] := by
  rw [List.take_add_one, h]; rfl
/-- One number of a row that came in, with its cell. -/
theorem Seen.int {w : World} {B : Nat} {A : Option Addr} {kd : IntKind} {xs : List Int} (h : Seen w B A (ints kd xs)) {k : Nat} (hk : k < xs.length) :
    ∃ g o x, A = some ⟨g, o, none⟩ ∧ g < B ∧ xs[k]? = some x ∧ w.cell? ⟨g, o + k, none⟩ = some (.int kd x) := by
  obtain ⟨g, o, e, hg, hc⟩ := h.at (by rw [ints_length]; omega)
  obtain ⟨x, hx⟩ := some_at hk
  exact ⟨g, o, x, e, hg, hx, hc k _ (ints_at hx)⟩
/-- A block that was just laid. -/
theorem Seen.new (w : World) (xs : List Value) (t : TypeId) (B : Nat) (hB : w.heap.size < B) : Seen (w.alloc (.cells xs.toArray t)) B (some ⟨w.heap.size, 0, none⟩) xs := by
  refine .inr ⟨_, _, rfl, hB, fun j u hu => ?_⟩
  rw [World.cell?_alloc_at _ _ _ _ rfl]
  simpa using hu
theorem Seen.alloc {w : World} {B : Nat} {A : Option Addr} {xs : List Value} (h : Seen w B A xs) (hB : B ≤ w.heap.size) (o : Obj) : Seen (w.alloc o) B A xs :=
  h.of w _ fun p hp => World.cell?_alloc_lt w o p (Nat.lt_of_lt_of_le hp hB)
theorem below1 (w : World) (a : Obj) : Below w.heap.size w (w.alloc a) := (Below.refl _ _).alloc (Nat.le_refl _) a
theorem below2 (w : World) (a b : Obj) : Below w.heap.size w ((w.alloc a).alloc b) := (below1 w a).alloc (by simp) b
theorem addr_add (g o j : Nat) : (⟨g, o, none⟩ : Addr).add j = ⟨g, o + j, none⟩ := by
  unfold Addr.add; split
  · rename_i e; subst e; rfl
  · rfl
theorem ints_one {k : IntKind} {l : List Int} : ∀ u ∈ ints k l, u.oneCell' = true := by
  intro u hu
  simp only [ints, List.mem_map] at hu
  obtain ⟨f, _, rfl⟩ := hu
  rfl
/-- What an append is about: the element's type and sizes. -/
structure ElemOf (P : Program) (t e : TypeId) (size bytes : Nat) : Prop where
  ht : P.underlying t = some (.slice e)
  pos : 0 < size
  hi : ∃ i z, P.info? e = some i ∧ i.zero = some z ∧ i.size = size ∧ i.bytes = bytes ∧ z.cells.size = size
theorem ElemOf.mk' {P : Program} {t e : TypeId} {size bytes : Nat} {z : Value} (ht : P.underlying t = some (.slice e)) (hinfo : (P.info? e).map (fun i => (i.zero, i.size, i.bytes)) = some (some z, size, bytes)) (hz : z.cells.size = size) (hp : 0 < size) : ElemOf P t e size bytes := by
  obtain ⟨i, hi, h0, h1, h2⟩ := info_parts hinfo
  exact ⟨ht, hp, i, z, hi, h0, h1, h2, hz⟩
/-- What the call owns stays its own over what leaves all blocks so far alone. -/
theorem own_below {w w' : World} {B : Nat} {e : TypeId} {size : Nat} {v : Value} {n : Nat} {xs : List Value} (h : w.ownsRow B e size v n xs) (hb : Below w.heap.size w w') : w'.ownsRow B e size v n xs := by
  obtain ⟨h1, h2⟩ := h
  refine ⟨h1, ?_⟩
  rcases h2 with h2 | ⟨g, cap, cur, hv, hg, hh, r⟩
  · exact .inl h2
  · have hlt : g < w.heap.size := by
      rcases Nat.lt_or_ge g w.heap.size with hl | hl
      · exact hl
      · rw [Array.getElem?_eq_none hl] at hh; cases hh
    exact .inr ⟨g, cap, cur, hv, hg, by rw [hb.block g hlt]; exact hh, r⟩
theorem own_base {w : World} {B B' : Nat} {e : TypeId} {size : Nat} {v : Value} {n : Nat} {xs : List Value} (h : w.ownsRow B e size v n xs) (hB : B' ≤ B) : w.ownsRow B' e size v n xs := by
  obtain ⟨h1, h2⟩ := h
  refine ⟨h1, ?_⟩
  rcases h2 with h2 | ⟨g, cap, cur, hv, hg, r⟩
  · exact .inl h2
  · exact .inr ⟨g, cap, cur, hv, Nat.le_trans hB hg, r⟩
theorem own_form' {w : World} {B : Nat} {e : TypeId} {size : Nat} {v : Value} {n : Nat} {xs : List Value} (h : w.ownsRow B e size v n xs) : ∃ A c, v = .slice A n c ∧ Seen w w.heap.size A xs ∧ n ≤ c ∧ c ≤ maxLen := by
  obtain ⟨h1, h2⟩ := h
  rcases h2 with ⟨rfl, rfl⟩ | ⟨g, cap, cur, rfl, hg, hh, hn, hc, hs, ht⟩
  · exact ⟨none, 0, rfl, .inl (by simpa using h1), Nat.le_refl _, Nat.zero_le _⟩
  · refine ⟨_, _, rfl, .inr ⟨g, 0, rfl, ?_, fun j u hu => ?_⟩, hn, hc⟩
    · rcases Nat.lt_or_ge g w.heap.size with hl | hl
      · exact hl
      · rw [Array.getElem?_eq_none hl] at hh; cases hh
    · have hj : j < n * size := by have := (List.getElem?_eq_some_iff.1 hu).1; omega
      rw [← ht, List.getElem?_take, if_pos hj] at hu
      simp [World.cell?, hh]
      simpa using hu
theorem ret_two {a a' b b' : Value} (h : a = a') (k : b = b') : Ending.returned (.tuple #[a, b]) = .returned (.tuple #[a', b']) := by rw [h, k]
theorem ret_bool {a b : Bool} (h : a = b) : Ending.returned (.bool a) = .returned (.bool b) := by rw [h]
end Go.Proofs.Ytgajlplmpbaanaa

/- A number of 64 bits. -/
namespace Go.Proofs.Ytgajlplmpbaanaa
def In64 (n : Int) : Prop := -9223372036854775808 ≤ n ∧ n ≤ 9223372036854775807
end Go.Proofs.Ytgajlplmpbaanaa

/- Rows of the call's own, any number of them, that lie apart: what an append, a new block and a call do to them. No program is named here. -/
namespace Go.Proofs.Ytgajlplmpbaanaa
open Go.RowKit
set_option linter.unusedVariables false
set_option linter.unusedSimpArgs false
set_option maxRecDepth 100000

structure Row where
  e : TypeId
  size : Nat
  v : Value
  n : Nat
  xs : List Value
def Row.apart (r s : Row) : Prop := ∀ g, r.v.ownBlock = some g → s.v.ownBlock ≠ some g
theorem Row.apart.symm {r s : Row} (h : r.apart s) : s.apart r := fun g hg hr => h g hr hg

/-- The rows lie in memory from block B on, no two in one block. -/
structure Owns (B : Nat) (rs : List Row) (w : World) : Prop where
  base : B ≤ w.heap.size
  each : ∀ r ∈ rs, w.ownsRow B r.e r.size r.v r.n r.xs
  apart : rs.Pairwise Row.apart

section
variable {B : Nat} {rs ts : List Row} {r s : Row} {w w' : World}
theorem Owns.nil {B : Nat} {w : World} (h : B ≤ w.heap.size) : Owns B [] w := ⟨h, by simp, .nil⟩
theorem Owns.head (h : Owns B (r :: rs) w) : w.ownsRow B r.e r.size r.v r.n r.xs := h.each r (by simp)
theorem Owns.tail (h : Owns B (r :: rs) w) : Owns B rs w := ⟨h.base, fun x hx => h.each x (by simp [hx]), (List.pairwise_cons.1 h.apart).2⟩
theorem Owns.fresh (h : Owns B rs w) (e : TypeId) (size : Nat) : Owns B (⟨e, size, .slice none 0 0, 0, []⟩ :: rs) w :=
  ⟨h.base, fun x hx => by
    rcases List.mem_cons.1 hx with rfl | hx
    · exact World.ownsRow_nil _ _ _ _
    · exact h.each x hx, List.pairwise_cons.2 ⟨fun s _ g hg => (by cases hg), h.apart⟩⟩
theorem Owns.below (h : Owns B rs w) (hb : Below w.heap.size w w') : Owns B rs w' := ⟨Nat.le_trans h.base hb.size, fun x hx => own_below (h.each x hx) hb, h.apart⟩
theorem Owns.alloc (h : Owns B rs w) (o : Obj) : Owns B rs (w.alloc o) := ⟨by have := h.base; simp; omega, fun x hx => (h.each x hx).alloc o, h.apart⟩
theorem Owns.drew (h : Owns B rs w) : Owns B rs w.drew := ⟨h.base, fun x hx => h.each x hx, h.apart⟩
theorem Owns.drewN (h : Owns B rs w) (n : Nat) : Owns B rs (w.drewN n) := h.below ((Below.refl _ _).drewN n)
/-- What a call hands back lies apart from what was there. -/
theorem Owns.call (h : Owns B rs w) (hb : Below w.heap.size w w') (h2 : Owns w.heap.size ts w') : Owns B (ts ++ rs) w' := by
  have hB := h.base
  refine ⟨Nat.le_trans hB hb.size, fun x hx => ?_, List.pairwise_append.2 ⟨h2.apart, h.apart, fun a ha b hb' g hg hgb => ?_⟩⟩
  · rcases List.mem_append.1 hx with hx | hx
    · exact own_base (h2.each x hx) hB
    · exact own_below (h.each x hx) hb
  · have h3 := ((h2.each a ha).lt g hg).1
    have h4 := ((h.each b hb').lt g hgb).2
    omega
theorem Owns.one (hB : B ≤ w.heap.size) (h : w.ownsRow B r.e r.size r.v r.n r.xs) : Owns B [r] w := ⟨hB, fun x hx => by simp at hx; subst hx; exact h, List.pairwise_singleton _ _⟩
theorem Owns.made (h : Owns B rs w) (e : TypeId) (size : Nat) (cur : Array Value) (cap : Nat) (hm : cap ≤ maxLen) (hs : cur.size = cap * size) :
    Owns B (⟨e, size, .slice (some ⟨w.heap.size, 0, none⟩) 0 cap, 0, []⟩ :: rs) (w.alloc (.cells cur e)) :=
  h.call (below1 _ _) (ts := [⟨e, size, .slice (some ⟨w.heap.size, 0, none⟩) 0 cap, 0, []⟩]) (.one (by simp) (World.ownsRow_made _ _ _ (Nat.le_refl _) hm hs))
theorem Owns.seen (h : Owns B rs w) (hr : r ∈ rs) : ∃ A c, r.v = .slice A r.n c ∧ Seen w w.heap.size A r.xs ∧ r.n ≤ c ∧ c ≤ maxLen := own_form' (h.each r hr)
end

/-- append of what is seen onto the first of the rows. -/
theorem run_ownV {P : Program} (w : World) (B : Nat) (t ty e : TypeId) (size bytes : Nat) (he : ElemOf P t e size bytes)
    (v : Value) (n : Nat) (xs : List Value) (rs : List Row) (HO : Owns B (⟨e, size, v, n, xs⟩ :: rs) w) (G : Nat) (A : Option Addr) (m c : Nat) (news : List Value) (hsee : Seen w G A news) (hl : news.length = m * size) (h1 : ∀ u ∈ news, u.oneCell' = true)
    (h63 : n + m ≤ maxLen) (hbytes : (n + m) * bytes ≤ 140737488355328) :
    ∃ v' w', (Builtin.append_ #[t, t] ty #[v, .slice A m c]).run P w = .ok v' w' ∧ Owns B (⟨e, size, v', n + m, xs ++ news⟩ :: rs) w' ∧ w.grownBy w' v.ownBlock ∧ Below B w w' := by
  have hown := HO.head
  have hB := HO.base
  have hap := (List.pairwise_cons.1 HO.apart).1
  obtain ⟨ht, hp, i, z, hi, hz0, hz1, hz2, hzs⟩ := he
  have fin : ∀ v' w', w'.ownsRow B e size v' (n + m) (xs ++ news) → w.grownBy w' v.ownBlock → (v'.ownBlock = v.ownBlock ∨ v'.ownBlock = some w.heap.size) → Owns B (⟨e, size, v', n + m, xs ++ news⟩ :: rs) w' ∧ w.grownBy w' v.ownBlock ∧ Below B w w' := by
    intro v' w' h2 h3 h4
    refine ⟨⟨Nat.le_trans hB h3.size, fun x hx => ?_, List.pairwise_cons.2 ⟨fun s hs g hg => ?_, HO.tail.apart⟩⟩, h3, (Below.refl _ _).grown h3 hB fun k hk => (hown.lt k hk).1⟩
    · rcases List.mem_cons.1 hx with rfl | hx
      · exact h2
      · refine (HO.tail.each x hx).kept h3 ?_
        cases hv : x.v.ownBlock with
        | none => exact .inl rfl
        | some g => exact .inr fun e => hap x hx g e.symm hv
    · simp only at hg
      rcases h4 with h4 | h4
      · exact hap s hs g (h4.symm.trans hg)
      · rw [h4] at hg
        injection hg with hg
        intro hsg
        have := ((HO.tail.each s hs).lt g hsg).2
        omega
  rcases A with _ | ad
  · have hnews : news = [] := by
      rcases hsee with h | ⟨g, o, h, _⟩
      · exact h
      · cases h
    subst hnews
    have hm : m = 0 := by
      rcases Nat.eq_zero_or_pos m with h | h
      · exact h
      · have : 0 < m * size := Nat.mul_pos h hp
        simp at hl; omega
    subst hm
    refine ⟨v, w, ?_, fin v w (by simpa using hown) (World.grownBy.refl w _) (.inl rfl)⟩
    rcases hown.2 with ⟨h5, h6⟩ | ⟨g, cap, cur, h5, _, _, hnc, _⟩
    · simp only at h5 h6
      subst h5 h6
      simp [Builtin.append_, run_underlying ht, sizeOf, typeInfo, hi, Builtin.lenOf, Builtin.firstCells]
    · simp only at h5 hnc
      subst h5
      simp [Builtin.append_, run_underlying ht, sizeOf, typeInfo, hi, Builtin.lenOf, Builtin.firstCells, hnc, storeCells]
  · have hc : ∀ j u, news[j]? = some u → w.cell? (ad.add j) = some u := by
      rcases hsee with h | ⟨g, o, h, _, hc⟩
      · subst h; intro j u hu; simp at hu
      · injection h with h
        subst h
        intro j u hu
        rw [addr_add]
        exact hc j u hu
    obtain ⟨v', w', hr, h2, h3, _, h4⟩ := run_append_own_at (P := P) w B t ty e i z size bytes ht hi hz0 hz1 hz2 hzs hp v n xs hown ad m c news hl hc h1 h63 hbytes hB
    exact ⟨v', w', hr, fin v' w' h2 h3 h4⟩
theorem wp_ownV {P : Program} {o : Oper} {a : Act} {K : Act → World → Prop} {Q : Exit → Act → World → Prop} (w : World) (s x : Operand) (t : TypeId)
    (ho : o.op = .call { callee := .builtin .append, args := #[s, x], argTypes := #[t, t] })
    (B : Nat) (e : TypeId) (size bytes : Nat) (he : ElemOf P t e size bytes)
    (v : Value) (n : Nat) (xs : List Value) (rs : List Row) (hs : a.eval s = v) (HO : Owns B (⟨e, size, v, n, xs⟩ :: rs) w) (G : Nat) (A : Option Addr) (m c : Nat) (news : List Value) (hx : a.eval x = .slice A m c) (hsee : Seen w G A news) (hl : news.length = m * size) (h1 : ∀ u ∈ news, u.oneCell' = true)
    (h63 : n + m ≤ maxLen) (hbytes : (n + m) * bytes ≤ 140737488355328)
    (h : ∀ v' w', Owns B (⟨e, size, v', n + m, xs ++ news⟩ :: rs) w' → w.grownBy w' v.ownBlock → Below B w w' → K (a.put o.dst v') w') : o.wp P a w K Q := by
  obtain ⟨v', w', hr, h2, h3, h4⟩ := run_ownV (P := P) w B t o.type e size bytes he v n xs rs HO G A m c news hsee hl h1 h63 hbytes
  unfold Oper.wp execOp
  simp only [ho, resolve, invoke, builtin, Sem.run_bind, Sem.run_pure, Result.andThen_ok, List.map_toArray, List.map_cons, List.map_nil, hs, hx, hr]
  exact h v' w' h2 h3 h4
/-- A row of integers. -/
def intRow (e : TypeId) (k : IntKind) (v : Value) (l : List Int) : Row := ⟨e, 1, v, l.length, ints k l⟩
/-- Rows of integers, each behind a value of a list. -/
def SeenRows (w : World) (G : Nat) (k : IntKind) (vs : List Value) (ps : List (List Int)) : Prop :=
  vs.length = ps.length ∧ ∀ (j : Nat) (v : Value) (p : List Int), vs[j]? = some v → ps[j]? = some p → ∃ A c, v = .slice A p.length c ∧ Seen w G A (ints k p) ∧ p.length ≤ maxLen
section
variable {w w' : World} {G : Nat} {k : IntKind} {vs : List Value} {ps : List (List Int)}
theorem SeenRows.nil (w : World) (G : Nat) (k : IntKind) : SeenRows w G k [] [] := ⟨rfl, by simp⟩
theorem SeenRows.of (h : SeenRows w G k vs ps) (hk : ∀ A xs, Seen w G A xs → Seen w' G A xs) : SeenRows w' G k vs ps :=
  ⟨h.1, fun j v p hv hp => by obtain ⟨A, c, h1, h2, h3⟩ := h.2 j v p hv hp; exact ⟨A, c, h1, hk _ _ h2, h3⟩⟩
theorem SeenRows.below {C : Nat} (h : SeenRows w G k vs ps) (hb : Below C w w') (hG : G ≤ C) : SeenRows w' G k vs ps := h.of fun A xs hs => hs.below hb hG
theorem SeenRows.up {G' : Nat} (h : SeenRows w G k vs ps) (hG : G ≤ G') : SeenRows w G' k vs ps :=
  ⟨h.1, fun j v p hv hp => by obtain ⟨A, c, h1, h2, h3⟩ := h.2 j v p hv hp; exact ⟨A, c, h1, h2.up hG, h3⟩⟩
theorem SeenRows.at (h : SeenRows w G k vs ps) {j : Nat} (hj : j < ps.length) : ∃ A c p, vs[j]? = some (.slice A p.length c) ∧ ps[j]? = some p ∧ Seen w G A (ints k p) ∧ p.length ≤ maxLen := by
  obtain ⟨p, hp⟩ := some_at hj
  obtain ⟨v, hv⟩ := some_at (xs := vs) (j := j) (by rw [h.1]; exact hj)
  obtain ⟨A, c, e, hs, hl⟩ := h.2 j v p hv hp
  exact ⟨A, c, p, by rw [hv, e], hp, hs, hl⟩
/-- Out of rows of the call's own. -/
theorem Owns.rows {B : Nat} {e : TypeId} {rs : List Row} (h : Owns B rs w) (hl : vs.length = ps.length) (hr : ∀ (j : Nat) (v : Value) (p : List Int), vs[j]? = some v → ps[j]? = some p → intRow e k v p ∈ rs) : SeenRows w w.heap.size k vs ps := by
  refine ⟨hl, fun j v p hv hp => ?_⟩
  obtain ⟨A, c, h1, h2, h3, h4⟩ := h.seen (hr j v p hv hp)
  exact ⟨A, c, h1, h2, Nat.le_trans h3 h4⟩
end
theorem Seen.cell {w : World} {B : Nat} {A : Option Addr} {xs : List Value} (h : Seen w B A xs) {k : Nat} {u : Value} (hk : xs[k]? = some u) :
    ∃ g o, A = some ⟨g, o, none⟩ ∧ g < B ∧ w.cell? ⟨g, o + k, none⟩ = some u := by
  obtain ⟨g, o, e, hg, hc⟩ := h.at (by have := (List.getElem?_eq_some_iff.1 hk).1; omega)
  exact ⟨g, o, e, hg, hc k u hk⟩
end Go.Proofs.Ytgajlplmpbaanaa

/- Arrays and structs by value, of whatever number of cells: their load, their index; rows of triples. No program is named here. -/
namespace Go.Proofs.Ytgajlplmpbaanaa
open Go.RowKit
set_option linter.unusedVariables false
set_option linter.unusedSimpArgs false
set_option maxRecDepth 100000

theorem range_below {w w' : World} {B b o : Nat} {xs : List Value} (h : w.rangeAt b o xs) (hb : Below B w w') (hB : b < B) : w'.rangeAt b o xs := fun j v hv => (hb.cell (by exact hB)).trans (h j v hv)

end Go.Proofs.Ytgajlplmpbaanaa

/- A block whose cells are all known, and one cell of it written. No program is named here. -/
namespace Go.Proofs.Ytgajlplmpbaanaa
open Go.RowKit
set_option linter.unusedVariables false
set_option linter.unusedSimpArgs false
set_option maxRecDepth 100000

/-- Block b is these cells. -/
def Blk (w : World) (b : Nat) (xs : List Value) (t : TypeId) : Prop := w.heap[b]? = some (.cells xs.toArray t (0, 0))
section
variable {w w' : World} {b : Nat} {xs : List Value} {t : TypeId}
theorem Blk.new (w : World) (xs : List Value) (t : TypeId) : Blk (w.alloc (.cells xs.toArray t)) w.heap.size xs t := heap_alloc_last w _
theorem Blk.lt (h : Blk w b xs t) : b < w.heap.size := (Array.getElem?_eq_some_iff.1 h).1
theorem Blk.cell (h : Blk w b xs t) {i : Nat} {v : Value} (hv : xs[i]? = some v) : w.cell? ⟨b, i, none⟩ = some v := by
  rw [cell_of_row w b i _ _ _ h]; simpa using hv
theorem Blk.frozen (h : Blk w b xs t) (i : Nat) : w.frozen? ⟨b, i, none⟩ = false := frozen_of_row w b i _ _ h
theorem Blk.range (h : Blk w b xs t) : w.rangeAt b 0 xs := fun j v hv => by rw [Nat.zero_add]; exact h.cell hv
theorem Blk.below (h : Blk w b xs t) {C : Nat} (hb : Below C w w') (hC : b < C) : Blk w' b xs t := by
  unfold Blk at h ⊢; rw [hb.block b hC]; exact h
theorem Blk.set (h : Blk w b xs t) (i : Nat) (v : Value) : Blk (w.setCell ⟨b, i, none⟩ v) b (xs.set i v) t := by
  have := heap_setCell_same w b i xs.toArray t v h
  unfold Blk
  rw [this]
  simp
theorem Blk.drewN (h : Blk w b xs t) (n : Nat) : Blk (w.drewN n) b xs t := h
theorem Owns.setCell {B : Nat} {rs : List Row} (h : Owns B rs w) {a : Addr} (ha : a.block < B) (v : Value) : Owns B rs (w.setCell a v) := by
  refine ⟨by have := h.base; simpa [World.setCell] using this, fun r hr => ?_, h.apart⟩
  obtain ⟨h1, h2⟩ := h.each r hr
  refine ⟨h1, ?_⟩
  rcases h2 with h2 | ⟨g, cap, cur, hv, hg, hh, r⟩
  · exact .inl h2
  · exact .inr ⟨g, cap, cur, hv, hg, by rw [Below.heap_setCell _ _ _ _ (by omega)]; exact hh, r⟩
end
/-- A whole value into the block made last. -/
theorem wpList_store_new {P : Program} {ops : Array Oper} {rest : List Oper} {o : Oper} {a : Act} {Q : Exit → Act → World → Prop} (w0 : World) (hgd : o.guard = none) (t : TypeId) (x y : Operand) (ho : o.op = .store t x y) (c : Array Value) (c' : List Value)
    (hx : a.eval x = .pointer (some ⟨w0.heap.size, 0, none⟩)) (hy : a.eval y = .agg c'.toArray) (hi : (P.info? t).map (·.size) = some c'.length) (hsz : c.size = c'.length) (h1 : ∀ u ∈ c', u.oneCell' = true)
    (h : wpList P ops Q rest (a.put o.dst undef) (w0.alloc (.cells c'.toArray t))) : wpList P ops Q (o :: rest) a (w0.alloc (.cells c t)) := by
  refine wpList_plain hgd fun _ hK => ?_
  have hr := run_storeAt_new (P := P) w0 t c c'.toArray (by simpa using hi) (by simpa using hsz) (all_oneCell_toArray h1)
  unfold Oper.wp execOp
  simp only [ho, hx, hy, hr, Sem.run_bind, Sem.run_pure, Result.andThen_ok]
  exact hK _ _ h
theorem Blk.kept {w w' : World} {b : Nat} {xs : List Value} {t : TypeId} {r : Option Nat} (h : Blk w b xs t) (hg : w.grownBy w' r) (hr : some b ≠ r) : Blk w' b xs t := by
  unfold Blk at h ⊢
  rw [hg.block b (Array.getElem?_eq_some_iff.1 h).1 hr]; exact h
theorem Owns.kept {w w' : World} {B b : Nat} {rs : List Row} (h : Owns B rs w) (hg : w.grownBy w' (some b)) (hb : b < B) : Owns B rs w' := by
  refine ⟨Nat.le_trans h.base hg.size, fun r hr => (h.each r hr).kept hg ?_, h.apart⟩
  cases hv : r.v.ownBlock with
  | none => exact .inl rfl
  | some g => exact .inr fun e => by injection e with e; have := ((h.each r hr).lt g hv).1; omega
end Go.Proofs.Ytgajlplmpbaanaa

/- A block's value (64 numbers), and whether two are equal. -/
namespace Go.Proofs.Ytgajlplmpbaanaa
open Go.RowKit
set_option linter.unusedVariables false
set_option linter.unusedSimpArgs false
set_option maxRecDepth 100000

/-- A block's value. -/
abbrev blkV (cs : List Int) : Value := .agg (ints .i64 cs).toArray
theorem info_blk : (Try.prog.info? 31).map (·.size) = some 64 := by kernel_rfl
theorem info_blkn {xs : List Value} (h : xs.length = 64) : (Try.prog.info? 31).map (·.size) = some xs.length := by rw [h]; exact info_blk
theorem run_eqItems_ints {P : Program} (w : World) (d : Nat) {e : TypeId} {k : IntKind} (he : P.underlying e = some (.int k)) (hp : P.plainKey e = true) (cs ds : List Int) : ∀ (is : List Nat), (∀ i ∈ is, i < cs.length ∧ i < ds.length) →
    (Op.eqItems (d + 1) e 1 (ints k cs).toArray (ints k ds).toArray is).run P w = .ok (decide (∀ i ∈ is, cs[i]? = ds[i]?)) w
  | [], _ => by simp [Op.eqItems]
  | i :: is, h => by
    obtain ⟨h1, h2⟩ := h i (by simp)
    obtain ⟨x, hx⟩ := some_at h1
    obtain ⟨y, hy⟩ := some_at h2
    have p1 : (part e (ints k cs).toArray (i * 1)).run P w = .ok (.int k x) w := run_part_plain w hp (by simpa using ints_at (k := k) hx)
    have p2 : (part e (ints k ds).toArray (i * 1)).run P w = .ok (.int k y) w := run_part_plain w hp (by simpa using ints_at (k := k) hy)
    have ih := run_eqItems_ints w d he hp cs ds is fun j hj => h j (by simp [hj])
    simp only [Op.eqItems, Sem.run_bind, p1, p2, Result.andThen_ok, run_equalIn_int w d e k k x y he]
    by_cases hxy : x = y
    · subst hxy
      simp only [beq_self_eq_true, Bool.not_true, Bool.false_eq_true, if_false, ih]
      congr 1
      simp only [decide_eq_decide]
      constructor
      · intro h j hj
        rcases List.mem_cons.1 hj with rfl | hj
        · rw [hx, hy]
        · exact h j hj
      · intro h j hj; exact h j (by simp [hj])
    · have hb : (x == y) = false := by simpa using hxy
      simp only [hb, Bool.not_false, if_true, Sem.run_pure]
      congr 1
      symm
      simp only [decide_eq_false_iff_not]
      intro h3
      have := h3 i (by simp)
      rw [hx, hy] at this
      exact hxy (by injection this)
theorem ext64 {cs ds : List Int} (hc : cs.length = 64) (hd : ds.length = 64) : (∀ i ∈ List.range 64, cs[i]? = ds[i]?) ↔ cs = ds := by
  constructor
  · intro h
    apply List.ext_getElem?
    intro i
    by_cases hi : i < 64
    · exact h i (List.mem_range.2 hi)
    · rw [List.getElem?_eq_none (by omega), List.getElem?_eq_none (by omega)]
  · rintro rfl i _; rfl
/-- Two blocks compared. -/
theorem blk_eql (cs ds : List Int) (hc : cs.length = 64) (hd : ds.length = 64) (u : World) : (binOp .eql 31 (blkV cs) (blkV ds)).run Try.prog u = .ok (.bool (decide (cs = ds))) u := by
  cases hi : Try.prog.info? 3 with
  | none => have : (Try.prog.info? 3).isSome = true := by kernel_rfl
            rw [hi] at this; cases this
  | some inf =>
    have hc1 : Try.prog.cellsOf 3 = 1 := by kernel_rfl
    rw [run_eql_struct u 31, show (10000 : Nat) = 9998 + 1 + 1 from rfl, run_equalIn_array u (9998 + 1) _ _ Try.underlying31 hi, hc1,
      run_eqItems_ints u 9998 Try.underlying3 (by kernel_rfl) cs ds (List.range 64) (fun i hi => by have := List.mem_range.1 hi; omega)]
    simp only [Result.andThen_ok]
    exact congrArg (fun b => Result.ok (Value.bool b) u) (decide_eq_decide.2 (ext64 hc hd))
end Go.Proofs.Ytgajlplmpbaanaa

/- The zero block, three blocks just laid, a block and a code handed back: what the walks over blocks share. -/
namespace Go.Proofs.Ytgajlplmpbaanaa
open Go.RowKit
set_option linter.unusedVariables false
set_option linter.unusedSimpArgs false
set_option maxRecDepth 100000

def zeroB : List Value := ints .i64 (List.replicate 64 0)
theorem zeroB_length : zeroB.length = 64 := by simp [zeroB, ints_length]
end Go.Proofs.Ytgajlplmpbaanaa

/- Rounding and clamping in numbers. -/
namespace Go.Proofs.Ytgajlplmpbaanaa
open Go.RowKit
set_option linter.unusedVariables false
set_option linter.unusedSimpArgs false
set_option maxRecDepth 100000

end Go.Proofs.Ytgajlplmpbaanaa

/- Rounding and clamping in numbers; blocks made number by number. -/
namespace Go.Proofs.Ytgajlplmpbaanaa
open Go.RowKit
set_option linter.unusedVariables false
set_option linter.unusedSimpArgs false
set_option maxRecDepth 100000

/-- All numbers within bounds. -/
def inB (lo hi : Int) (cs : List Int) : Bool := cs.all fun x => decide (lo ≤ x) && decide (x ≤ hi)
theorem inB_mem {lo hi : Int} {cs : List Int} : inB lo hi cs = true ↔ ∀ x ∈ cs, lo ≤ x ∧ x ≤ hi := by simp [inB]
theorem inB_at {lo hi : Int} {cs : List Int} (h : inB lo hi cs = true) {i : Nat} {x : Int} (hx : cs[i]? = some x) : lo ≤ x ∧ x ≤ hi := inB_mem.1 h x (List.mem_of_getElem? hx)
end Go.Proofs.Ytgajlplmpbaanaa

/- Planes in blocks, in numbers: cut, joined, there and back, edges, clamped. No program is named here. -/
namespace Go.Proofs.Ytgajlplmpbaanaa
set_option linter.unusedVariables false
set_option linter.unusedSimpArgs false
set_option maxRecDepth 100000

def acrossN (W : Nat) : Nat := (W + 7) / 8
def manyN (W H : Nat) : Nat := acrossN W * acrossN H
/-- One number of the block whose corner is at row y, column x. -/
def cellAt (l : List Int) (W H y x i : Nat) : Int := l.getD (W * min (y + i / 8) (H - 1) + min (x + i % 8) (W - 1)) 0 - 128
def blockAt (l : List Int) (W H y x : Nat) : List Int := (List.range 64).map (cellAt l W H y x)
/-- The block so far. -/
def blkP (l : List Int) (W H y x k : Nat) : List Int := (List.range 64).map fun i => if i < k then cellAt l W H y x i else 0
def cutK (l : List Int) (W H n : Nat) : List (List Int) := (List.range n).map fun k => blockAt l W H (8 * (k / acrossN W)) (8 * (k % acrossN W))
def cutL (l : List Int) (W H : Nat) : List (List Int) := cutK l W H (manyN W H)
def badWH (w h : Int) : Prop := w < 1 ∨ 64 < w ∨ h < 1 ∨ 64 < h
instance (w h : Int) : Decidable (badWH w h) := by unfold badWH; infer_instance
def eSides (w h : Int) : Int := if badWH w h then 1 else 0
def eCut (l : List Int) (w h : Int) : Int := if badWH w h then 1 else if (l.length : Int) ≠ w * h then 4 else if inB 0 255 l = true then 0 else 1
def oCut (l : List Int) (w h : Int) : List (List Int) := if eCut l w h = 0 then cutL l w.toNat h.toNat else []
def oMany (w h : Int) : Int := if badWH w h then 0 else (manyN w.toNat h.toNat : Nat)
theorem blockAt_length (l : List Int) (W H y x : Nat) : (blockAt l W H y x).length = 64 := by simp [blockAt]
theorem blkP_length (l : List Int) (W H y x k : Nat) : (blkP l W H y x k).length = 64 := by simp [blkP]
theorem blkP_0 (l : List Int) (W H y x : Nat) : blkP l W H y x 0 = List.replicate 64 0 := by
  apply List.ext_getElem?
  intro i
  unfold blkP
  rw [List.getElem?_map, List.getElem?_replicate]
  by_cases hi : i < 64
  · rw [List.getElem?_range hi, if_pos hi]; simp
  · rw [List.getElem?_eq_none (by simp; omega), if_neg hi]; rfl
theorem blkP_64 (l : List Int) (W H y x : Nat) : blkP l W H y x 64 = blockAt l W H y x := by
  unfold blkP blockAt
  exact List.map_congr_left fun i hi => by rw [if_pos (List.mem_range.1 hi)]
theorem blkP_at {l : List Int} {W H y x k i : Nat} (hi : i < 64) : (blkP l W H y x k)[i]? = some (if i < k then cellAt l W H y x i else 0) := by
  unfold blkP; rw [List.getElem?_map, List.getElem?_range hi]; rfl
theorem blkP_next {l : List Int} {W H y x k : Nat} (hk : k < 64) : (blkP l W H y x k).set k (cellAt l W H y x k) = blkP l W H y x (k + 1) := by
  apply List.ext_getElem?
  intro i
  rw [List.getElem?_set, blkP_length]
  by_cases hi : i < 64
  · rw [blkP_at hi, blkP_at hi]
    by_cases hki : k = i
    · subst hki; rw [if_pos rfl, if_pos hk, if_pos (by omega)]
    · rw [if_neg hki]
      congr 1
      by_cases h1 : i < k
      · rw [if_pos h1, if_pos (by omega)]
      · rw [if_neg h1, if_neg (by omega)]
  · rw [if_neg (by omega), List.getElem?_eq_none (by rw [blkP_length]; omega), List.getElem?_eq_none (by rw [blkP_length]; omega)]
theorem cutK_length (l : List Int) (W H n : Nat) : (cutK l W H n).length = n := by simp [cutK]
theorem cutL_length (l : List Int) (W H : Nat) : (cutL l W H).length = manyN W H := cutK_length l W H _
theorem cutK_rows {l : List Int} {W H n : Nat} : ∀ r ∈ cutK l W H n, r.length = 64 := by
  intro r hr
  obtain ⟨k, _, rfl⟩ := List.mem_map.1 hr
  exact blockAt_length ..
theorem cutK_next (l : List Int) (W H n : Nat) : cutK l W H (n + 1) = cutK l W H n ++ [blockAt l W H (8 * (n / acrossN W)) (8 * (n % acrossN W))] := by
  unfold cutK; rw [List.range_succ, List.map_append]; rfl
/-- The block in row a, column b of blocks. -/
theorem cutK_step {l : List Int} {W H a b : Nat} (hb : b < acrossN W) : cutK l W H (a * acrossN W + b + 1) = cutK l W H (a * acrossN W + b) ++ [blockAt l W H (8 * a) (8 * b)] := by
  have hp : 0 < acrossN W := by omega
  rw [cutK_next]
  have h1 : (a * acrossN W + b) / acrossN W = a := by rw [Nat.mul_comm, Nat.mul_add_div hp, Nat.div_eq_of_lt hb]; omega
  have h2 : (a * acrossN W + b) % acrossN W = b := by rw [Nat.mul_comm, Nat.mul_add_mod, Nat.mod_eq_of_lt hb]
  rw [h1, h2]
theorem idx_lt {W H y x : Nat} (hW : 0 < W) (hH : 0 < H) : W * min y (H - 1) + min x (W - 1) < W * H := by
  have h1 : min y (H - 1) + 1 ≤ H := by omega
  have h2 : min x (W - 1) < W := by omega
  have h3 : W * (min y (H - 1) + 1) ≤ W * H := Nat.mul_le_mul_left W h1
  rw [Nat.mul_add, Nat.mul_one] at h3
  exact Nat.lt_of_lt_of_le (Nat.add_lt_add_left h2 _) h3
theorem cutL_get {l : List Int} {W H k : Nat} (hk : k < manyN W H) : (cutL l W H)[k]? = some (blockAt l W H (8 * (k / acrossN W)) (8 * (k % acrossN W))) := by
  unfold cutL cutK; rw [List.getElem?_map, List.getElem?_range hk]; rfl
theorem blockAt_get {l : List Int} {W H y x i : Nat} (hi : i < 64) : (blockAt l W H y x)[i]? = some (cellAt l W H y x i) := by
  unfold blockAt; rw [List.getElem?_map, List.getElem?_range hi]; rfl
theorem getD_of {α : Type} {l : List α} {i : Nat} {x d : α} (h : l[i]? = some x) : l.getD i d = x := by rw [List.getD_eq_getElem?_getD, h]; rfl
theorem many_le {W H : Nat} (hW : W ≤ 64) (hH : H ≤ 64) : manyN W H ≤ 64 := by
  have h1 : acrossN W ≤ 8 := by unfold acrossN; omega
  have h2 : acrossN H ≤ 8 := by unfold acrossN; omega
  exact Nat.mul_le_mul h1 h2
end Go.Proofs.Ytgajlplmpbaanaa

/- The reference's outside, in a text of its own. -/
namespace Go.Proofs.Ytgajlplmpbaanaa
open Go.RowKit
set_option linter.unusedVariables false
set_option linter.unusedSimpArgs false
set_option maxRecDepth 100000

theorem out_yes (n lo hi : Int) (h : n < lo ∨ hi < n) (w : World) : Calls Try.prog 22 #[.int .i64 n, .int .i64 lo, .int .i64 hi] w fun e w' => e = .returned (.bool true) ∧ w' = w := by
  go_enter Try.func22, Try.ntmps22
  go_wp2
  all_goals (go_ret; exact ⟨ret_bool (by simp <;> omega), rfl⟩)
theorem out_no (n lo hi : Int) (h : lo ≤ n ∧ n ≤ hi) (w : World) : Calls Try.prog 22 #[.int .i64 n, .int .i64 lo, .int .i64 hi] w fun e w' => e = .returned (.bool false) ∧ w' = w := by
  go_enter Try.func22, Try.ntmps22
  go_wp2
  all_goals (go_ret; exact ⟨ret_bool (by simp <;> omega), rfl⟩)
end Go.Proofs.Ytgajlplmpbaanaa

/- Rows of integers of one length, one behind another in memory: blocks in a slice. No program is named here. -/
namespace Go.Proofs.Ytgajlplmpbaanaa
open Go.RowKit
set_option linter.unusedVariables false
set_option linter.unusedSimpArgs false
set_option maxRecDepth 100000

/-- Rows of integers, one behind another. -/
def rowsC (L : List (List Int)) : List Value := L.flatMap (ints .i64)
theorem rowsC_length {n : Nat} : ∀ {L : List (List Int)}, (∀ r ∈ L, r.length = n) → (rowsC L).length = L.length * n
  | [], _ => by simp [rowsC]
  | r :: L, h => by
    have h1 := rowsC_length (L := L) fun x hx => h x (List.mem_cons_of_mem _ hx)
    have h2 := h r List.mem_cons_self
    simp only [rowsC, List.flatMap_cons, List.length_append, ints_length, List.length_cons] at h1 ⊢
    rw [h1, h2, Nat.add_mul]; omega
theorem rowsC_at {n : Nat} : ∀ {L : List (List Int)}, (∀ r ∈ L, r.length = n) → ∀ {i j : Nat} {r : List Int}, L[i]? = some r → j < n → (rowsC L)[i * n + j]? = (ints .i64 r)[j]?
  | [], _, i, j, r, h, _ => by simp at h
  | s :: L, hl, 0, j, r, h, hj => by
    simp at h; subst h
    have := hl s List.mem_cons_self
    rw [rowsC, List.flatMap_cons, Nat.zero_mul, Nat.zero_add, List.getElem?_append_left (by rw [ints_length]; omega)]
  | s :: L, hl, i + 1, j, r, h, hj => by
    rw [List.getElem?_cons_succ] at h
    have h2 := hl s List.mem_cons_self
    have ih := rowsC_at (L := L) (fun x hx => hl x (List.mem_cons_of_mem _ hx)) h hj
    rw [rowsC, List.flatMap_cons, List.getElem?_append_right (by rw [ints_length, h2, Nat.add_mul]; omega), ints_length, h2, show (i + 1) * n + j - n = i * n + j by rw [Nat.add_mul]; omega]
    exact ih
/-- One row of a slice that is seen. -/
theorem Seen.row {w : World} {G n : Nat} {A : Option Addr} {L : List (List Int)} (h : Seen w G A (rowsC L)) (hl : ∀ r ∈ L, r.length = n) (hp : 0 < n) {k : Nat} (hk : k < L.length) :
    ∃ g o r, A = some ⟨g, o, none⟩ ∧ g < G ∧ L[k]? = some r ∧ r.length = n ∧ w.rangeAt g (o + k * n) (ints .i64 r) := by
  obtain ⟨r, hr⟩ := some_at hk
  have hrl := hl r (List.mem_of_getElem? hr)
  have hlt : 0 < (rowsC L).length := by rw [rowsC_length hl]; exact Nat.mul_pos (by omega) hp
  obtain ⟨g, o, e, hg, hc⟩ := h.at hlt
  refine ⟨g, o, r, e, hg, hr, hrl, fun j v hv => ?_⟩
  have hj : j < n := by have := (List.getElem?_eq_some_iff.1 hv).1; rw [ints_length] at this; omega
  have h2 := rowsC_at hl hr hj
  rw [hv] at h2
  have := hc _ _ h2
  rw [Nat.add_assoc]; exact this
end Go.Proofs.Ytgajlplmpbaanaa

/- Blocks in a row: made, built, appended. -/
namespace Go.Proofs.Ytgajlplmpbaanaa
open Go.RowKit
set_option linter.unusedVariables false
set_option linter.unusedSimpArgs false
set_option maxRecDepth 100000

theorem info_blk3 : (Try.prog.info? 31).map (fun i => (i.zero, i.size, i.bytes)) = some (some (.agg zeroB.toArray), 64, 512) := by kernel_rfl
theorem elem_blk : ElemOf Try.prog 23 31 64 512 := .mk' (z := .agg zeroB.toArray) Try.underlying23 (by kernel_rfl) rfl (by omega)
abbrev blkRow (v : Value) (L : List (List Int)) : Row := ⟨31, 64, v, L.length, rowsC L⟩
theorem rowsC_append (a b : List (List Int)) : rowsC (a ++ b) = rowsC a ++ rowsC b := by simp [rowsC]
theorem rowsC_one (r : List Int) : rowsC [r] = ints .i64 r := by simp [rowsC]
theorem blkRow_append (v : Value) (l m : List (List Int)) : (⟨31, 64, v, l.length + m.length, rowsC l ++ rowsC m⟩ : Row) = blkRow v (l ++ m) := by simp [blkRow, rowsC_append]
/-- In a walk: append of one block just laid onto the first of the rows. -/
theorem wpList_ownB {ops : Array Oper} {rest : List Oper} {o : Oper} {a : Act} {Q : Exit → Act → World → Prop} (w0 : World) (hgd : Region.wanted o (yielded ops a.tmps) = true) (s x : Operand)
    (ho : o.op = .call { callee := .builtin .append, args := #[s, x], argTypes := #[23, 23] })
    (B : Nat) (v : Value) (l : List (List Int)) (rs : List Row) (hs : a.eval s = v) (HO : Owns B (blkRow v l :: rs) w0) (r : List Int) (ys : List Value) (hys : ys = ints .i64 r) (hr : r.length = 64) (hx : a.eval x = .slice (some ⟨w0.heap.size, 0, none⟩) 1 1)
    (h63 : l.length + 1 ≤ 1000000)
    (h : ∀ v' w', Owns B (blkRow v' (l ++ [r]) :: rs) w' → (w0.alloc (.cells ys.toArray 31)).grownBy w' v.ownBlock → Below B w0 w' → w0.heap.size < w'.heap.size → wpList Try.prog ops Q rest (a.put o.dst v') w') : wpList Try.prog ops Q (o :: rest) a (w0.alloc (.cells ys.toArray 31)) := by
  subst hys
  have e := rowsC_one r
  refine wpList_step fun K hK => ?_
  rw [if_pos hgd]
  refine wp_ownV _ s x _ ho B 31 64 512 elem_blk v l.length (rowsC l) rs hs (HO.alloc _) (w0.heap.size + 1) _ 1 1 (rowsC [r]) hx (by rw [e]; exact Seen.new w0 (ints .i64 r) _ _ (Nat.lt_succ_self _)) (by rw [e, ints_length, hr]) (by rw [e]; exact ints_one) (by unfold maxLen; omega) (by omega) ?_
  intro v' w' h2 hg h3
  have := h3.size
  refine hK _ _ (h v' w' ?_ hg (((Below.refl _ _).alloc HO.base _).trans h3) (by simp at this; omega))
  rw [← blkRow_append]
  exact h2
theorem fill_blk (ys : List Value) (hl : ys.length = 64) (base : Array Value) (hb : base.size = 64) : Instr.fill (fun i => some (i * 64, 64)) base [(0, .agg ys.toArray)] = some ys.toArray := by
  obtain ⟨r, h1, h2, h3⟩ := Great.fill_dense (s := 64) (by omega) [.agg ys.toArray] 0 base (by intro v hv; rw [List.mem_singleton.1 hv]; simpa [Value.cells] using hl) (by rw [hb]; simp)
  have e : (([Value.agg ys.toArray].zipIdx 0).map fun x => (x.2, x.1)) = [(0, .agg ys.toArray)] := rfl
  rw [e] at h1
  rw [h1]
  congr 1
  apply Array.ext_getElem?
  intro k
  rw [h3 k]
  by_cases hk : k < 64
  · rw [if_pos (by simp; omega)]
    simp [Nat.div_eq_of_lt hk, Nat.mod_eq_of_lt hk, Value.cells]
  · rw [if_neg (by simp; omega), Array.getElem?_eq_none (by omega), Array.getElem?_eq_none (by simp; omega)]
/-- In a walk: a slice of one block. -/
theorem wpList_buildBlk {ops : Array Oper} {rest : List Oper} {o : Oper} {a : Act} {w : World} {Q : Exit → Act → World → Prop} (hg : o.guard = none) (x : Operand) (ho : o.op = .buildSlice 23 1 #[(0, x)]) (ys : List Value) (hx : a.eval x = .agg ys.toArray) (hl : ys.length = 64)
    (h : wpList Try.prog ops Q rest (a.put o.dst (.slice (some ⟨w.heap.size, 0, none⟩) 1 1)) (w.alloc (.cells ys.toArray 31))) : wpList Try.prog ops Q (o :: rest) a w := by
  obtain ⟨i0, hi, hz0, hz1, hz2⟩ := info_parts info_blk3
  refine wpList_buildSlice hg 23 31 1 #[(0, x)] ho ys.toArray i0 (.agg zeroB.toArray) Try.underlying23 hi hz0 (by rw [hz1]; omega) (by rw [hz1]; omega) ?_ h
  have e : (#[(0, x)].map fun (i, x) => (i, a.eval x)).toList = [(0, .agg ys.toArray)] := by simp [hx]
  rw [e, hz1]
  exact fill_blk ys hl _ (by simp)
end Go.Proofs.Ytgajlplmpbaanaa

/- A call of a function that was handed over, its number a letter; a block and two numbers handed back; what a call may do to one block. No program is named here. -/
namespace Go.Proofs.Ytgajlplmpbaanaa
open Go.RowKit
set_option linter.unusedVariables false
set_option linter.unusedSimpArgs false
set_option maxRecDepth 100000

/-- A call of this function enters its body. -/
def Enters (P : Program) (f : FuncId) : Prop := ∀ (args : Array Value) (w : World), (callFunc f args).run P w = .ok (.enter f args) w
theorem Enters.of {P : Program} {f : FuncId} {fn : Func} (h : P.funcs[f]? = some fn) (hn : (fn.name == "runtime.NumGoroutine") = false) (hb : fn.body.isNone = false) : Enters P f := by
  intro args w
  have h1 : ¬ fn.name = "runtime.NumGoroutine" := by simpa using hn
  have h2 : ¬ fn.body = none := by intro e; rw [e] at hb; cases hb
  simp [callFunc, h, h1, h2]
theorem Seen.grown {w w' : World} {G g : Nat} {A : Option Addr} {xs : List Value} (h : Seen w G A xs) (hg : w.grownBy w' (some g)) (h1 : G ≤ g) (h2 : G ≤ w.heap.size) : Seen w' G A xs :=
  h.of w w' fun p hp => World.cell?_of_block (hg.block p.block (by omega) (by simp; omega))
end Go.Proofs.Ytgajlplmpbaanaa

/- The reference's SidesCheck, many and PlaneCut: their contracts. -/
namespace Go.Proofs.Ytgajlplmpbaanaa
open Go.RowKit
set_option linter.unusedVariables false
set_option linter.unusedSimpArgs false
set_option maxRecDepth 100000

theorem refSides_any (x y : Int) (w : World) : Calls Try.prog 15 #[.int .i64 x, .int .i64 y] w fun e w' => e = .returned (.int .i64 (eSides x y)) ∧ w' = w := by
  obtain ⟨E, hE⟩ : ∃ E, E = eSides x y := ⟨_, rfl⟩
  rw [← hE]
  by_cases hx : x < 1 ∨ 64 < x
  · have e1 : E = 1 := by rw [hE]; exact if_pos (by unfold badWH; omega)
    subst e1
    clear hE
    have HX := veil (out_yes x 1 64 hx w)
    clear hx
    go_enter Try.func15, Try.ntmps15
    go_wp2_with fail
    refine HX.out.mono ?_
    rintro e _ ⟨rfl, rfl⟩
    clear HX
    go_wp2
    go_ret
    exact ⟨rfl, rfl⟩
  · have HX := veil (out_no x 1 64 (by omega) w)
    by_cases hy : y < 1 ∨ 64 < y
    · have e1 : E = 1 := by rw [hE]; exact if_pos (by unfold badWH; omega)
      subst e1
      have HY := veil (out_yes y 1 64 hy w)
      clear hE hx hy
      go_enter Try.func15, Try.ntmps15
      go_wp2_with fail
      refine HX.out.mono ?_
      rintro e _ ⟨rfl, rfl⟩
      clear HX
      go_wp2_with fail
      refine HY.out.mono ?_
      rintro e _ ⟨rfl, rfl⟩
      clear HY
      go_wp2
      go_ret
      exact ⟨rfl, rfl⟩
    · have e1 : E = 0 := by rw [hE]; exact if_neg (by unfold badWH; omega)
      subst e1
      have HY := veil (out_no y 1 64 (by omega) w)
      clear hE hx hy
      go_enter Try.func15, Try.ntmps15
      go_wp2_with fail
      refine HX.out.mono ?_
      rintro e _ ⟨rfl, rfl⟩
      clear HX
      go_wp2_with fail
      refine HY.out.mono ?_
      rintro e _ ⟨rfl, rfl⟩
      clear HY
      go_wp2
      go_ret
      exact ⟨rfl, rfl⟩
theorem eCut_bad {l : List Int} {x y : Int} (h : badWH x y) : eCut l x y = 1 := if_pos h
theorem eCut_len {l : List Int} {x y : Int} (h : ¬ badWH x y) (h2 : (l.length : Int) ≠ x * y) : eCut l x y = 4 := by unfold eCut; rw [if_neg h, if_pos h2]
theorem eCut_in {l : List Int} {x y : Int} (h : ¬ badWH x y) (h2 : (l.length : Int) = x * y) : eCut l x y = if inB 0 255 l = true then 0 else 1 := by unfold eCut; rw [if_neg h, if_neg (by rw [h2]; simp)]
theorem inB_snoc {lo hi : Int} {cs : List Int} {k : Nat} {x : Int} (hx : cs[k]? = some x) (h : inB lo hi (cs.take k) = true) (h1 : lo ≤ x ∧ x ≤ hi) : inB lo hi (cs.take (k + 1)) = true := by
  rw [take_snoc hx, inB_mem]
  intro y hy
  rcases List.mem_append.1 hy with hy | hy
  · exact inB_mem.1 h y hy
  · rw [List.mem_singleton.1 hy]; exact h1
theorem Owns.far {B : Nat} {rs : List Row} {W w6 : World} {o : Obj} (h : Owns B rs W) (hg : (W.alloc o).grownBy w6 (some W.heap.size)) : Owns B rs w6 := by
  have h2 := h.alloc o
  refine ⟨Nat.le_trans h2.base hg.size, fun r hr => (h2.each r hr).kept hg ?_, h.apart⟩
  cases hv : r.v.ownBlock with
  | none => exact .inl rfl
  | some g => exact .inr fun e => by injection e with e; have := ((h.each r hr).lt g hv).2; omega
set_option maxRecDepth 100000 in
set_option maxHeartbeats 2000000 in
theorem refCut_any (l : List Int) (A : Option Addr) (c G : Nat) (x y : Int) (w : World) (hs : Seen w G A (ints .i64 l)) (hl : l.length ≤ maxLen) (hG : G ≤ w.heap.size) :
    Calls Try.prog 10 #[.slice A l.length c, .int .i64 x, .int .i64 y] w fun e w' => ∃ v, e = .returned (.tuple #[v, .int .i64 (eCut l x y)]) ∧ Owns w.heap.size [blkRow v (oCut l x y)] w' ∧ Below w.heap.size w w' := by
  obtain ⟨E, hE⟩ : ∃ E, E = eCut l x y := ⟨_, rfl⟩
  obtain ⟨O, hO⟩ : ∃ O, O = oCut l x y := ⟨_, rfl⟩
  rw [← hE, ← hO]
  have HE := veil hE; have HO := veil hO
  have HOe : Hid (E ≠ 0 → O = []) := by show _ → _; intro h; rw [hO]; exact if_neg (by rw [← hE]; exact h)
  have HOk : Hid (E = 0 → O = cutL l x.toNat y.toNat) := by show _ → _; intro h; rw [hO]; exact if_pos (by rw [← hE]; exact h)
  have HSi := veil (refSides_any x y w)
  have hempty : ∀ w', Below w.heap.size w w' → Owns w.heap.size [blkRow (.slice none 0 0) []] w' := fun w' h => (Owns.nil h.size).fresh _ _
  have Hempty := veil hempty
  clear hE hO hempty
  go_enter Try.func10, Try.ntmps10
  go_wp2_with fail
  refine HSi.out.mono ?_
  rintro e wq ⟨rfl, hwq⟩
  obtain rfl : w = wq := hwq.symm
  clear hwq HSi
  by_cases hbad : badWH x y
  · have hE1 := HE.out.trans (eCut_bad hbad)
    have hO1 := HOe.out (by rw [hE1]; decide)
    have e1 : eSides x y = 1 := if_pos hbad
    rw [e1]
    subst hO1
    have HE1 := veil hE1
    clear hE1 e1 hbad
    go_wp2_with fail
    go_ret2
    exact ⟨_, ret_two rfl (by rw [HE1.out]; rfl), Hempty.out _ (Below.refl _ _), Below.refl _ _⟩
  · have e1 : eSides x y = 0 := if_neg hbad
    rw [e1]
    have hb' := hbad
    unfold badWH at hb'
    obtain ⟨W, hW⟩ : ∃ W : Nat, x = (W : Int) := ⟨x.toNat, by omega⟩
    obtain ⟨H, hH⟩ : ∃ H : Nat, y = (H : Int) := ⟨y.toNat, by omega⟩
    subst hW hH
    rw [Int.toNat_natCast, Int.toNat_natCast] at HOk
    have hW1 : 1 ≤ W ∧ W ≤ 64 := by omega
    have hH1 : 1 ≤ H ∧ H ≤ 64 := by omega
    obtain ⟨N, hN⟩ : ∃ N, N = W * H := ⟨_, rfl⟩
    have hN64 : N ≤ 4096 := by rw [hN]; exact Nat.mul_le_mul hW1.2 hH1.2
    have hNz : (W : Int) * (H : Int) = (N : Int) := by rw [hN]; simp
    have HN := veil hN
    have Hbad : Hid (¬ badWH (W : Int) (H : Int)) := hbad
    clear hN e1 hb' hbad
    by_cases hlen : l.length = N
    · have hlz : ((l.length : Int) != (N : Int)) = false := by simp; omega
      have HE2 := veil (HE.out.trans (eCut_in Hbad.out (by rw [hlen, hNz])))
      have Hlen := veil hlen
      have hl4 : l.length ≤ 4096 := by omega
      have HI0 : Hid (inB 0 255 (l.take 0) = true) := by show _ = _; simp [inB]
      clear hlen HE HO
      go_wp2_with fail
      go_loopg [10, 30] l.length (fun gk nv iv wr => ∃ k : Nat, gk = l.length - k ∧ k ≤ l.length ∧ iv = .int .i64 (k : Int) ∧ Hid (inB 0 255 (l.take k) = true) ∧ w = wr)
      case atStart => exact ⟨0, rfl, Nat.zero_le _, rfl, HI0, rfl⟩
      case round =>
        clear HI0
        obtain ⟨k, rfl, hk, rfl, HI, hwr⟩ := hrel
        subst hwr
        by_cases hkt : k < l.length
        · have hkz : (k : Int) < (l.length : Int) := by omega
          obtain ⟨g, o, n, rfl, hg, hx, hcx⟩ := hs.int hkt
          by_cases hn : n < 0 ∨ 255 < n
          · have hbB : inB 0 255 l = false := by
              cases hq : inB 0 255 l with
              | false => rfl
              | true => have := inB_at hq hx; omega
            have hE1 := HE2.out
            rw [if_neg (by rw [hbB]; decide)] at hE1
            have hO1 := HOe.out (by rw [hE1]; decide)
            subst hO1
            have HE1 := veil hE1
            have HOu := veil (out_yes n 0 255 hn w)
            clear hE1 hbB hn hx
            go_wp2_with fail
            refine HOu.out.mono ?_
            rintro e wq ⟨rfl, hwq⟩
            obtain rfl : w = wq := hwq.symm
            clear hwq HOu
            go_wp2_with fail
            go_ret2
            exact ⟨_, ret_two rfl (by rw [HE1.out]; rfl), Hempty.out _ (Below.refl _ _), Below.refl _ _⟩
          · have HI2 := veil (inB_snoc hx HI.out (by omega))
            have HOu := veil (out_no n 0 255 (by omega) w)
            clear hn hx HI
            go_wp2_with fail
            refine HOu.out.mono ?_
            rintro e wq ⟨rfl, hwq⟩
            obtain rfl : w = wq := hwq.symm
            clear hwq HOu
            go_wp2_with fail
            go_roundg (l.length - (k + 1))
            case rel => exact ⟨k + 1, rfl, by omega, by go_num, HI2, rfl⟩
            case measure => omega
        · obtain rfl : k = l.length := by omega
          have hi := HI.out
          rw [List.take_length] at hi
          have hE0 := HE2.out
          rw [if_pos hi] at hE0
          have hOc := HOk.out hE0
          have HE0 := veil hE0; have HOc := veil hOc; have Hin := veil hi
          clear hE0 hOc hi HI HE2 HOk HOe hkt
          have hP1 : 1 ≤ acrossN W ∧ acrossN W ≤ 8 ∧ 8 * (acrossN W - 1) < W ∧ W ≤ 8 * acrossN W := by unfold acrossN; omega
          have hQ1 : 1 ≤ acrossN H ∧ acrossN H ≤ 8 ∧ 8 * (acrossN H - 1) < H ∧ H ≤ 8 * acrossN H := by unfold acrossN; omega
          have HPe : Hid (∀ a b : Nat, b < acrossN W → cutK l W H (a * acrossN W + b + 1) = cutK l W H (a * acrossN W + b) ++ [blockAt l W H (8 * a) (8 * b)]) := veil fun a b hb => cutK_step hb
          have HMe : Hid (manyN W H = acrossN H * acrossN W) := veil (by unfold manyN; exact Nat.mul_comm _ _)
          obtain ⟨P, hP⟩ : ∃ P, P = acrossN W := ⟨_, rfl⟩
          obtain ⟨Q, hQ⟩ : ∃ Q, Q = acrossN H := ⟨_, rfl⟩
          rw [← hP] at hP1 HPe HMe
          rw [← hQ] at hQ1 HMe
          have HP := veil hP; have HQ := veil hQ
          clear hP hQ
          have HO0 : Hid (Owns w.heap.size [blkRow (.slice none 0 0) (cutK l W H (0 * P))] w) := veil (by rw [Nat.zero_mul]; exact Hempty.out _ (Below.refl _ _))
          go_wp2_with fail
          go_loopg [11, 12, 13, 14, 15] Q (fun gk ov yv xv bv iv wr => ∃ a m : Nat, gk = Q - a ∧ a ≤ Q ∧ m = 8 * a ∧ yv = .int .i64 (m : Int) ∧ Hid (Owns w.heap.size [blkRow ov (cutK l W H (a * P))] wr) ∧ Hid (Below w.heap.size w wr))
          case atStart => exact ⟨0, 0, rfl, Nat.zero_le _, rfl, rfl, HO0, veil (Below.refl _ _)⟩
          case round =>
            clear HO0
            obtain ⟨a, m, rfl, ha, hm, rfl, HO, HB⟩ := hrel
            by_cases haq : a < Q
            · have hmz : (m : Int) < (H : Int) := by omega
              have hm64 : m < 64 := by omega
              have Hm := veil hm
              clear hm
              have HO0 : Hid (Owns w.heap.size [blkRow u11 (cutK l W H (a * P + 0))] wr) := HO
              have HB0 := HB
              clear HO HB
              go_wp2_with fail
              go_loopg [11, 13, 14, 15] P (fun gk ov xv bv iv wr => ∃ b n : Nat, gk = P - b ∧ b ≤ P ∧ n = 8 * b ∧ xv = .int .i64 (n : Int) ∧ Hid (Owns w.heap.size [blkRow ov (cutK l W H (a * P + b))] wr) ∧ Hid (Below w.heap.size w wr))
              case atStart => exact ⟨0, 0, rfl, Nat.zero_le _, rfl, rfl, HO0, HB0⟩
              case round =>
                clear HO0 HB0
                obtain ⟨b, n, rfl, hb, hn, rfl, HO, HB⟩ := hrel
                obtain ⟨W1, rfl⟩ : ∃ W1 : World, W1 = wr := ⟨_, rfl⟩
                by_cases hbp : b < P
                · have hnz : (n : Int) < (W : Int) := by omega
                  have hn64 : n < 64 := by omega
                  have Hn := veil hn
                  clear hn
                  have HZ0 : Hid (ints .i64 (blkP l W H m n 0) = zeroB) := veil (by rw [blkP_0]; rfl)
                  have HBk : Hid (Blk (W1.alloc (.cells zeroB.toArray 31)) W1.heap.size (ints .i64 (blkP l W H m n 0)) 31) := veil (by rw [HZ0.out]; exact Blk.new W1 zeroB _)
                  obtain ⟨W4, hW4⟩ : ∃ W4, W4 = W1.alloc (.cells zeroB.toArray 31) := ⟨_, rfl⟩
                  rw [← hW4] at HBk
                  have HOk4 : Hid (∀ w6 : World, W4.grownBy w6 (some W1.heap.size) → Owns w.heap.size [blkRow u11 (cutK l W H (a * P + b))] w6) := veil fun w6 h6 => by
                    rw [hW4] at h6
                    exact Owns.far HO.out h6
                  have HBw4 : Hid (∀ w6 : World, W4.grownBy w6 (some W1.heap.size) → Below w.heap.size w w6) := veil fun w6 h6 => by
                    rw [hW4] at h6
                    have h0 := HB.out.size
                    exact ((HB.out.alloc h0 _).grown h6 (by simp; omega) (fun j hj => by injection hj with hj; omega))
                  have HW4 := veil hW4
                  have hg4 : w.heap.size ≤ W1.heap.size := HB.out.size
                  clear hW4
                  go_wp2_with fail
                  go_loopg [15, 47] 64 (fun gk iv cv w6 => ∃ k : Nat, gk = 64 - k ∧ k ≤ 64 ∧ cv = .int .i64 (k : Int) ∧ Hid (Blk w6 W1.heap.size (ints .i64 (blkP l W H m n k)) 31) ∧ Hid (W4.grownBy w6 (some W1.heap.size)))
                  case atStart => exact ⟨0, rfl, Nat.zero_le _, rfl, by rw [HW4.out] at HBk; exact HBk, by rw [HW4.out]; exact veil (World.grownBy.refl _ _)⟩
                  case round =>
                    obtain ⟨k, rfl, hk, rfl, HK, HG⟩ := hrel
                    have HB6 := HBw4.out _ HG.out
                    by_cases hlt : k < 64
                    · have hltz : (k : Int) < 64 := by omega
                      obtain ⟨q, hq⟩ : ∃ q : Nat, q = k / 8 := ⟨_, rfl⟩
                      obtain ⟨r, hr⟩ : ∃ r : Nat, r = k % 8 := ⟨_, rfl⟩
                      obtain ⟨r1, hr1⟩ : ∃ r1 : Nat, r1 = min (m + q) (H - 1) := ⟨_, rfl⟩
                      obtain ⟨c1, hc1⟩ : ∃ c1 : Nat, c1 = min (n + r) (W - 1) := ⟨_, rfl⟩
                      have hix : W * r1 + c1 < N := by rw [hr1, hc1, HN.out]; exact idx_lt (by omega) (by omega)
                      obtain ⟨p1, hp1⟩ : ∃ p1 : Nat, p1 = W * r1 := ⟨_, rfl⟩
                      obtain ⟨j, hj⟩ : ∃ j : Nat, j = p1 + c1 := ⟨_, rfl⟩
                      have hjl : j < l.length := by have := Hlen.out; omega
                      have hs6 := hs.below HB6 hG
                      obtain ⟨g, o, v, rfl, hg, hx, hcx⟩ := hs6.int hjl
                      have hvi : 0 ≤ v ∧ v ≤ 255 := inB_at Hin.out hx
                      have hcell : cellAt l W H m n k = v - 128 := by
                        unfold cellAt
                        rw [← hq, ← hr, ← hr1, ← hc1, ← hp1, ← hj, getD_of hx]
                      obtain ⟨y, hy⟩ := some_at (xs := blkP l W H m n k) (j := k) (by rw [blkP_length]; omega)
                      have hcy := HK.out.cell (ints_at hy)
                      have hfy := HK.out.frozen k
                      have HK5 : Hid (Blk (wr.setCell ⟨W1.heap.size, k, none⟩ (.int .i64 (v - 128))) W1.heap.size (ints .i64 (blkP l W H m n (k + 1))) 31) := by
                        rw [← blkP_next hlt, hcell]
                        have := HK.out.set k (.int .i64 (v - 128))
                        rw [show (ints .i64 (blkP l W H m n k)).set k (.int .i64 (v - 128)) = ints .i64 ((blkP l W H m n k).set k (v - 128)) by simp [ints, List.map_set]] at this
                        exact this
                      have HG5 : Hid (W4.grownBy (wr.setCell ⟨W1.heap.size, k, none⟩ (.int .i64 (v - 128))) (some W1.heap.size)) :=
                        HG.out.trans ⟨rfl, rfl, rfl, by simp [World.setCell], fun i _ hi => Below.heap_setCell _ _ _ _ (fun e => hi (by rw [e]))⟩
                      have zq : (k : Int) / 8 = (q : Int) := by omega
                      have zr : (k : Int) % 8 = (r : Int) := by omega
                      obtain ⟨e1, he1⟩ : ∃ e1 : Nat, e1 = m + q := ⟨_, rfl⟩
                      obtain ⟨e2, he2⟩ : ∃ e2 : Nat, e2 = n + r := ⟨_, rfl⟩
                      obtain ⟨h1, hh1⟩ : ∃ h1 : Nat, h1 = H - 1 := ⟨_, rfl⟩
                      obtain ⟨w1, hw1⟩ : ∃ w1 : Nat, w1 = W - 1 := ⟨_, rfl⟩
                      have z1 : (m : Int) + (q : Int) = (e1 : Int) := by omega
                      have z2 : (n : Int) + (r : Int) = (e2 : Int) := by omega
                      have z3 : (H : Int) - 1 = (h1 : Int) := by omega
                      have z4 : (W : Int) - 1 = (w1 : Int) := by omega
                      have z5 : ((h1 : Int) < (e1 : Int) ∧ h1 = r1) ∨ (¬ (h1 : Int) < (e1 : Int) ∧ e1 = r1) := by omega
                      have z6 : ((w1 : Int) < (e2 : Int) ∧ w1 = c1) ∨ (¬ (w1 : Int) < (e2 : Int) ∧ e2 = c1) := by omega
                      have z7 : (W : Int) * (r1 : Int) = (p1 : Int) := by rw [hp1]; simp
                      have z8 : (p1 : Int) + (c1 : Int) = (j : Int) := by omega
                      have b1 : q < 8 ∧ r < 8 ∧ e1 < 80 ∧ e2 < 80 ∧ h1 < 64 ∧ w1 < 64 ∧ r1 < 64 ∧ c1 < 64 ∧ p1 ≤ 4096 ∧ j < 4096 := by omega
                      have hjz : (j : Int) < (l.length : Int) := by omega
                      clear HK HG hy hx hcell hq hr hr1 hc1 hix hp1 hj he1 he2 hh1 hw1
                      rcases z5 with ⟨z5, rfl⟩ | ⟨z5, rfl⟩ <;> rcases z6 with ⟨z6, rfl⟩ | ⟨z6, rfl⟩
                      all_goals
                        go_wp2_with fail
                        go_roundg (64 - (k + 1))
                        case rel => exact ⟨k + 1, rfl, by omega, by go_num, HK5, HG5⟩
                        case measure => omega
                    · obtain rfl : k = 64 := by omega
                      have HO6 := HOk4.out _ HG.out
                      have HKr := HK.out
                      have Hlb : Hid ((ints .i64 (blkP l W H m n 64)).length = 64) := veil (by rw [ints_length, blkP_length])
                      have hlb := Hlb.out
                      have Hrl : Hid ((blkP l W H m n 64).length = 64) := veil (blkP_length _ _ _ _ _ _)
                      have Hnx : Hid (cutK l W H (a * P + b) ++ [blkP l W H m n 64] = cutK l W H (a * P + (b + 1))) := veil (by
                        rw [blkP_64, Hm.out, Hn.out, ← HPe.out a b hbp]; rfl)
                      have Hcl : Hid ((cutK l W H (a * P + b)).length + 1 ≤ 1000000) := veil (by
                        rw [cutK_length]; have := Nat.mul_le_mul (Nat.le_of_lt haq) (Nat.le_refl P); have := Nat.mul_le_mul hQ1.2.1 hP1.2.1; omega)
                      obtain ⟨cc, hcc⟩ : ∃ cc, cc = cutK l W H (a * P + b) := ⟨_, rfl⟩
                      rw [← hcc] at HO6 Hnx Hcl
                      obtain ⟨bk, hbk⟩ : ∃ bk, bk = blkP l W H m n 64 := ⟨_, rfl⟩
                      rw [← hbk] at Hlb HKr Hrl Hnx hlb
                      obtain ⟨ys, hys⟩ : ∃ ys, ys = ints .i64 bk := ⟨_, rfl⟩
                      rw [← hys] at Hlb HKr hlb
                      have Hys := veil hys
                      clear hys hbk hcc HK HG HBk HOk4 HBw4 HO hlb
                      go_wp2_with (first
                        | (refine wpList_load_mid rfl 31 (.tmp 14) rfl W1.heap.size 0 rfl ys _ HKr.range Try.underlying31 rfl (info_blkn Hlb.out) ?_)
                        | (refine wpList_buildBlk rfl (.tmp 75) rfl ys rfl Hlb.out ?_)
                        | (refine wpList_ownB wr rfl (.tmp 74) (.tmp 76) rfl w.heap.size u11 cc [] rfl HO6 bk ys Hys.out Hrl.out rfl Hcl.out ?_; intro v' w7 hO7 hg7 hb7 hs7)
                        | fail)
                      have hO8 : Hid (Owns w.heap.size [blkRow v' (cutK l W H (a * P + (b + 1)))] w7) := veil (by rw [← Hnx.out]; exact hO7)
                      have hb8 := veil (HB6.trans hb7)
                      go_roundg (P - (b + 1))
                      case rel => exact ⟨b + 1, n + 8, rfl, by omega, by have := Hn.out; omega, by go_num, hO8, hb8⟩
                      case measure => omega
                · obtain rfl : P = b := by omega
                  have hnz : ¬ (n : Int) < (W : Int) := by omega
                  clear hn
                  have HO2 : Hid (Owns w.heap.size [blkRow u11 (cutK l W H ((a + 1) * P))] W1) := veil (by rw [Nat.succ_mul]; exact HO.out)
                  go_wp2_with fail
                  go_roundg (Q - (a + 1))
                  case rel => exact ⟨a + 1, m + 8, rfl, by omega, by have := Hm.out; omega, by go_num, HO2, HB⟩
                  case measure => omega
            · obtain rfl : Q = a := by omega
              have hmz : ¬ (m : Int) < (H : Int) := by omega
              clear hm
              have HO2 := HO.out
              rw [← HMe.out] at HO2
              have HO3 : Hid (Owns w.heap.size [blkRow u11 O] wr) := veil (by rw [HOc.out]; exact HO2)
              have HE1 := HE0
              clear HO2 HO
              go_wp2_with fail
              go_ret2
              exact ⟨_, ret_two rfl (by rw [HE1.out]; rfl), HO3.out, HB.out⟩
    · have hlz : ((l.length : Int) != (N : Int)) = true := by simp; omega
      have hE1 := HE.out.trans (eCut_len Hbad.out (by rw [hNz]; omega))
      have hO1 := HOe.out (by rw [hE1]; decide)
      subst hO1
      have HE1 := veil hE1
      clear hE1 hlen
      go_wp2_with fail
      go_ret2
      exact ⟨_, ret_two rfl (by rw [HE1.out]; rfl), Hempty.out _ (Below.refl _ _), Below.refl _ _⟩
end Go.Proofs.Ytgajlplmpbaanaa

/- quant.Round, clamp, within, Check, checkBoth: their contracts. -/
namespace Go.Proofs.Ytgajlplmpbaanaa
open Go.RowKit
set_option linter.unusedVariables false
set_option linter.unusedSimpArgs false
set_option maxRecDepth 100000

end Go.Proofs.Ytgajlplmpbaanaa

/- The reference's clamp and Round: their contracts. -/
namespace Go.Proofs.Ytgajlplmpbaanaa
open Go.RowKit
set_option linter.unusedVariables false
set_option linter.unusedSimpArgs false
set_option maxRecDepth 100000

end Go.Proofs.Ytgajlplmpbaanaa

/- The reference's BlockWithin: its contract. -/
namespace Go.Proofs.Ytgajlplmpbaanaa
open Go.RowKit
set_option linter.unusedVariables false
set_option linter.unusedSimpArgs false
set_option maxRecDepth 100000

end Go.Proofs.Ytgajlplmpbaanaa

/- Rows of numbers. -/
namespace Go.Proofs.Ytgajlplmpbaanaa
open Go.RowKit

end Go.Proofs.Ytgajlplmpbaanaa

/- The reference's many and PlaneJoin: their contracts. -/
namespace Go.Proofs.Ytgajlplmpbaanaa
open Go.RowKit
set_option linter.unusedVariables false
set_option linter.unusedSimpArgs false
set_option maxRecDepth 100000

end Go.Proofs.Ytgajlplmpbaanaa

/- What plane's Cut, Many and Join are to do, as the laws use it. -/
namespace Go.Proofs.Ytgajlplmpbaanaa
open Go.RowKit
set_option linter.unusedVariables false
set_option linter.unusedSimpArgs false
set_option maxRecDepth 100000

/-- plane.Cut's contract. -/
def PCutSpec : Prop := ∀ (l : List Int) (A : Option Addr) (c G : Nat) (x y : Int) (w : World), Seen w G A (ints .i64 l) → (∀ z ∈ l, In64 z) → l.length ≤ maxLen → l.length ≤ c → In64 x → In64 y → G ≤ w.heap.size →
    Calls Try.prog 9 #[.slice A l.length c, .int .i64 x, .int .i64 y] w fun e w' => ∃ v, e = .returned (.tuple #[v, .int .i64 (eCut l x y)]) ∧ Owns w.heap.size [blkRow v (oCut l x y)] w' ∧ Below w.heap.size w w'
/-- plane.Many's contract. -/
def PManySpec : Prop := ∀ (x y : Int) (w : World), In64 x → In64 y →
    Calls Try.prog 11 #[.int .i64 x, .int .i64 y] w fun e w' => e = .returned (.tuple #[.int .i64 (oMany x y), .int .i64 (eSides x y)]) ∧ Below w.heap.size w w'
theorem many01_any (HM : PManySpec) (w : World) : Calls Try.prog 11 #[.int .i64 0, .int .i64 1] w fun e w' => e = .returned (.tuple #[.int .i64 0, .int .i64 1]) ∧ Below w.heap.size w w' :=
  HM 0 1 w (by unfold In64; omega) (by unfold In64; omega)
theorem oCut_rows (l : List Int) (x y : Int) : (∀ r ∈ oCut l x y, r.length = 64) ∧ (oCut l x y).length ≤ 64 := by
  unfold oCut
  by_cases h : eCut l x y = 0
  · rw [if_pos h]
    refine ⟨cutK_rows, ?_⟩
    rw [cutL_length]
    by_cases hb : badWH x y
    · rw [eCut_bad hb] at h; omega
    · unfold badWH at hb; exact many_le (by omega) (by omega)
  · rw [if_neg h]; exact ⟨by simp, by simp⟩
end Go.Proofs.Ytgajlplmpbaanaa

/- A drawn region driven by hand: what may be taken first is taken first, where its result goes is told. No program is named here. -/
namespace Go.Proofs.Ytgajlplmpbaanaa
open Go.RowKit
set_option linter.unusedVariables false
set_option linter.unusedSimpArgs false
set_option maxRecDepth 100000
section
variable {P : Program} {ops : Array Oper} {Q : Exit → Act → World → Prop} {md : Region.Mode} {S : World → Prop} {fuel : Nat} {listed : Array Bool} {ts : List Value} {w : World}
theorem put_some (ts : List Value) (d : Nat) (v : Value) : (({ tmps := ts.toArray, defers := [] } : Act).put (some d) v) = { tmps := (ts.set d v).toArray, defers := [] } := by
  simp [Act.put]
/-- What yields in every world that meets S is taken first. -/
theorem take_pure (i : Nat) (d : Nat) (v : Value) (ts' : List Value) {oi : Oper} (hi : ops[i]? = some oi) (hd : oi.dst = some d) (hs : Region.noSelect ops = true) (hf : Region.free md ops listed i = true) (hr : (Region.ready md ops listed).contains i = true)
    (hQ : ∀ c a w, Q (.panic c) (a.put oi.dst v) w → Q (.panic c) a w) (hw : Region.wanted oi (yielded ops ts.toArray) = true) (hy : ∀ w, S w → (execOp ({ tmps := ts.toArray, defers := [] } : Act).eval oi).run P w = .ok (.value v) w) (hS : S w) (ht : ts.set d v = ts')
    (h : wpAnyH P md ops Q S fuel (listed.setIfInBounds i true) { tmps := ts'.toArray, defers := [] } w) : wpAnyH P md ops Q S (fuel + 1) listed { tmps := ts.toArray, defers := [] } w := by
  refine wpAnyH_take hi hs hf hr hQ (.inl ⟨hw, hy⟩) hS ?_
  rw [hd, put_some, ht]
  exact h
/-- A long load is taken first. -/
theorem take_load (i : Nat) (d : Nat) (ty : TypeId) (x : Operand) (b o : Nat) (cs : List Value) (ts' : List Value) {oi : Oper} {dd : TypeDesc} (hi : ops[i]? = some oi) (hd : oi.dst = some d) (hs : Region.noSelect ops = true) (hf : Region.free md ops listed i = true) (hr : (Region.ready md ops listed).contains i = true)
    (hQ : ∀ c a w, Q (.panic c) (a.put oi.dst (.agg cs.toArray)) w → Q (.panic c) a w) (hw : Region.wanted oi (yielded ops ts.toArray) = true) (ho : oi.op = .load ty x) (hx : ({ tmps := ts.toArray, defers := [] } : Act).eval x = .pointer (some ⟨b, o, none⟩))
    (hc : ∀ w, S w → w.rangeAt b o cs) (hu : P.underlying ty = some dd) (hdd : dd.isRow = true) (hsz : (P.info? ty).map (·.size) = some cs.length) (hS : S w) (ht : ts.set d (.agg cs.toArray) = ts')
    (h : wpAnyH P md ops Q S fuel (listed.setIfInBounds i true) { tmps := ts'.toArray, defers := [] } w) : wpAnyH P md ops Q S (fuel + 1) listed { tmps := ts.toArray, defers := [] } w := by
  refine wpAnyH_take hi hs hf hr hQ (yieldsIf_load_mid hw ty x ho b o hx cs dd hc hu hdd hsz) hS ?_
  rw [hd, put_some, ht]
  exact h
end
end Go.Proofs.Ytgajlplmpbaanaa
