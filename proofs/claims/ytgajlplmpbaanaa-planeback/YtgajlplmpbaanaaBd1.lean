/- Texts shared by the claims of this seat, in one. -/
import Derived.Below
import Derived.WalkKit
import Derived.Laws.OwnMore
import Derived.Deep.Draws
import Derived.Deep.QuietTactic
import Derived.BigQuiet
import Derived.Laws.AppendOwn
import Derived.OwnWalk
import Derived.Deep.LoopGhost
import Derived.Deep.RegionHeld3
import Derived.Maps.AppendAt
import Derived.Deep.AppendLies
import Derived.Deep.MidRow
import Derived.Deep.WholeRow
import Derived.Test.YtgajlplmpbaanaaRows
import Derived.Laws.ResultCell
import Derived.ChangeKeysEq
import Derived.OpenShut
import Derived.Great.BuildSlice
import Derived.Laws.MakeOwn
import Derived.Deep.Cut
import Derived.Deep.DeepCutAuto
/- Words for memory that all walks share: a slice that reads as a list of cells, kept over what a call may do. No program is named here. -/
namespace Go.RowKit
theorem Below.drewN {B : Nat} {a w : World} (h : Below B a w) (n : Nat) : Below B a (w.drewN n) := ⟨h.os, h.tape, h.output, h.size, h.block⟩
end Go.RowKit
namespace Go.Proofs.Ytgajlplmpbaanaa
open Go.RowKit
set_option linter.unusedVariables false
set_option linter.unusedSimpArgs false
set_option maxRecDepth 100000

/-- A fact put out of the walk's sight. -/
theorem veil {p : Prop} (h : p) : Hid p := h

/-- The cells from address A on are xs, and they lie below block B. -/
def Seen (w : World) (B : Nat) (A : Option Addr) (xs : List Value) : Prop :=
  xs = [] ∨ ∃ g o, A = some ⟨g, o, none⟩ ∧ g < B ∧ ∀ j u, xs[j]? = some u → w.cell? ⟨g, o + j, none⟩ = some u

theorem Seen.nil (w : World) (B : Nat) (A : Option Addr) : Seen w B A [] := .inl rfl

theorem Seen.of (w w' : World) {B : Nat} {A : Option Addr} {xs : List Value} (h : Seen w B A xs) (hk : ∀ p : Addr, p.block < B → w'.cell? p = w.cell? p) : Seen w' B A xs := by
  rcases h with h | ⟨g, o, e, hg, hc⟩
  · exact .inl h
  · exact .inr ⟨g, o, e, hg, fun j u hu => (hk _ hg).trans (hc j u hu)⟩

theorem Seen.below {w w' : World} {B C : Nat} {A : Option Addr} {xs : List Value} (h : Seen w B A xs) (hb : Below C w w') (hBC : B ≤ C) : Seen w' B A xs :=
  h.of w w' fun _ hp => hb.cell (Nat.lt_of_lt_of_le hp hBC)

theorem Seen.up {w : World} {B B' : Nat} {A : Option Addr} {xs : List Value} (h : Seen w B A xs) (hB : B ≤ B') : Seen w B' A xs := by
  rcases h with h | ⟨g, o, e, hg, hc⟩
  · exact .inl h
  · exact .inr ⟨g, o, e, Nat.lt_of_lt_of_le hg hB, hc⟩

theorem Seen.at {w : World} {B : Nat} {A : Option Addr} {xs : List Value} (h : Seen w B A xs) (hne : 0 < xs.length) :
    ∃ g o, A = some ⟨g, o, none⟩ ∧ g < B ∧ ∀ j u, xs[j]? = some u → w.cell? ⟨g, o + j, none⟩ = some u := by
  rcases h with h | h
  · subst h; simp at hne
  · exact h

/-- Integers in a row. -/
def ints (k : IntKind) (xs : List Int) : List Value := xs.map (Value.int k)
theorem ints_length (k : IntKind) (xs : List Int) : (ints k xs).length = xs.length := by simp [ints]
theorem ints_at {k : IntKind} {xs : List Int} {j : Nat} {x : Int} (h : xs[j]? = some x) : (ints k xs)[j]? = some (.int k x) := by
  simp [ints, h]
theorem some_at {α : Type} {xs : List α} {j : Nat} (h : j < xs.length) : ∃ x, xs[j]? = some x := ⟨xs[j], List.getElem?_eq_getElem h⟩
theorem take_snoc {α : Type} {xs : List α} {k : Nat} {x : α} (h : xs[k]? = some x) : xs.take (k + 1) = xs.take k ++ [x] := by
  rw [List.take_add_one, h]; rfl
/-- One number of a row that came in, with its cell. -/
theorem Seen.int {w : World} {B : Nat} {A : Option Addr} {kd : IntKind} {xs : List Int} (h : Seen w B A (ints kd xs)) {k : Nat} (hk : k < xs.length) :
    ∃ g o x, A = some ⟨g, o, none⟩ ∧ g < B ∧ xs[k]? = some x ∧ w.cell? ⟨g, o + k, none⟩ = some (.int kd x) := by
  obtain ⟨g, o, e, hg, hc⟩ := h.at (by rw [ints_length]; omega)
  obtain ⟨x, hx⟩ := some_at hk
  exact ⟨g, o, x, e, hg, hx, hc k _ (ints_at hx)⟩
/-- A block that was just laid. -/
theorem Seen.new (w : World) (xs : List Value) (t : TypeId) (B : Nat) (hB : w.heap.size < B) : Seen (w.alloc (.cells xs.toArray t)) B (some ⟨w.heap.size, 0, none⟩) xs := by
  refine .inr ⟨_, _, rfl, hB, fun j u hu => ?_⟩
  rw [World.cell?_alloc_at _ _ _ _ rfl]
  simpa using hu
theorem Seen.alloc {w : World} {B : Nat} {A : Option Addr} {xs : List Value} (h : Seen w B A xs) (hB : B ≤ w.heap.size) (o : Obj) : Seen (w.alloc o) B A xs :=
  h.of w _ fun p hp => World.cell?_alloc_lt w o p (Nat.lt_of_lt_of_le hp hB)
theorem below1 (w : World) (a : Obj) : Below w.heap.size w (w.alloc a) := (Below.refl _ _).alloc (Nat.le_refl _) a
theorem below2 (w : World) (a b : Obj) : Below w.heap.size w ((w.alloc a).alloc b) := (below1 w a).alloc (by simp) b
theorem ints_one {k : IntKind} {l : List Int} : ∀ u ∈ ints k l, u.oneCell' = true := by
  intro u hu
  simp only [ints, List.mem_map] at hu
  obtain ⟨f, _, rfl⟩ := hu
  rfl
/-- What the call owns stays its own over what leaves all blocks so far alone. -/
theorem own_below {w w' : World} {B : Nat} {e : TypeId} {size : Nat} {v : Value} {n : Nat} {xs : List Value} (h : w.ownsRow B e size v n xs) (hb : Below w.heap.size w w') : w'.ownsRow B e size v n xs := by
  obtain ⟨h1, h2⟩ := h
  refine ⟨h1, ?_⟩
  rcases h2 with h2 | ⟨g, cap, cur, hv, hg, hh, r⟩
  · exact .inl h2
  · have hlt : g < w.heap.size := by
      rcases Nat.lt_or_ge g w.heap.size with hl | hl
      · exact hl
      · rw [Array.getElem?_eq_none hl] at hh; cases hh
    exact .inr ⟨g, cap, cur, hv, hg, by rw [hb.block g hlt]; exact hh, r⟩
theorem own_base {w : World} {B B' : Nat} {e : TypeId} {size : Nat} {v : Value} {n : Nat} {xs : List Value} (h : w.ownsRow B e size v n xs) (hB : B' ≤ B) : w.ownsRow B' e size v n xs := by
  obtain ⟨h1, h2⟩ := h
  refine ⟨h1, ?_⟩
  rcases h2 with h2 | ⟨g, cap, cur, hv, hg, r⟩
  · exact .inl h2
  · exact .inr ⟨g, cap, cur, hv, Nat.le_trans hB hg, r⟩
theorem own_form' {w : World} {B : Nat} {e : TypeId} {size : Nat} {v : Value} {n : Nat} {xs : List Value} (h : w.ownsRow B e size v n xs) : ∃ A c, v = .slice A n c ∧ Seen w w.heap.size A xs ∧ n ≤ c ∧ c ≤ maxLen := by
  obtain ⟨h1, h2⟩ := h
  rcases h2 with ⟨rfl, rfl⟩ | ⟨g, cap, cur, rfl, hg, hh, hn, hc, hs, ht⟩
  · exact ⟨none, 0, rfl, .inl (by simpa using h1), Nat.le_refl _, Nat.zero_le _⟩
  · refine ⟨_, _, rfl, .inr ⟨g, 0, rfl, ?_, fun j u hu => ?_⟩, hn, hc⟩
    · rcases Nat.lt_or_ge g w.heap.size with hl | hl
      · exact hl
      · rw [Array.getElem?_eq_none hl] at hh; cases hh
    · have hj : j < n * size := by have := (List.getElem?_eq_some_iff.1 hu).1; omega
      rw [← ht, List.getElem?_take, if_pos hj] at hu
      simp [World.cell?, hh]
      simpa using hu
theorem ret_two {a a' b b' : Value} (h : a = a') (k : b = b') : Ending.returned (.tuple #[a, b]) = .returned (.tuple #[a', b']) := by rw [h, k]
theorem ret_bool {a b : Bool} (h : a = b) : Ending.returned (.bool a) = .returned (.bool b) := by rw [h]
end Go.Proofs.Ytgajlplmpbaanaa

/- A number of 64 bits. -/
namespace Go.Proofs.Ytgajlplmpbaanaa
def In64 (n : Int) : Prop := -9223372036854775808 ≤ n ∧ n ≤ 9223372036854775807
end Go.Proofs.Ytgajlplmpbaanaa

/- Rows of the call's own, any number of them, that lie apart: what an append, a new block and a call do to them. No program is named here. -/
namespace Go.Proofs.Ytgajlplmpbaanaa
open Go.RowKit
set_option linter.unusedVariables false
set_option linter.unusedSimpArgs false
set_option maxRecDepth 100000

structure Row where
  e : TypeId
  size : Nat
  v : Value
  n : Nat
  xs : List Value
def Row.apart (r s : Row) : Prop := ∀ g, r.v.ownBlock = some g → s.v.ownBlock ≠ some g
theorem Row.apart.symm {r s : Row} (h : r.apart s) : s.apart r := fun g hg hr => h g hr hg

/-- The rows lie in memory from block B on, no two in one block. -/
structure Owns (B : Nat) (rs : List Row) (w : World) : Prop where
  base : B ≤ w.heap.size
  each : ∀ r ∈ rs, w.ownsRow B r.e r.size r.v r.n r.xs
  apart : rs.Pairwise Row.apart

section
variable {B : Nat} {rs ts : List Row} {r s : Row} {w w' : World}
theorem Owns.nil {B : Nat} {w : World} (h : B ≤ w.heap.size) : Owns B [] w := ⟨h, by simp, .nil⟩
theorem Owns.fresh (h : Owns B rs w) (e : TypeId) (size : Nat) : Owns B (⟨e, size, .slice none 0 0, 0, []⟩ :: rs) w :=
  ⟨h.base, fun x hx => by
    rcases List.mem_cons.1 hx with rfl | hx
    · exact World.ownsRow_nil _ _ _ _
    · exact h.each x hx, List.pairwise_cons.2 ⟨fun s _ g hg => (by cases hg), h.apart⟩⟩
theorem Owns.below (h : Owns B rs w) (hb : Below w.heap.size w w') : Owns B rs w' := ⟨Nat.le_trans h.base hb.size, fun x hx => own_below (h.each x hx) hb, h.apart⟩
theorem Owns.alloc (h : Owns B rs w) (o : Obj) : Owns B rs (w.alloc o) := ⟨by have := h.base; simp; omega, fun x hx => (h.each x hx).alloc o, h.apart⟩
theorem Owns.drew (h : Owns B rs w) : Owns B rs w.drew := ⟨h.base, fun x hx => h.each x hx, h.apart⟩
theorem Owns.drewN (h : Owns B rs w) (n : Nat) : Owns B rs (w.drewN n) := h.below ((Below.refl _ _).drewN n)
/-- What a call hands back lies apart from what was there. -/
theorem Owns.call (h : Owns B rs w) (hb : Below w.heap.size w w') (h2 : Owns w.heap.size ts w') : Owns B (ts ++ rs) w' := by
  have hB := h.base
  refine ⟨Nat.le_trans hB hb.size, fun x hx => ?_, List.pairwise_append.2 ⟨h2.apart, h.apart, fun a ha b hb' g hg hgb => ?_⟩⟩
  · rcases List.mem_append.1 hx with hx | hx
    · exact own_base (h2.each x hx) hB
    · exact own_below (h.each x hx) hb
  · have h3 := ((h2.each a ha).lt g hg).1
    have h4 := ((h.each b hb').lt g hgb).2
    omega
theorem Owns.one (hB : B ≤ w.heap.size) (h : w.ownsRow B r.e r.size r.v r.n r.xs) : Owns B [r] w := ⟨hB, fun x hx => by simp at hx; subst hx; exact h, List.pairwise_singleton _ _⟩
theorem Owns.made (h : Owns B rs w) (e : TypeId) (size : Nat) (cur : Array Value) (cap : Nat) (hm : cap ≤ maxLen) (hs : cur.size = cap * size) :
    Owns B (⟨e, size, .slice (some ⟨w.heap.size, 0, none⟩) 0 cap, 0, []⟩ :: rs) (w.alloc (.cells cur e)) :=
  h.call (below1 _ _) (ts := [⟨e, size, .slice (some ⟨w.heap.size, 0, none⟩) 0 cap, 0, []⟩]) (.one (by simp) (World.ownsRow_made _ _ _ (Nat.le_refl _) hm hs))
theorem Owns.seen (h : Owns B rs w) (hr : r ∈ rs) : ∃ A c, r.v = .slice A r.n c ∧ Seen w w.heap.size A r.xs ∧ r.n ≤ c ∧ c ≤ maxLen := own_form' (h.each r hr)
end

/-- A row of integers. -/
def intRow (e : TypeId) (k : IntKind) (v : Value) (l : List Int) : Row := ⟨e, 1, v, l.length, ints k l⟩
/-- Rows of integers, each behind a value of a list. -/
def SeenRows (w : World) (G : Nat) (k : IntKind) (vs : List Value) (ps : List (List Int)) : Prop :=
  vs.length = ps.length ∧ ∀ (j : Nat) (v : Value) (p : List Int), vs[j]? = some v → ps[j]? = some p → ∃ A c, v = .slice A p.length c ∧ Seen w G A (ints k p) ∧ p.length ≤ maxLen
section
variable {w w' : World} {G : Nat} {k : IntKind} {vs : List Value} {ps : List (List Int)}
theorem SeenRows.nil (w : World) (G : Nat) (k : IntKind) : SeenRows w G k [] [] := ⟨rfl, by simp⟩
theorem SeenRows.of (h : SeenRows w G k vs ps) (hk : ∀ A xs, Seen w G A xs → Seen w' G A xs) : SeenRows w' G k vs ps :=
  ⟨h.1, fun j v p hv hp => by obtain ⟨A, c, h1, h2, h3⟩ := h.2 j v p hv hp; exact ⟨A, c, h1, hk _ _ h2, h3⟩⟩
theorem SeenRows.below {C : Nat} (h : SeenRows w G k vs ps) (hb : Below C w w') (hG : G ≤ C) : SeenRows w' G k vs ps := h.of fun A xs hs => hs.below hb hG
theorem SeenRows.up {G' : Nat} (h : SeenRows w G k vs ps) (hG : G ≤ G') : SeenRows w G' k vs ps :=
  ⟨h.1, fun j v p hv hp => by obtain ⟨A, c, h1, h2, h3⟩ := h.2 j v p hv hp; exact ⟨A, c, h1, h2.up hG, h3⟩⟩
theorem SeenRows.at (h : SeenRows w G k vs ps) {j : Nat} (hj : j < ps.length) : ∃ A c p, vs[j]? = some (.slice A p.length c) ∧ ps[j]? = some p ∧ Seen w G A (ints k p) ∧ p.length ≤ maxLen := by
  obtain ⟨p, hp⟩ := some_at hj
  obtain ⟨v, hv⟩ := some_at (xs := vs) (j := j) (by rw [h.1]; exact hj)
  obtain ⟨A, c, e, hs, hl⟩ := h.2 j v p hv hp
  exact ⟨A, c, p, by rw [hv, e], hp, hs, hl⟩
/-- Out of rows of the call's own. -/
theorem Owns.rows {B : Nat} {e : TypeId} {rs : List Row} (h : Owns B rs w) (hl : vs.length = ps.length) (hr : ∀ (j : Nat) (v : Value) (p : List Int), vs[j]? = some v → ps[j]? = some p → intRow e k v p ∈ rs) : SeenRows w w.heap.size k vs ps := by
  refine ⟨hl, fun j v p hv hp => ?_⟩
  obtain ⟨A, c, h1, h2, h3, h4⟩ := h.seen (hr j v p hv hp)
  exact ⟨A, c, h1, h2, Nat.le_trans h3 h4⟩
end
theorem Seen.cell {w : World} {B : Nat} {A : Option Addr} {xs : List Value} (h : Seen w B A xs) {k : Nat} {u : Value} (hk : xs[k]? = some u) :
    ∃ g o, A = some ⟨g, o, none⟩ ∧ g < B ∧ w.cell? ⟨g, o + k, none⟩ = some u := by
  obtain ⟨g, o, e, hg, hc⟩ := h.at (by have := (List.getElem?_eq_some_iff.1 hk).1; omega)
  exact ⟨g, o, e, hg, hc k u hk⟩
end Go.Proofs.Ytgajlplmpbaanaa

/- Arrays and structs by value, of whatever number of cells: their load, their index; rows of triples. No program is named here. -/
namespace Go.Proofs.Ytgajlplmpbaanaa
open Go.RowKit
set_option linter.unusedVariables false
set_option linter.unusedSimpArgs false
set_option maxRecDepth 100000

theorem range_below {w w' : World} {B b o : Nat} {xs : List Value} (h : w.rangeAt b o xs) (hb : Below B w w') (hB : b < B) : w'.rangeAt b o xs := fun j v hv => (hb.cell (by exact hB)).trans (h j v hv)

end Go.Proofs.Ytgajlplmpbaanaa

/- A block whose cells are all known, and one cell of it written. No program is named here. -/
namespace Go.Proofs.Ytgajlplmpbaanaa
open Go.RowKit
set_option linter.unusedVariables false
set_option linter.unusedSimpArgs false
set_option maxRecDepth 100000

/-- Block b is these cells. -/
def Blk (w : World) (b : Nat) (xs : List Value) (t : TypeId) : Prop := w.heap[b]? = some (.cells xs.toArray t (0, 0))
section
variable {w w' : World} {b : Nat} {xs : List Value} {t : TypeId}
theorem Blk.new (w : World) (xs : List Value) (t : TypeId) : Blk (w.alloc (.cells xs.toArray t)) w.heap.size xs t := heap_alloc_last w _
theorem Blk.lt (h : Blk w b xs t) : b < w.heap.size := (Array.getElem?_eq_some_iff.1 h).1
theorem Blk.cell (h : Blk w b xs t) {i : Nat} {v : Value} (hv : xs[i]? = some v) : w.cell? ⟨b, i, none⟩ = some v := by
  rw [cell_of_row w b i _ _ _ h]; simpa using hv
theorem Blk.frozen (h : Blk w b xs t) (i : Nat) : w.frozen? ⟨b, i, none⟩ = false := frozen_of_row w b i _ _ h
theorem Blk.range (h : Blk w b xs t) : w.rangeAt b 0 xs := fun j v hv => by rw [Nat.zero_add]; exact h.cell hv
theorem Blk.below (h : Blk w b xs t) {C : Nat} (hb : Below C w w') (hC : b < C) : Blk w' b xs t := by
  unfold Blk at h ⊢; rw [hb.block b hC]; exact h
theorem Blk.set (h : Blk w b xs t) (i : Nat) (v : Value) : Blk (w.setCell ⟨b, i, none⟩ v) b (xs.set i v) t := by
  have := heap_setCell_same w b i xs.toArray t v h
  unfold Blk
  rw [this]
  simp
theorem Blk.drewN (h : Blk w b xs t) (n : Nat) : Blk (w.drewN n) b xs t := h
theorem Owns.setCell {B : Nat} {rs : List Row} (h : Owns B rs w) {a : Addr} (ha : a.block < B) (v : Value) : Owns B rs (w.setCell a v) := by
  refine ⟨by have := h.base; simpa [World.setCell] using this, fun r hr => ?_, h.apart⟩
  obtain ⟨h1, h2⟩ := h.each r hr
  refine ⟨h1, ?_⟩
  rcases h2 with h2 | ⟨g, cap, cur, hv, hg, hh, r⟩
  · exact .inl h2
  · exact .inr ⟨g, cap, cur, hv, hg, by rw [Below.heap_setCell _ _ _ _ (by omega)]; exact hh, r⟩
end
/-- A whole value into the block made last. -/
theorem wpList_store_new {P : Program} {ops : Array Oper} {rest : List Oper} {o : Oper} {a : Act} {Q : Exit → Act → World → Prop} (w0 : World) (hgd : o.guard = none) (t : TypeId) (x y : Operand) (ho : o.op = .store t x y) (c : Array Value) (c' : List Value)
    (hx : a.eval x = .pointer (some ⟨w0.heap.size, 0, none⟩)) (hy : a.eval y = .agg c'.toArray) (hi : (P.info? t).map (·.size) = some c'.length) (hsz : c.size = c'.length) (h1 : ∀ u ∈ c', u.oneCell' = true)
    (h : wpList P ops Q rest (a.put o.dst undef) (w0.alloc (.cells c'.toArray t))) : wpList P ops Q (o :: rest) a (w0.alloc (.cells c t)) := by
  refine wpList_plain hgd fun _ hK => ?_
  have hr := run_storeAt_new (P := P) w0 t c c'.toArray (by simpa using hi) (by simpa using hsz) (all_oneCell_toArray h1)
  unfold Oper.wp execOp
  simp only [ho, hx, hy, hr, Sem.run_bind, Sem.run_pure, Result.andThen_ok]
  exact hK _ _ h
theorem Blk.kept {w w' : World} {b : Nat} {xs : List Value} {t : TypeId} {r : Option Nat} (h : Blk w b xs t) (hg : w.grownBy w' r) (hr : some b ≠ r) : Blk w' b xs t := by
  unfold Blk at h ⊢
  rw [hg.block b (Array.getElem?_eq_some_iff.1 h).1 hr]; exact h
theorem Owns.kept {w w' : World} {B b : Nat} {rs : List Row} (h : Owns B rs w) (hg : w.grownBy w' (some b)) (hb : b < B) : Owns B rs w' := by
  refine ⟨Nat.le_trans h.base hg.size, fun r hr => (h.each r hr).kept hg ?_, h.apart⟩
  cases hv : r.v.ownBlock with
  | none => exact .inl rfl
  | some g => exact .inr fun e => by injection e with e; have := ((h.each r hr).lt g hv).1; omega
end Go.Proofs.Ytgajlplmpbaanaa

/- A block's value (64 numbers), and whether two are equal. -/
namespace Go.Proofs.Ytgajlplmpbaanaa
open Go.RowKit
set_option linter.unusedVariables false
set_option linter.unusedSimpArgs false
set_option maxRecDepth 100000

theorem info_blk : (Try.prog.info? 31).map (·.size) = some 64 := by kernel_rfl
theorem info_blkn {xs : List Value} (h : xs.length = 64) : (Try.prog.info? 31).map (·.size) = some xs.length := by rw [h]; exact info_blk
end Go.Proofs.Ytgajlplmpbaanaa

/- The zero block, three blocks just laid, a block and a code handed back: what the walks over blocks share. -/
namespace Go.Proofs.Ytgajlplmpbaanaa
open Go.RowKit
set_option linter.unusedVariables false
set_option linter.unusedSimpArgs false
set_option maxRecDepth 100000

def zeroB : List Value := ints .i64 (List.replicate 64 0)
theorem zeroB_length : zeroB.length = 64 := by simp [zeroB, ints_length]
end Go.Proofs.Ytgajlplmpbaanaa

/- Rounding and clamping in numbers. -/
namespace Go.Proofs.Ytgajlplmpbaanaa
open Go.RowKit
set_option linter.unusedVariables false
set_option linter.unusedSimpArgs false
set_option maxRecDepth 100000

/-- n within bounds. -/
def clampZ (n lo hi : Int) : Int := if n < lo then lo else if hi < n then hi else n
theorem retI {x y : Int} (h : x = y) : (Ending.returned (.int .i64 x)) = .returned (.int .i64 y) := by rw [h]
end Go.Proofs.Ytgajlplmpbaanaa

/- Rounding and clamping in numbers; blocks made number by number. -/
namespace Go.Proofs.Ytgajlplmpbaanaa
open Go.RowKit
set_option linter.unusedVariables false
set_option linter.unusedSimpArgs false
set_option maxRecDepth 100000

/-- All numbers within bounds. -/
def inB (lo hi : Int) (cs : List Int) : Bool := cs.all fun x => decide (lo ≤ x) && decide (x ≤ hi)
theorem inB_mem {lo hi : Int} {cs : List Int} : inB lo hi cs = true ↔ ∀ x ∈ cs, lo ≤ x ∧ x ≤ hi := by simp [inB]
theorem inB_at {lo hi : Int} {cs : List Int} (h : inB lo hi cs = true) {i : Nat} {x : Int} (hx : cs[i]? = some x) : lo ≤ x ∧ x ≤ hi := inB_mem.1 h x (List.mem_of_getElem? hx)
end Go.Proofs.Ytgajlplmpbaanaa

/- Planes in blocks, in numbers: cut, joined, there and back, edges, clamped. No program is named here. -/
namespace Go.Proofs.Ytgajlplmpbaanaa
set_option linter.unusedVariables false
set_option linter.unusedSimpArgs false
set_option maxRecDepth 100000

def acrossN (W : Nat) : Nat := (W + 7) / 8
def manyN (W H : Nat) : Nat := acrossN W * acrossN H
/-- One number of the block whose corner is at row y, column x. -/
def cellAt (l : List Int) (W H y x i : Nat) : Int := l.getD (W * min (y + i / 8) (H - 1) + min (x + i % 8) (W - 1)) 0 - 128
def blockAt (l : List Int) (W H y x : Nat) : List Int := (List.range 64).map (cellAt l W H y x)
def cutK (l : List Int) (W H n : Nat) : List (List Int) := (List.range n).map fun k => blockAt l W H (8 * (k / acrossN W)) (8 * (k % acrossN W))
def cutL (l : List Int) (W H : Nat) : List (List Int) := cutK l W H (manyN W H)
/-- One sample of what is joined. -/
def pixAt (L : List (List Int)) (W j : Nat) : Int := clampZ ((L.getD (j / W / 8 * acrossN W + j % W / 8) []).getD (j / W % 8 * 8 + j % W % 8) 0 + 128) 0 255
def joinK (L : List (List Int)) (W n : Nat) : List Int := (List.range n).map (pixAt L W)
def joinL (L : List (List Int)) (W H : Nat) : List Int := joinK L W (W * H)
def badWH (w h : Int) : Prop := w < 1 ∨ 64 < w ∨ h < 1 ∨ 64 < h
instance (w h : Int) : Decidable (badWH w h) := by unfold badWH; infer_instance
def eSides (w h : Int) : Int := if badWH w h then 1 else 0
def eCut (l : List Int) (w h : Int) : Int := if badWH w h then 1 else if (l.length : Int) ≠ w * h then 4 else if inB 0 255 l = true then 0 else 1
def oCut (l : List Int) (w h : Int) : List (List Int) := if eCut l w h = 0 then cutL l w.toNat h.toNat else []
def eJoin (L : List (List Int)) (w h : Int) : Int := if badWH w h then 1 else if L.length ≠ manyN w.toNat h.toNat then 4 else if (∀ r ∈ L, inB (-40000) 40000 r = true) then 0 else 1
def oJoin (L : List (List Int)) (w h : Int) : List Int := if eJoin L w h = 0 then joinL L w.toNat h.toNat else []
def oMany (w h : Int) : Int := if badWH w h then 0 else (manyN w.toNat h.toNat : Nat)
theorem blockAt_length (l : List Int) (W H y x : Nat) : (blockAt l W H y x).length = 64 := by simp [blockAt]
theorem cutK_length (l : List Int) (W H n : Nat) : (cutK l W H n).length = n := by simp [cutK]
theorem cutL_length (l : List Int) (W H : Nat) : (cutL l W H).length = manyN W H := cutK_length l W H _
theorem cutK_rows {l : List Int} {W H n : Nat} : ∀ r ∈ cutK l W H n, r.length = 64 := by
  intro r hr
  obtain ⟨k, _, rfl⟩ := List.mem_map.1 hr
  exact blockAt_length ..
theorem acrossN_pos {W : Nat} (h : 0 < W) : 0 < acrossN W := by unfold acrossN; omega
theorem joinK_length (L : List (List Int)) (W n : Nat) : (joinK L W n).length = n := by simp [joinK]
theorem mul_div_at {W y x : Nat} (hx : x < W) : (W * y + x) / W = y ∧ (W * y + x) % W = x := by
  have hp : 0 < W := by omega
  exact ⟨by rw [Nat.mul_add_div hp, Nat.div_eq_of_lt hx]; omega, by rw [Nat.mul_add_mod, Nat.mod_eq_of_lt hx]⟩
theorem idx_lt {W H y x : Nat} (hW : 0 < W) (hH : 0 < H) : W * min y (H - 1) + min x (W - 1) < W * H := by
  have h1 : min y (H - 1) + 1 ≤ H := by omega
  have h2 : min x (W - 1) < W := by omega
  have h3 : W * (min y (H - 1) + 1) ≤ W * H := Nat.mul_le_mul_left W h1
  rw [Nat.mul_add, Nat.mul_one] at h3
  exact Nat.lt_of_lt_of_le (Nat.add_lt_add_left h2 _) h3
theorem clampZ_id {n lo hi : Int} (h : lo ≤ n ∧ n ≤ hi) : clampZ n lo hi = n := by unfold clampZ; rw [if_neg (by omega), if_neg (by omega)]
theorem cutL_get {l : List Int} {W H k : Nat} (hk : k < manyN W H) : (cutL l W H)[k]? = some (blockAt l W H (8 * (k / acrossN W)) (8 * (k % acrossN W))) := by
  unfold cutL cutK; rw [List.getElem?_map, List.getElem?_range hk]; rfl
theorem blockAt_get {l : List Int} {W H y x i : Nat} (hi : i < 64) : (blockAt l W H y x)[i]? = some (cellAt l W H y x i) := by
  unfold blockAt; rw [List.getElem?_map, List.getElem?_range hi]; rfl
theorem getD_of {α : Type} {l : List α} {i : Nat} {x d : α} (h : l[i]? = some x) : l.getD i d = x := by rw [List.getD_eq_getElem?_getD, h]; rfl
/-- Of the blocks' own places. -/
theorem places {W H r c : Nat} (hr : r < H) (hc : c < W) : r / 8 * acrossN W + c / 8 < manyN W H ∧ (r / 8 * acrossN W + c / 8) / acrossN W = r / 8 ∧ (r / 8 * acrossN W + c / 8) % acrossN W = c / 8 := by
  have hp : 0 < acrossN W := acrossN_pos (by omega)
  have h1 : c / 8 < acrossN W := by unfold acrossN; omega
  have h2 : r / 8 + 1 ≤ acrossN H := by unfold acrossN; omega
  have h3 := mul_div_at (W := acrossN W) (y := r / 8) h1
  rw [Nat.mul_comm] at h3
  refine ⟨?_, h3.1, h3.2⟩
  have h4 : (r / 8 + 1) * acrossN W ≤ acrossN H * acrossN W := Nat.mul_le_mul_right _ h2
  rw [Nat.add_mul, Nat.one_mul, Nat.mul_comm (acrossN H)] at h4
  exact Nat.lt_of_lt_of_le (Nat.add_lt_add_left h1 _) h4
/-- There and back. -/
theorem join_cut {l : List Int} {W H : Nat} (hW : 0 < W) (hH : 0 < H) (hl : l.length = W * H) (hb : inB 0 255 l = true) : joinL (cutL l W H) W H = l := by
  apply List.ext_getElem?
  intro j
  by_cases hj : j < W * H
  · unfold joinL joinK
    rw [List.getElem?_map, List.getElem?_range hj]
    have hr : j / W < H := Nat.div_lt_of_lt_mul hj
    have hc : j % W < W := Nat.mod_lt _ hW
    obtain ⟨p1, p2, p3⟩ := places hr hc
    have hi : j / W % 8 * 8 + j % W % 8 < 64 := by omega
    have hx : l[j]? = some l[j] := List.getElem?_eq_getElem (by omega)
    rw [hx]
    simp only [Option.map_some, Option.some.injEq]
    unfold pixAt
    rw [getD_of (cutL_get p1), p2, p3, getD_of (blockAt_get hi)]
    unfold cellAt
    have e1 : 8 * (j / W / 8) + (j / W % 8 * 8 + j % W % 8) / 8 = j / W := by omega
    have e2 : 8 * (j % W / 8) + (j / W % 8 * 8 + j % W % 8) % 8 = j % W := by omega
    rw [e1, e2, Nat.min_eq_left (by omega), Nat.min_eq_left (by omega), Nat.div_add_mod, getD_of hx]
    have h8 := inB_at hb hx
    rw [clampZ_id (by omega)]; omega
  · rw [List.getElem?_eq_none (by rw [joinL, joinK_length]; omega), List.getElem?_eq_none (by omega)]
theorem cell_rng {l : List Int} {W H y x i : Nat} (hW : 0 < W) (hH : 0 < H) (hl : l.length = W * H) (hb : inB 0 255 l = true) : -128 ≤ cellAt l W H y x i ∧ cellAt l W H y x i ≤ 127 := by
  unfold cellAt
  have h1 := idx_lt (W := W) (H := H) (y := y + i / 8) (x := x + i % 8) hW hH
  rw [← hl] at h1
  have hx : l[W * min (y + i / 8) (H - 1) + min (x + i % 8) (W - 1)]? = some _ := List.getElem?_eq_getElem h1
  rw [getD_of hx]
  have := inB_at hb hx
  omega
theorem many_le {W H : Nat} (hW : W ≤ 64) (hH : H ≤ 64) : manyN W H ≤ 64 := by
  have h1 : acrossN W ≤ 8 := by unfold acrossN; omega
  have h2 : acrossN H ≤ 8 := by unfold acrossN; omega
  exact Nat.mul_le_mul h1 h2
end Go.Proofs.Ytgajlplmpbaanaa

/- The reference's outside, in a text of its own. -/
namespace Go.Proofs.Ytgajlplmpbaanaa
open Go.RowKit
set_option linter.unusedVariables false
set_option linter.unusedSimpArgs false
set_option maxRecDepth 100000

end Go.Proofs.Ytgajlplmpbaanaa

/- Rows of integers of one length, one behind another in memory: blocks in a slice. No program is named here. -/
namespace Go.Proofs.Ytgajlplmpbaanaa
open Go.RowKit
set_option linter.unusedVariables false
set_option linter.unusedSimpArgs false
set_option maxRecDepth 100000

/-- Rows of integers, one behind another. -/
def rowsC (L : List (List Int)) : List Value := L.flatMap (ints .i64)
theorem rowsC_length {n : Nat} : ∀ {L : List (List Int)}, (∀ r ∈ L, r.length = n) → (rowsC L).length = L.length * n
  | [], _ => by simp [rowsC]
  | r :: L, h => by
    have h1 := rowsC_length (L := L) fun x hx => h x (List.mem_cons_of_mem _ hx)
    have h2 := h r List.mem_cons_self
    simp only [rowsC, List.flatMap_cons, List.length_append, ints_length, List.length_cons] at h1 ⊢
    rw [h1, h2, Nat.add_mul]; omega
theorem rowsC_at {n : Nat} : ∀ {L : List (List Int)}, (∀ r ∈ L, r.length = n) → ∀ {i j : Nat} {r : List Int}, L[i]? = some r → j < n → (rowsC L)[i * n + j]? = (ints .i64 r)[j]?
  | [], _, i, j, r, h, _ => by simp at h
  | s :: L, hl, 0, j, r, h, hj => by
    simp at h; subst h
    have := hl s List.mem_cons_self
    rw [rowsC, List.flatMap_cons, Nat.zero_mul, Nat.zero_add, List.getElem?_append_left (by rw [ints_length]; omega)]
  | s :: L, hl, i + 1, j, r, h, hj => by
    rw [List.getElem?_cons_succ] at h
    have h2 := hl s List.mem_cons_self
    have ih := rowsC_at (L := L) (fun x hx => hl x (List.mem_cons_of_mem _ hx)) h hj
    rw [rowsC, List.flatMap_cons, List.getElem?_append_right (by rw [ints_length, h2, Nat.add_mul]; omega), ints_length, h2, show (i + 1) * n + j - n = i * n + j by rw [Nat.add_mul]; omega]
    exact ih
/-- One row of a slice that is seen. -/
theorem Seen.row {w : World} {G n : Nat} {A : Option Addr} {L : List (List Int)} (h : Seen w G A (rowsC L)) (hl : ∀ r ∈ L, r.length = n) (hp : 0 < n) {k : Nat} (hk : k < L.length) :
    ∃ g o r, A = some ⟨g, o, none⟩ ∧ g < G ∧ L[k]? = some r ∧ r.length = n ∧ w.rangeAt g (o + k * n) (ints .i64 r) := by
  obtain ⟨r, hr⟩ := some_at hk
  have hrl := hl r (List.mem_of_getElem? hr)
  have hlt : 0 < (rowsC L).length := by rw [rowsC_length hl]; exact Nat.mul_pos (by omega) hp
  obtain ⟨g, o, e, hg, hc⟩ := h.at hlt
  refine ⟨g, o, r, e, hg, hr, hrl, fun j v hv => ?_⟩
  have hj : j < n := by have := (List.getElem?_eq_some_iff.1 hv).1; rw [ints_length] at this; omega
  have h2 := rowsC_at hl hr hj
  rw [hv] at h2
  have := hc _ _ h2
  rw [Nat.add_assoc]; exact this
end Go.Proofs.Ytgajlplmpbaanaa

/- Blocks in a row: made, built, appended. -/
namespace Go.Proofs.Ytgajlplmpbaanaa
open Go.RowKit
set_option linter.unusedVariables false
set_option linter.unusedSimpArgs false
set_option maxRecDepth 100000

theorem info_blk3 : (Try.prog.info? 31).map (fun i => (i.zero, i.size, i.bytes)) = some (some (.agg zeroB.toArray), 64, 512) := by kernel_rfl
abbrev blkRow (v : Value) (L : List (List Int)) : Row := ⟨31, 64, v, L.length, rowsC L⟩
end Go.Proofs.Ytgajlplmpbaanaa

/- A call of a function that was handed over, its number a letter; a block and two numbers handed back; what a call may do to one block. No program is named here. -/
namespace Go.Proofs.Ytgajlplmpbaanaa
open Go.RowKit
set_option linter.unusedVariables false
set_option linter.unusedSimpArgs false
set_option maxRecDepth 100000

/-- A call of this function enters its body. -/
def Enters (P : Program) (f : FuncId) : Prop := ∀ (args : Array Value) (w : World), (callFunc f args).run P w = .ok (.enter f args) w
theorem Enters.of {P : Program} {f : FuncId} {fn : Func} (h : P.funcs[f]? = some fn) (hn : (fn.name == "runtime.NumGoroutine") = false) (hb : fn.body.isNone = false) : Enters P f := by
  intro args w
  have h1 : ¬ fn.name = "runtime.NumGoroutine" := by simpa using hn
  have h2 : ¬ fn.body = none := by intro e; rw [e] at hb; cases hb
  simp [callFunc, h, h1, h2]
end Go.Proofs.Ytgajlplmpbaanaa

/- The reference's SidesCheck, many and PlaneCut: their contracts. -/
namespace Go.Proofs.Ytgajlplmpbaanaa
open Go.RowKit
set_option linter.unusedVariables false
set_option linter.unusedSimpArgs false
set_option maxRecDepth 100000

theorem eCut_bad {l : List Int} {x y : Int} (h : badWH x y) : eCut l x y = 1 := if_pos h
theorem eCut_len {l : List Int} {x y : Int} (h : ¬ badWH x y) (h2 : (l.length : Int) ≠ x * y) : eCut l x y = 4 := by unfold eCut; rw [if_neg h, if_pos h2]
theorem eCut_in {l : List Int} {x y : Int} (h : ¬ badWH x y) (h2 : (l.length : Int) = x * y) : eCut l x y = if inB 0 255 l = true then 0 else 1 := by unfold eCut; rw [if_neg h, if_neg (by rw [h2]; simp)]
theorem inB_snoc {lo hi : Int} {cs : List Int} {k : Nat} {x : Int} (hx : cs[k]? = some x) (h : inB lo hi (cs.take k) = true) (h1 : lo ≤ x ∧ x ≤ hi) : inB lo hi (cs.take (k + 1)) = true := by
  rw [take_snoc hx, inB_mem]
  intro y hy
  rcases List.mem_append.1 hy with hy | hy
  · exact inB_mem.1 h y hy
  · rw [List.mem_singleton.1 hy]; exact h1
theorem Owns.far {B : Nat} {rs : List Row} {W w6 : World} {o : Obj} (h : Owns B rs W) (hg : (W.alloc o).grownBy w6 (some W.heap.size)) : Owns B rs w6 := by
  have h2 := h.alloc o
  refine ⟨Nat.le_trans h2.base hg.size, fun r hr => (h2.each r hr).kept hg ?_, h.apart⟩
  cases hv : r.v.ownBlock with
  | none => exact .inl rfl
  | some g => exact .inr fun e => by injection e with e; have := ((h.each r hr).lt g hv).2; omega
end Go.Proofs.Ytgajlplmpbaanaa

/- quant.Round, clamp, within, Check, checkBoth: their contracts. -/
namespace Go.Proofs.Ytgajlplmpbaanaa
open Go.RowKit
set_option linter.unusedVariables false
set_option linter.unusedSimpArgs false
set_option maxRecDepth 100000

end Go.Proofs.Ytgajlplmpbaanaa

/- The reference's clamp and Round: their contracts. -/
namespace Go.Proofs.Ytgajlplmpbaanaa
open Go.RowKit
set_option linter.unusedVariables false
set_option linter.unusedSimpArgs false
set_option maxRecDepth 100000

end Go.Proofs.Ytgajlplmpbaanaa

/- The reference's BlockWithin: its contract. -/
namespace Go.Proofs.Ytgajlplmpbaanaa
open Go.RowKit
set_option linter.unusedVariables false
set_option linter.unusedSimpArgs false
set_option maxRecDepth 100000

end Go.Proofs.Ytgajlplmpbaanaa

/- Rows of numbers. -/
namespace Go.Proofs.Ytgajlplmpbaanaa
open Go.RowKit

end Go.Proofs.Ytgajlplmpbaanaa

/- The reference's many and PlaneJoin: their contracts. -/
namespace Go.Proofs.Ytgajlplmpbaanaa
open Go.RowKit
set_option linter.unusedVariables false
set_option linter.unusedSimpArgs false
set_option maxRecDepth 100000

theorem eJoin_bad {L : List (List Int)} {x y : Int} (h : badWH x y) : eJoin L x y = 1 := if_pos h
theorem eJoin_len {L : List (List Int)} {x y : Int} (h : ¬ badWH x y) (h2 : L.length ≠ manyN x.toNat y.toNat) : eJoin L x y = 4 := by unfold eJoin; rw [if_neg h, if_pos h2]
theorem eJoin_in {L : List (List Int)} {x y : Int} (h : ¬ badWH x y) (h2 : L.length = manyN x.toNat y.toNat) : eJoin L x y = if (∀ r ∈ L, inB (-40000) 40000 r = true) then 0 else 1 := by unfold eJoin; rw [if_neg h, if_neg (by rw [h2]; simp)]
end Go.Proofs.Ytgajlplmpbaanaa

/- What plane's Cut, Many and Join are to do, as the laws use it. -/
namespace Go.Proofs.Ytgajlplmpbaanaa
open Go.RowKit
set_option linter.unusedVariables false
set_option linter.unusedSimpArgs false
set_option maxRecDepth 100000

/-- plane.Cut's contract. -/
def PCutSpec : Prop := ∀ (l : List Int) (A : Option Addr) (c G : Nat) (x y : Int) (w : World), Seen w G A (ints .i64 l) → (∀ z ∈ l, In64 z) → l.length ≤ maxLen → l.length ≤ c → In64 x → In64 y → G ≤ w.heap.size →
    Calls Try.prog 9 #[.slice A l.length c, .int .i64 x, .int .i64 y] w fun e w' => ∃ v, e = .returned (.tuple #[v, .int .i64 (eCut l x y)]) ∧ Owns w.heap.size [blkRow v (oCut l x y)] w' ∧ Below w.heap.size w w'
/-- plane.Many's contract. -/
def PManySpec : Prop := ∀ (x y : Int) (w : World), In64 x → In64 y →
    Calls Try.prog 11 #[.int .i64 x, .int .i64 y] w fun e w' => e = .returned (.tuple #[.int .i64 (oMany x y), .int .i64 (eSides x y)]) ∧ Below w.heap.size w w'
/-- plane.Join's contract. -/
def PJoinSpec : Prop := ∀ (L : List (List Int)) (A : Option Addr) (c G : Nat) (x y : Int) (w : World), (∀ r ∈ L, r.length = 64) → (∀ r ∈ L, ∀ z ∈ r, In64 z) → Seen w G A (rowsC L) → L.length ≤ maxLen → L.length ≤ c → In64 x → In64 y → G ≤ w.heap.size →
    Calls Try.prog 13 #[.slice A L.length c, .int .i64 x, .int .i64 y] w fun e w' => ∃ v, e = .returned (.tuple #[v, .int .i64 (eJoin L x y)]) ∧ Owns w.heap.size [intRow 3 .i64 v (oJoin L x y)] w' ∧ Below w.heap.size w w'
end Go.Proofs.Ytgajlplmpbaanaa

/- The reference's Rest: what is left of a division, never below zero. -/
namespace Go.Proofs.Ytgajlplmpbaanaa
open Go.RowKit
set_option linter.unusedVariables false
set_option linter.unusedSimpArgs false
set_option maxRecDepth 100000

theorem tmod_cases (n m : Int) (h : 0 < m) : n.tmod m < m ∧ -m < n.tmod m ∧ n % m = (n.tmod m) % m := by
  refine ⟨Int.tmod_lt_of_pos n h, ?_, ?_⟩
  · have := Int.lt_tmod_of_pos n h; omega
  · conv => lhs; rw [← Int.tmod_add_mul_tdiv n m]
    rw [Int.add_mul_emod_self_left]
theorem rest_neg (n m : Int) (h : 0 < m) (hm : m ≤ 9223372036854775807) (hn : n.tmod m < 0) : wrap64 (n.tmod m + m) = n % m := by
  obtain ⟨h1, h2, h3⟩ := tmod_cases n m h
  rw [h3]
  generalize n.tmod m = r at *
  have e : r % m = r + m := by
    rw [← Int.add_emod_right, Int.emod_eq_of_lt (by omega) (by omega)]
  rw [e]; unfold wrap64; omega
theorem rest_pos (n m : Int) (h : 0 < m) (hn : 0 ≤ n.tmod m) : n.tmod m = n % m := by
  obtain ⟨h1, h2, h3⟩ := tmod_cases n m h
  rw [h3, Int.emod_eq_of_lt hn h1]
theorem rest_any (n m : Int) (w : World) (h1 : 0 < m) (h2 : m ≤ 9223372036854775807) (hn : -9223372036854775808 ≤ n ∧ n ≤ 9223372036854775807) :
    Calls Try.prog 28 #[.int .i64 n, .int .i64 m] w fun e w' => e = .returned (.int .i64 (n % m)) ∧ w = w' := by
  go_enter Try.func28, Try.ntmps28
  go_wp2
  · go_ret
    exact ⟨congrArg (fun x => Ending.returned (.int .i64 x)) (rest_neg n m h1 h2 ‹_›), rfl⟩
  · go_ret
    exact ⟨congrArg (fun x => Ending.returned (.int .i64 x)) (rest_pos n m h1 ‹_›), rfl⟩
end Go.Proofs.Ytgajlplmpbaanaa

/- The keep's sides and its closed fact on planes. -/
namespace Go.Proofs.Ytgajlplmpbaanaa
open Go.RowKit
set_option linter.unusedVariables false
set_option linter.unusedSimpArgs false
set_option maxRecDepth 100000

def sideN (x : Int) : Nat := (x % 64).toNat + 1
theorem sideN_in (x : Int) : 1 ≤ sideN x ∧ sideN x ≤ 64 ∧ x % 64 + 1 = (sideN x : Int) := by unfold sideN; omega
theorem sideN_ok (x y : Int) : ¬ badWH (sideN x : Int) (sideN y : Int) := by
  have := sideN_in x; have := sideN_in y; unfold badWH; omega
theorem sides_any (x y : Int) (w : World) (hx : In64 x) (hy : In64 y) : Calls Try.prog 18 #[.int .i64 x, .int .i64 y] w fun e w' => e = .returned (.tuple #[.int .i64 (sideN x : Nat), .int .i64 (sideN y : Nat)]) ∧ w = w' := by
  have HX := veil (rest_any x 64 w (by omega) (by omega) hx)
  have HY := veil (rest_any y 64 w (by omega) (by omega) hy)
  obtain ⟨_, h1, e1⟩ := sideN_in x
  obtain ⟨_, h2, e2⟩ := sideN_in y
  obtain ⟨a, ha⟩ : ∃ a, a = x % 64 := ⟨_, rfl⟩
  obtain ⟨b, hb⟩ : ∃ b, b = y % 64 := ⟨_, rfl⟩
  rw [← ha] at HX e1
  rw [← hb] at HY e2
  have ha2 : 0 ≤ a ∧ a < 64 := by omega
  have hb2 : 0 ≤ b ∧ b < 64 := by omega
  clear ha hb hx hy
  generalize sideN x = W at *
  generalize sideN y = H at *
  go_enter Try.func18, Try.ntmps18
  go_wp2_with fail
  refine HX.out.mono ?_
  rintro e wq ⟨rfl, rfl⟩
  clear HX
  go_wp2_with fail
  refine HY.out.mono ?_
  rintro e wq ⟨rfl, rfl⟩
  clear HY
  go_wp2_with fail
  go_ret2
  exact ⟨ret_two rfl rfl, rfl⟩
set_option maxRecDepth 100000 in
set_option maxHeartbeats 2000000 in
theorem planed_any (HC : PCutSpec) (HM : PManySpec) (w : World) : Calls Try.prog 17 #[] w fun e w' => e = .returned (.bool true) ∧ Below w.heap.size w w' := by
  have e1 : eCut [5] 1 1 = 0 := by decide
  have e2 : oCut [5] 1 1 = [List.replicate 64 (-123)] := by decide
  have e3 : oMany 9 8 = 2 := by decide
  have e4 : eSides 9 8 = 0 := by decide
  have H1 := HC [5] (some ⟨w.heap.size, 0, none⟩) 1 (w.heap.size + 1) 1 1 (w.alloc (.cells (ints .i64 [5]).toArray 3)) (Seen.new w (ints .i64 [5]) _ _ (Nat.lt_succ_self _)) (by intro z hz; rw [List.mem_singleton.1 hz]; unfold In64; omega) (by unfold maxLen; simp) (by simp) (by unfold In64; omega) (by unfold In64; omega) (by simp)
  rw [e1, e2] at H1
  have H2 := veil (fun W => HM 9 8 W (by unfold In64; omega) (by unfold In64; omega))
  rw [e3, e4] at H2
  have HH1 := veil H1
  have hb0 := below1 w (.cells (ints .i64 [5]).toArray 3)
  clear H1 e1 e2 e3 e4 HC HM
  go_enter Try.func17, Try.ntmps17
  go_wp2_with fail
  refine HH1.out.mono ?_
  rintro e w1 ⟨v1, rfl, HO1, hb1⟩
  obtain ⟨A4, c4, hv4, hs4, hc4, hm4⟩ := HO1.seen (List.mem_cons_self ..)
  obtain rfl : v1 = .slice A4 1 c4 := hv4
  have hbw1 := veil (hb0.trans (hb1.mono (by simp)))
  have Hs4 := veil hs4
  have HMa := veil (H2.out w1)
  clear HO1 hs4 hb0 hb1 HH1 H2 hc4 hm4
  go_wp2_with fail
  refine HMa.out.mono ?_
  rintro e w2 ⟨rfl, hb2⟩
  have hs := Hs4.out.below hb2 (Nat.le_refl _)
  obtain ⟨g, o, rr, rfl, hg, hr, hrl, hrange⟩ := Seen.row (n := 64) hs (by intro r hr; rw [List.mem_singleton.1 hr]; rfl) (by omega) (k := 0) (by simp)
  obtain rfl : List.replicate 64 (-123) = rr := by simpa using hr
  have hcc : w2.cell? ⟨g, o + 63, none⟩ = some (.int .i64 (-123)) := by
    have := hrange 63 (.int .i64 (-123)) rfl
    simpa using this
  have hbw2 := veil (hbw1.out.trans (hb2.mono hbw1.out.size))
  clear hs hg hr hrl hrange Hs4 hbw1 hb2 HMa
  go_wp2_with fail
  go_ret
  exact ⟨rfl, hbw2.out⟩
end Go.Proofs.Ytgajlplmpbaanaa

/- The keep's samples: a plane of numbers of eight bits. -/
namespace Go.Proofs.Ytgajlplmpbaanaa
open Go.RowKit
set_option linter.unusedVariables false
set_option linter.unusedSimpArgs false
set_option maxRecDepth 100000

/-- What samples hands back. -/
def SamRes (n : Nat) (w : World) (e : Ending) (w' : World) : Prop := ∃ (g : Nat) (ys : List Int), e = .returned (.slice (some ⟨g, 0, none⟩) n n) ∧ ys.length = n ∧ inB 0 255 ys = true ∧ Seen w' w'.heap.size (some ⟨g, 0, none⟩) (ints .i64 ys) ∧ Below w.heap.size w w'
theorem inB_set {lo hi v : Int} {ys : List Int} {i : Nat} (h : inB lo hi ys = true) (hv : lo ≤ v ∧ v ≤ hi) : inB lo hi (ys.set i v) = true := by
  rw [inB_mem] at h ⊢
  intro y hy
  rcases List.mem_or_eq_of_mem_set hy with hy | rfl
  · exact h y hy
  · exact hv
theorem run_make_sam (n : Nat) (h : n ≤ 1099511627776) (u : World) : (Instr.makeSlice 22 (.int .i64 (n : Int)) (.int .i64 (n : Int))).run Try.prog u =
    .ok (.slice (some ⟨u.heap.size, 0, none⟩) n n) (u.alloc (.cells (ints .i64 (List.replicate n 0)).toArray 3)) := by
  obtain ⟨i0, hi, hz0, hz1, hz2⟩ := info_parts (show (Try.prog.info? 3).map (fun i => (i.zero, i.size, i.bytes)) = some (some (.int .i64 0), 1, 8) by kernel_rfl)
  have h := run_make (P := Try.prog) u 22 3 i0 (.int .i64 0) Try.underlying22 hi hz0 .i64 .i64 n n (by omega) (by omega) (by rw [hz2]; omega) (by omega)
  have e : madeCells #[Value.int .i64 0] n = (ints .i64 (List.replicate n 0)).toArray := by
    apply Array.ext'
    rw [toList_madeCells_one]
    simp [ints]
  rw [← e]
  simpa [hz1, Value.cells] using h
set_option maxRecDepth 100000 in
set_option maxHeartbeats 2000000 in
theorem samples_any (l : List Int) (A : Option Addr) (c G n : Nat) (w : World) (hs : Seen w G A (ints .i64 l)) (hb : ∀ z ∈ l, In64 z) (hl : l.length ≤ maxLen) (hn : n ≤ 4096) (hG : G ≤ w.heap.size) :
    Calls Try.prog 19 #[.slice A l.length c, .int .i64 (n : Int)] w (SamRes n w) := by
  unfold maxLen at hl
  have hmk := run_make_sam n (by omega) w
  have HI0 : Hid (∃ ys : List Int, ys.length = n ∧ inB 0 255 ys = true ∧ Blk (w.alloc (.cells (ints .i64 (List.replicate n 0)).toArray 3)) w.heap.size (ints .i64 ys) 3) :=
    veil ⟨List.replicate n 0, by simp, by rw [inB_mem]; intro y hy; rw [List.eq_of_mem_replicate hy]; omega, Blk.new w _ _⟩
  have HB0 := veil (below1 w (.cells (ints .i64 (List.replicate n 0)).toArray 3))
  have Hs := veil hs; have Hb := veil hb
  clear hs hb
  go_enter Try.func19, Try.ntmps19
  go_wp2_with fail
  clear hmk
  go_loopg [6, 11] n (fun gk i0 iv wr => ∃ k : Nat, gk = n - k ∧ k ≤ n ∧ iv = .int .i64 (k : Int) ∧ Hid (∃ ys : List Int, ys.length = n ∧ inB 0 255 ys = true ∧ Blk wr w.heap.size (ints .i64 ys) 3) ∧ Hid (Below w.heap.size w wr))
  case atStart => exact ⟨0, rfl, Nat.zero_le _, rfl, HI0, HB0⟩
  case round =>
    clear HI0 HB0
    obtain ⟨k, rfl, hk, rfl, HI, HB⟩ := hrel
    by_cases hkn : k < n
    · have hkz : (k : Int) < (n : Int) := by omega
      by_cases hl0 : l.length = 0
      · have hlz : ¬ (0 : Int) < (l.length : Int) := by omega
        clear hl0
        go_wp2_with fail
        go_roundg (n - (k + 1))
        case rel => exact ⟨k + 1, rfl, by omega, by go_num, HI, HB⟩
        case measure => omega
      · have hlz : (0 : Int) < (l.length : Int) := by omega
        have hlz2 : ((l.length : Int) == 0) = false := by rw [beq_eq_false_iff_ne]; omega
        obtain ⟨ys, hyl, hyb, HK⟩ := HI.out
        obtain ⟨j, hj⟩ : ∃ j : Nat, j = k % l.length := ⟨_, rfl⟩
        have hjl : j < l.length := by rw [hj]; exact Nat.mod_lt _ (by omega)
        have zj : (k : Int) % (l.length : Int) = (j : Int) := by rw [hj]; simp
        have zt : (k : Int).tmod (l.length : Int) = (j : Int) := by rw [Int.tmod_eq_emod_of_nonneg (by omega)]; exact zj
        obtain ⟨q, hq⟩ : ∃ q : Nat, q = k / 7 := ⟨_, rfl⟩
        have zq : (k : Int) / 7 = (q : Int) := by omega
        have hs6 := Hs.out.below HB.out hG
        obtain ⟨g, o, v, rfl, hg, hx, hcx⟩ := hs6.int hjl
        have hv := Hb.out v (List.mem_of_getElem? hx)
        unfold In64 at hv
        obtain ⟨s, hs⟩ : ∃ s, s = wrap64 (v + (q : Int)) := ⟨_, rfl⟩
        have hs64 : -9223372036854775808 ≤ s ∧ s ≤ 9223372036854775807 := by rw [hs]; unfold wrap64; omega
        have zs : wrap64 (v + (q : Int)) = s := hs.symm
        have HR := veil (rest_any s 256 wr (by omega) (by omega) hs64)
        obtain ⟨y, hy⟩ := some_at (xs := ys) (j := k) (by omega)
        have hcy := HK.cell (ints_at hy)
        have hfy := HK.frozen k
        have HK5 : Hid (∃ ys : List Int, ys.length = n ∧ inB 0 255 ys = true ∧ Blk (wr.setCell ⟨w.heap.size, k, none⟩ (.int .i64 (s % 256))) w.heap.size (ints .i64 ys) 3) := veil (by
          refine ⟨ys.set k (s % 256), by simpa using hyl, inB_set hyb (by omega), ?_⟩
          have := HK.set k (.int .i64 (s % 256))
          rw [show (ints .i64 ys).set k (.int .i64 (s % 256)) = ints .i64 (ys.set k (s % 256)) by simp [ints, List.map_set]] at this
          exact this)
        have HB5 : Hid (Below w.heap.size w (wr.setCell ⟨w.heap.size, k, none⟩ (.int .i64 (s % 256)))) := HB.out.setCell (by simp) _
        have hq9 : q ≤ 4096 := by omega
        clear HI HK hy hx hs6 hs hyb hj hq hv
        go_wp2_with fail
        refine HR.out.mono ?_
        rintro e wq ⟨rfl, hwq⟩
        subst hwq
        clear HR
        go_wp2_with fail
        go_roundg (n - (k + 1))
        case rel => exact ⟨k + 1, rfl, by omega, by go_num, HK5, HB5⟩
        case measure => omega
    · obtain rfl : n = k := by omega
      have hkz : ¬ (n : Int) < (n : Int) := by omega
      go_wp2_with fail
      go_ret
      obtain ⟨ys, hyl, hyb, HK⟩ := HI.out
      exact ⟨w.heap.size, ys, rfl, hyl, hyb, .inr ⟨_, _, rfl, HK.lt, fun i v hv => by rw [Nat.zero_add]; exact HK.cell hv⟩, HB.out⟩
end Go.Proofs.Ytgajlplmpbaanaa

/- The reference's comparison of two lists of numbers tells whether they are equal. -/
namespace Go.Proofs.Ytgajlplmpbaanaa
open Go.RowKit
set_option linter.unusedVariables false
set_option linter.unusedSimpArgs false
set_option maxRecDepth 100000

set_option maxHeartbeats 400000 in
theorem eqInt (A B : Option Addr) (c d G : Nat) (xs ys : List Int) (w : World) (hx : Seen w G A (ints .i64 xs)) (hy : Seen w G B (ints .i64 ys)) (hlx : xs.length ≤ maxLen) (hly : ys.length ≤ maxLen) :
    Calls Try.prog 16 #[.slice A xs.length c, .slice B ys.length d] w fun e w' => e = .returned (.bool (decide (xs = ys))) ∧ w = w' := by
  unfold maxLen at hlx hly
  by_cases hl : xs.length = ys.length
  · have hne : ((xs.length : Int) != (ys.length : Int)) = false := by simp [hl]
    have Hl := veil hl
    clear hl
    go_enter Try.func16, Try.ntmps16
    go_wp2
    go_loop [5, 6, 14] (fun _ _ i => ∃ k : Nat, k ≤ xs.length ∧ i = .int .i64 k ∧ Hid (xs.take k = ys.take k)) (fun _ _ i => xs.length - (intOf i).toNat)
    case atStart => exact ⟨0, Nat.zero_le _, rfl, veil rfl⟩
    case round =>
      obtain ⟨k, hk, rfl, He⟩ := hrel
      by_cases hlt : k < xs.length
      · have hky : (k : Int) < (ys.length : Int) := by have := Hl.out; omega
        obtain ⟨g, o, x, rfl, _, hxk, h1⟩ := hx.int hlt
        obtain ⟨g', o', y, rfl, _, hyk, h2⟩ := hy.int (k := k) (by omega)
        have Hx := veil hxk; have Hy := veil hyk
        clear hxk hyk
        by_cases hxy : x = y
        · obtain rfl := hxy
          have hb : (x != x) = false := by simp
          go_wp2
          go_round
          case rel => exact ⟨k + 1, by omega, by go_num, veil (by rw [take_snoc Hx.out, take_snoc Hy.out, He.out])⟩
          case measure => simp [intOf]; omega
        · have hb : (x != y) = true := by simpa using hxy
          go_wp2
          go_ret
          refine ⟨ret_bool ?_, rfl⟩
          symm
          simp only [decide_eq_false_iff_not]
          intro e
          have h3 := Hx.out
          rw [e, Hy.out] at h3
          exact hxy (by injection h3 with h3; exact h3.symm)
      · go_wp2
        go_ret
        refine ⟨ret_bool ?_, rfl⟩
        symm
        have h3 := He.out
        rw [List.take_of_length_le (by omega), List.take_of_length_le (by have := Hl.out; omega)] at h3
        simpa using h3
  · have hne : ((xs.length : Int) != (ys.length : Int)) = true := by simp; omega
    have hd : decide (xs = ys) = false := by simp; intro e; exact hl (by rw [e])
    have Hd := veil hd
    clear hd hl
    go_enter Try.func16, Try.ntmps16
    go_wp2
    go_ret
    exact ⟨ret_bool Hd.out.symm, rfl⟩
end Go.Proofs.Ytgajlplmpbaanaa

/- plane.isSide, along, Many: their contracts. -/
namespace Go.Proofs.Ytgajlplmpbaanaa
open Go.RowKit
set_option linter.unusedVariables false
set_option linter.unusedSimpArgs false
set_option maxRecDepth 100000

theorem along_any (W : Nat) (hW : W ≤ 64) (w : World) : Calls Try.prog 21 #[.int .i64 (W : Int)] w fun e w' => e = .returned (.int .i64 (acrossN W : Nat)) ∧ w' = w := by
  obtain ⟨P, hP⟩ : ∃ P, P = acrossN W := ⟨_, rfl⟩
  rw [← hP]
  unfold acrossN at hP
  obtain ⟨a, ha⟩ : ∃ a : Nat, a = W + 8 := ⟨_, rfl⟩
  obtain ⟨b, hb⟩ : ∃ b : Nat, b = W + 7 := ⟨_, rfl⟩
  have z1 : (W : Int) + 8 = (a : Int) := by omega
  have z2 : (a : Int) - 1 = (b : Int) := by omega
  have z3 : (b : Int) / 8 = (P : Int) := by omega
  have hb2 : a ≤ 72 ∧ b ≤ 71 ∧ P ≤ 8 := by omega
  clear hP ha hb
  go_enter Try.func21, Try.ntmps21
  go_wp2
  go_ret
  exact ⟨rfl, rfl⟩
theorem side_yes (n : Int) (h : 1 ≤ n ∧ n ≤ 64) (w : World) : Calls Try.prog 23 #[.int .i64 n] w fun e w' => e = .returned (.bool true) ∧ w' = w := by
  have h1 := h.1
  have h2 := h.2
  go_enter Try.func23, Try.ntmps23
  go_wp2
  go_ret
  exact ⟨rfl, rfl⟩
theorem side_no (n : Int) (h : n < 1 ∨ 64 < n) (w : World) : Calls Try.prog 23 #[.int .i64 n] w fun e w' => e = .returned (.bool false) ∧ w' = w := by
  by_cases h1 : 1 ≤ n
  · have h2 : ¬ n ≤ 64 := by omega
    go_enter Try.func23, Try.ntmps23
    go_wp2
    go_ret
    exact ⟨rfl, rfl⟩
  · go_enter Try.func23, Try.ntmps23
    go_wp2
    go_ret
    exact ⟨rfl, rfl⟩
theorem plMany_still (x y : Int) (w : World) : Calls Try.prog 11 #[.int .i64 x, .int .i64 y] w fun e w' => e = .returned (.tuple #[.int .i64 (oMany x y), .int .i64 (eSides x y)]) ∧ w' = w := by
  by_cases hx : x < 1 ∨ 64 < x
  · have hb : badWH x y := by unfold badWH; omega
    have e1 : eSides x y = 1 := if_pos hb
    have e2 : oMany x y = 0 := if_pos hb
    rw [e1, e2]
    have HX := veil (side_no x hx w)
    clear hx hb e1 e2
    go_enter Try.func11, Try.ntmps11
    go_wp2_with fail
    refine HX.out.mono ?_
    rintro e _ ⟨rfl, rfl⟩
    clear HX
    go_wp2
    go_ret2
    exact ⟨rfl, rfl⟩
  · have HX := veil (side_yes x (by omega) w)
    by_cases hy : y < 1 ∨ 64 < y
    · have hb : badWH x y := by unfold badWH; omega
      have e1 : eSides x y = 1 := if_pos hb
      have e2 : oMany x y = 0 := if_pos hb
      rw [e1, e2]
      have HY := veil (side_no y hy w)
      clear hx hy hb e1 e2
      go_enter Try.func11, Try.ntmps11
      go_wp2_with fail
      refine HX.out.mono ?_
      rintro e _ ⟨rfl, rfl⟩
      clear HX
      go_wp2_with fail
      refine HY.out.mono ?_
      rintro e _ ⟨rfl, rfl⟩
      clear HY
      go_wp2
      go_ret2
      exact ⟨rfl, rfl⟩
    · have hb : ¬ badWH x y := by unfold badWH; omega
      have e1 : eSides x y = 0 := if_neg hb
      have e2 : oMany x y = (manyN x.toNat y.toNat : Nat) := if_neg hb
      rw [e1, e2]
      have HY := veil (side_yes y (by omega) w)
      obtain ⟨W, hW⟩ : ∃ W : Nat, x = (W : Int) := ⟨x.toNat, by omega⟩
      obtain ⟨H, hH⟩ : ∃ H : Nat, y = (H : Int) := ⟨y.toNat, by omega⟩
      subst hW hH
      rw [Int.toNat_natCast, Int.toNat_natCast]
      have HA := veil (along_any W (by omega) w)
      have HB := veil (along_any H (by omega) w)
      obtain ⟨M, hM⟩ : ∃ M, M = manyN W H := ⟨_, rfl⟩
      have hm : M ≤ 64 := by rw [hM]; exact many_le (by omega) (by omega)
      have hmul : (acrossN W : Int) * (acrossN H : Int) = (M : Int) := by rw [hM, manyN]; simp
      rw [← hM]
      generalize acrossN W = P at *
      generalize acrossN H = Q at *
      clear hx hy hb e1 e2 hM
      go_enter Try.func11, Try.ntmps11
      go_wp2_with fail
      refine HX.out.mono ?_
      rintro e _ ⟨rfl, rfl⟩
      clear HX
      go_wp2_with fail
      refine HY.out.mono ?_
      rintro e _ ⟨rfl, rfl⟩
      clear HY
      go_wp2_with fail
      refine HA.out.mono ?_
      rintro e _ ⟨rfl, rfl⟩
      clear HA
      go_wp2_with fail
      refine HB.out.mono ?_
      rintro e _ ⟨rfl, rfl⟩
      clear HB
      go_wp2
      go_ret2
      exact ⟨rfl, rfl⟩
theorem plMany_any : PManySpec := by
  intro x y w _ _
  refine (plMany_still x y w).mono ?_
  rintro e w' ⟨rfl, rfl⟩
  exact ⟨rfl, Below.refl _ _⟩
end Go.Proofs.Ytgajlplmpbaanaa

/- plane.allWithin: its contract. -/
namespace Go.Proofs.Ytgajlplmpbaanaa
open Go.RowKit
set_option linter.unusedVariables false
set_option linter.unusedSimpArgs false
set_option maxRecDepth 100000

theorem plFn_any (n lo hi : Int) (b1 b2 : Nat) (w : World) (h1 : w.cell? ⟨b1, 0, none⟩ = some (.int .i64 lo)) (h2 : w.cell? ⟨b2, 0, none⟩ = some (.int .i64 hi)) :
    Calls Try.prog 30 #[.int .i64 n, .pointer (some ⟨b1, 0, none⟩), .pointer (some ⟨b2, 0, none⟩)] w fun e w' => e = .returned (.bool (!decide (lo ≤ n ∧ n ≤ hi))) ∧ w' = w := by
  obtain ⟨R, hR⟩ : ∃ R, R = !decide (lo ≤ n ∧ n ≤ hi) := ⟨_, rfl⟩
  rw [← hR]
  by_cases h3 : n < lo
  · have h : R = true := by rw [hR]; simp; omega
    subst h; clear hR
    go_enter Try.func30, Try.ntmps30
    go_wp2
    go_ret
    exact ⟨rfl, rfl⟩
  · by_cases h4 : hi < n
    · have h : R = true := by rw [hR]; simp; omega
      subst h; clear hR
      go_enter Try.func30, Try.ntmps30
      go_wp2
      go_ret
      exact ⟨rfl, rfl⟩
    · have h : R = false := by rw [hR]; simp; omega
      subst h; clear hR
      go_enter Try.func30, Try.ntmps30
      go_wp2
      go_ret
      exact ⟨rfl, rfl⟩
set_option maxHeartbeats 1000000 in
theorem plIndex_any (l : List Int) (A : Option Addr) (c G : Nat) (lo hi : Int) (b1 b2 : Nat) (w : World) (hs : Seen w G A (ints .i64 l)) (hl : l.length ≤ 1048576) (h1 : w.cell? ⟨b1, 0, none⟩ = some (.int .i64 lo)) (h2 : w.cell? ⟨b2, 0, none⟩ = some (.int .i64 hi)) :
    Calls Try.prog 31 #[.slice A l.length c, .func (.func 30) #[] #[.pointer (some ⟨b1, 0, none⟩), .pointer (some ⟨b2, 0, none⟩)]] w fun e w' => ∃ r : Int, e = .returned (.int .i64 r) ∧ decide (0 ≤ r) = !inB lo hi l ∧ w' = w := by
  have HF := veil (fun n => plFn_any n lo hi b1 b2 w h1 h2)
  clear h1 h2
  go_enter Try.func31, Try.ntmps31
  go_wp2_with fail
  go_loopg [8] l.length (fun gk iv wr => ∃ k : Nat, gk = l.length - k ∧ k ≤ l.length ∧ iv = .int .i64 (k : Int) ∧ Hid (inB lo hi (l.take k) = true) ∧ w = wr)
  case atStart => exact ⟨0, rfl, Nat.zero_le _, rfl, by show _ = _; simp [inB], rfl⟩
  case round =>
    obtain ⟨k, rfl, hk, rfl, HI, rfl⟩ := hrel
    by_cases hlt : k < l.length
    · have hltz : (k : Int) < (l.length : Int) := by omega
      obtain ⟨g, o, n, rfl, hg, hx, hcx⟩ := hs.int hlt
      have HN := veil (HF.out n)
      by_cases hn : lo ≤ n ∧ n ≤ hi
      · have HI2 := veil (inB_snoc hx HI.out hn)
        rw [show (!decide (lo ≤ n ∧ n ≤ hi)) = false by simp [hn]] at HN
        clear hn hx HI HF
        go_wp2_with fail
        refine HN.out.mono ?_
        rintro e wq ⟨rfl, hwq⟩
        subst hwq
        clear HN
        go_wp2_with fail
        go_roundg (l.length - (k + 1))
        case rel => exact ⟨k + 1, rfl, by omega, by go_num, HI2, rfl⟩
        case measure => omega
      · have hB : inB lo hi l = false := by
          cases hq : inB lo hi l with
          | false => rfl
          | true => exact absurd (inB_at hq hx) hn
        have HB := veil hB
        rw [show (!decide (lo ≤ n ∧ n ≤ hi)) = true by rw [decide_eq_false hn]; rfl] at HN
        clear hn hx HI HF hB
        go_wp2_with fail
        refine HN.out.mono ?_
        rintro e wq ⟨rfl, hwq⟩
        subst hwq
        clear HN
        go_wp2_with fail
        go_ret
        exact ⟨_, rfl, by rw [HB.out, decide_eq_true (by omega)]; rfl, rfl⟩
    · obtain rfl : k = l.length := by omega
      have hi2 := HI.out
      rw [List.take_length] at hi2
      have HI2 := veil hi2
      have hltz : ¬ (l.length : Int) < (l.length : Int) := by omega
      clear hi2 HI HF
      go_wp2_with fail
      go_ret
      exact ⟨_, rfl, by rw [HI2.out]; rfl, rfl⟩
theorem plContains_any (l : List Int) (A : Option Addr) (c G : Nat) (lo hi : Int) (b1 b2 : Nat) (w : World) (hs : Seen w G A (ints .i64 l)) (hl : l.length ≤ 1048576) (h1 : w.cell? ⟨b1, 0, none⟩ = some (.int .i64 lo)) (h2 : w.cell? ⟨b2, 0, none⟩ = some (.int .i64 hi)) :
    Calls Try.prog 29 #[.slice A l.length c, .func (.func 30) #[] #[.pointer (some ⟨b1, 0, none⟩), .pointer (some ⟨b2, 0, none⟩)]] w fun e w' => e = .returned (.bool (!inB lo hi l)) ∧ w' = w := by
  have HX := veil (plIndex_any l A c G lo hi b1 b2 w hs hl h1 h2)
  clear hs h1 h2
  generalize inB lo hi l = B at *
  go_enter Try.func29, Try.ntmps29
  go_wp2_with fail
  refine HX.out.mono ?_
  rintro e wq ⟨r, rfl, hr, hwq⟩
  subst hwq
  have Hr := veil hr
  clear HX hr
  by_cases h : 0 ≤ r
  · go_wp2_with fail
    go_ret
    exact ⟨by rw [← Hr.out, decide_eq_true h]; rfl, rfl⟩
  · go_wp2_with fail
    go_ret
    exact ⟨by rw [← Hr.out]; rfl, rfl⟩
set_option maxHeartbeats 1000000 in
theorem plAll_any (l : List Int) (A : Option Addr) (c G : Nat) (lo hi : Int) (w : World) (hs : Seen w G A (ints .i64 l)) (hl : l.length ≤ 1048576) (hG : G ≤ w.heap.size) :
    Calls Try.prog 20 #[.slice A l.length c, .int .i64 lo, .int .i64 hi] w fun e w' => e = .returned (.bool (inB lo hi l)) ∧ Below w.heap.size w w' := by
  have hb2 := below2 w (.cells #[.int .i64 lo] 3) (.cells #[.int .i64 hi] 3)
  have c0 := (Blk.new w [.int .i64 lo] 3).below (below1 _ (.cells #[.int .i64 hi] 3)) (by simp)
  have c1 := Blk.new (w.alloc (.cells #[.int .i64 lo] 3)) [.int .i64 hi] 3
  rw [show (w.alloc (.cells #[.int .i64 lo] 3)).heap.size = w.heap.size + 1 by simp] at c1
  have HC := veil (plContains_any l A c G lo hi w.heap.size (w.heap.size + 1) _ (hs.below hb2 hG) hl (c0.cell rfl) (c1.cell rfl))
  have HB := veil hb2
  clear c0 c1 hb2 hs
  generalize inB lo hi l = B at *
  go_enter Try.func20, Try.ntmps20
  go_wp2_with fail
  refine HC.out.mono ?_
  rintro e wq ⟨rfl, hwq⟩
  subst hwq
  clear HC
  go_wp2_with fail
  go_ret
  exact ⟨rfl, HB.out⟩
end Go.Proofs.Ytgajlplmpbaanaa

/- A row filled number by number, in numbers; a block as a row that is owned. No program is named here. -/
namespace Go.Proofs.Ytgajlplmpbaanaa
open Go.RowKit
set_option linter.unusedVariables false
set_option linter.unusedSimpArgs false
set_option maxRecDepth 100000

/-- The first k of N numbers told, then zeros. -/
def fillP (f : Nat → Int) (N k : Nat) : List Int := (List.range N).map fun j => if j < k then f j else 0
theorem fillP_length (f : Nat → Int) (N k : Nat) : (fillP f N k).length = N := by simp [fillP]
theorem fillP_0 (f : Nat → Int) (N : Nat) : fillP f N 0 = List.replicate N 0 := by
  apply List.ext_getElem?
  intro i
  unfold fillP
  rw [List.getElem?_map, List.getElem?_replicate]
  by_cases hi : i < N
  · rw [List.getElem?_range hi, if_pos hi]; simp
  · rw [List.getElem?_eq_none (by simp; omega), if_neg hi]; rfl
theorem fillP_all (f : Nat → Int) (N : Nat) : fillP f N N = (List.range N).map f := by
  unfold fillP
  exact List.map_congr_left fun i hi => by rw [if_pos (List.mem_range.1 hi)]
theorem fillP_at {f : Nat → Int} {N k i : Nat} (hi : i < N) : (fillP f N k)[i]? = some (if i < k then f i else 0) := by
  unfold fillP; rw [List.getElem?_map, List.getElem?_range hi]; rfl
theorem fillP_next {f : Nat → Int} {N k : Nat} (hk : k < N) : (fillP f N k).set k (f k) = fillP f N (k + 1) := by
  apply List.ext_getElem?
  intro i
  rw [List.getElem?_set, fillP_length]
  by_cases hi : i < N
  · rw [fillP_at hi, fillP_at hi]
    by_cases hki : k = i
    · subst hki; rw [if_pos rfl, if_pos hk, if_pos (by omega)]
    · rw [if_neg hki]
      congr 1
      by_cases h1 : i < k
      · rw [if_pos h1, if_pos (by omega)]
      · rw [if_neg h1, if_neg (by omega)]
  · rw [if_neg (by omega), List.getElem?_eq_none (by rw [fillP_length]; omega), List.getElem?_eq_none (by rw [fillP_length]; omega)]
/-- A block whose cells are all known, as a row of one's own. -/
theorem Owns.ofBlk {w : World} {B g n size : Nat} {e : TypeId} {xs : List Value} (h : Blk w g xs e) (hB : B ≤ g) (hl : xs.length = n * size) (hm : n ≤ maxLen) : Owns B [⟨e, size, .slice (some ⟨g, 0, none⟩) n n, n, xs⟩] w :=
  .one (by have := h.lt; omega) ⟨hl, .inr ⟨g, n, xs.toArray, rfl, hB, h, Nat.le_refl _, hm, by simpa using hl, by simp only [List.toList_toArray]; rw [List.take_of_length_le (by omega)]⟩⟩
end Go.Proofs.Ytgajlplmpbaanaa
