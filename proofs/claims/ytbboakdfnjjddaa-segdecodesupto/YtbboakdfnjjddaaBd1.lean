/- Texts shared by the claims of this seat, in one. -/
import Derived.Below
import Derived.WalkKit
import Derived.Laws.OwnMore
import Derived.Deep.Draws
import Derived.Deep.QuietTactic
import Derived.BigQuiet
import Derived.Laws.AppendOwn
import Derived.OwnWalk
import Derived.Deep.LoopGhost
import Derived.Deep.RegionHeld3
import Derived.Maps.AppendAt
import Derived.Deep.AppendLies
import Derived.Deep.MidRow
import Derived.Test.YtbboakdfnjjddaaChecked
import Derived.Laws.MakeOwn
import Derived.Laws.ResultCell
import Derived.OpenShut
/- Words for memory that all walks share: a slice that reads as a list of cells, kept over what a call may do. No program is named here. -/
namespace Go.RowKit
theorem Below.drewN {B : Nat} {a w : World} (h : Below B a w) (n : Nat) : Below B a (w.drewN n) := ⟨h.os, h.tape, h.output, h.size, h.block⟩
end Go.RowKit
namespace Go.Proofs.Ytbboakdfnjjddaa
open Go.RowKit
set_option linter.unusedVariables false
set_option linter.unusedSimpArgs false
set_option maxRecDepth 100000

/-- A fact put out of the walk's sight. -/
theorem veil {p : Prop} (h : p) : Hid p := h

/-- The cells from address A on are xs, and they lie below block B. -/
def Seen (w : World) (B : Nat) (A : Option Addr) (xs : List Value) : Prop :=
  xs = [] ∨ ∃ g o, A = some ⟨g, o, none⟩ ∧ g < B ∧ ∀ j u, xs[j]? = some u → w.cell? ⟨g, o + j, none⟩ = some u

theorem Seen.nil (w : World) (B : Nat) (A : Option Addr) : Seen w B A [] := .inl rfl

theorem Seen.of (w w' : World) {B : Nat} {A : Option Addr} {xs : List Value} (h : Seen w B A xs) (hk : ∀ p : Addr, p.block < B → w'.cell? p = w.cell? p) : Seen w' B A xs := by
  rcases h with h | ⟨g, o, e, hg, hc⟩
  · exact .inl h
  · exact .inr ⟨g, o, e, hg, fun j u hu => (hk _ hg).trans (hc j u hu)⟩

theorem Seen.below {w w' : World} {B C : Nat} {A : Option Addr} {xs : List Value} (h : Seen w B A xs) (hb : Below C w w') (hBC : B ≤ C) : Seen w' B A xs :=
  h.of w w' fun _ hp => hb.cell (Nat.lt_of_lt_of_le hp hBC)

theorem Seen.up {w : World} {B B' : Nat} {A : Option Addr} {xs : List Value} (h : Seen w B A xs) (hB : B ≤ B') : Seen w B' A xs := by
  rcases h with h | ⟨g, o, e, hg, hc⟩
  · exact .inl h
  · exact .inr ⟨g, o, e, Nat.lt_of_lt_of_le hg hB, hc⟩

theorem Seen.at {w : World} {B : Nat} {A : Option Addr} {xs : List Value} (h : Seen w B A xs) (hne : 0 < xs.length) :
    ∃ g o, A = some ⟨g, o, none⟩ ∧ g < B ∧ ∀ j u, xs[j]? = some u → w.cell? ⟨g, o + j, none⟩ = some u := by
  rcases h with h | h
  · subst h; simp at hne
  · exact h

/-- Integers in a row. -/
def ints (k : IntKind) (xs : List Int) : List Value := xs.map (Value.int k)
theorem ints_length (k : IntKind) (xs : List Int) : (ints k xs).length = xs.length := by simp [ints]
theorem ints_at {k : IntKind} {xs : List Int} {j : Nat} {x : Int} (h : xs[j]? = some x) : (ints k xs)[j]? = some (.int k x) := by
  simp [ints, h]
theorem some_at {α : Type} {xs : List α} {j : Nat} (h : j < xs.length) : ∃ x, xs[j]? = some x := ⟨xs[j], List.getElem?_eq_getElem h⟩
theorem take_snoc {α : Type} {xs : List α} {k : Nat} {x : α} (h : xs[k]? = some x) : xs.take (k + 1) = xs.take k ++ [x] := by
  rw [List.take_add_one, h]; rfl
/-- One number of a row that came in, with its cell. -/
theorem Seen.int {w : World} {B : Nat} {A : Option Addr} {kd : IntKind} {xs : List Int} (h : Seen w B A (ints kd xs)) {k : Nat} (hk : k < xs.length) :
    ∃ g o x, A = some ⟨g, o, none⟩ ∧ g < B ∧ xs[k]? = some x ∧ w.cell? ⟨g, o + k, none⟩ = some (.int kd x) := by
  obtain ⟨g, o, e, hg, hc⟩ := h.at (by rw [ints_length]; omega)
  obtain ⟨x, hx⟩ := some_at hk
  exact ⟨g, o, x, e, hg, hx, hc k _ (ints_at hx)⟩
/-- Fields of two integers in a row. -/
def pairCells (l : List (Int × Int)) : List Value := l.flatMap fun f => [.int .i64 f.1, .int .i64 f.2]
theorem pairCells_length (l : List (Int × Int)) : (pairCells l).length = 2 * l.length := by
  induction l with
  | nil => rfl
  | cons f l ih => simp [pairCells] at ih ⊢; omega
theorem pairCells_at (l : List (Int × Int)) (j : Nat) (f : Int × Int) (h : l[j / 2]? = some f) : (pairCells l)[j]? = some (if j % 2 = 0 then .int .i64 f.1 else .int .i64 f.2) := by
  induction l generalizing j with
  | nil => simp at h
  | cons g l ih =>
    match j with
    | 0 => simp at h; subst h; simp [pairCells]
    | 1 => simp at h; subst h; simp [pairCells]
    | j + 2 =>
      have h2 : (j + 2) / 2 = j / 2 + 1 := by omega
      rw [h2, List.getElem?_cons_succ] at h
      have := ih j h
      have e : (pairCells (g :: l))[j + 2]? = (pairCells l)[j]? := by simp [pairCells]
      rw [e, this]
      have h3 : (j + 2) % 2 = j % 2 := by omega
      rw [h3]

/-- One field of a row that came in, with its two cells. -/
theorem Seen.pair {w : World} {B : Nat} {A : Option Addr} {l : List (Int × Int)} (h : Seen w B A (pairCells l)) {k : Nat} (hk : k < l.length) :
    ∃ g o x y, A = some ⟨g, o, none⟩ ∧ g < B ∧ l[k]? = some (x, y) ∧ w.cell? ⟨g, o + k * 2, none⟩ = some (.int .i64 x) ∧ w.cell? ⟨g, o + k * 2 + 1, none⟩ = some (.int .i64 y) := by
  obtain ⟨g, o, e, hg, hc⟩ := h.at (by rw [pairCells_length]; omega)
  obtain ⟨⟨x, y⟩, hx⟩ := some_at hk
  have h1 := pairCells_at l (k * 2) (x, y) (by rw [Nat.mul_div_cancel _ (by omega)]; exact hx)
  have h2 := pairCells_at l (k * 2 + 1) (x, y) (by rw [show (k * 2 + 1) / 2 = k by omega]; exact hx)
  rw [if_pos (by omega)] at h1
  rw [if_neg (by omega)] at h2
  exact ⟨g, o, x, y, e, hg, hx, hc _ _ h1, hc _ _ h2⟩

/-- A block that was just laid. -/
theorem Seen.new (w : World) (xs : List Value) (t : TypeId) (B : Nat) (hB : w.heap.size < B) : Seen (w.alloc (.cells xs.toArray t)) B (some ⟨w.heap.size, 0, none⟩) xs := by
  refine .inr ⟨_, _, rfl, hB, fun j u hu => ?_⟩
  rw [World.cell?_alloc_at _ _ _ _ rfl]
  simpa using hu
theorem Seen.alloc {w : World} {B : Nat} {A : Option Addr} {xs : List Value} (h : Seen w B A xs) (hB : B ≤ w.heap.size) (o : Obj) : Seen (w.alloc o) B A xs :=
  h.of w _ fun p hp => World.cell?_alloc_lt w o p (Nat.lt_of_lt_of_le hp hB)
theorem below1 (w : World) (a : Obj) : Below w.heap.size w (w.alloc a) := (Below.refl _ _).alloc (Nat.le_refl _) a
theorem below2 (w : World) (a b : Obj) : Below w.heap.size w ((w.alloc a).alloc b) := (below1 w a).alloc (by simp) b
theorem below3 (w : World) (a b c : Obj) : Below w.heap.size w (((w.alloc a).alloc b).alloc c) := (below2 w a b).alloc (by simp; omega) c
theorem ints_snoc (k : IntKind) (xs : List Int) (y : Int) : ints k (xs ++ [y]) = ints k xs ++ [.int k y] := by simp [ints]
/-- append of one number, just laid, onto a row of the call's own. -/
theorem wpList_app1 {P : Program} {ops : Array Oper} {rest : List Oper} {o : Oper} {a : Act} {Q : Exit → Act → World → Prop} (w0 : World) (hgd : o.guard = none) (s x : Operand) (t : TypeId)
    (ho : o.op = .call { callee := .builtin .append, args := #[s, x], argTypes := #[t, t] })
    (B : Nat) (e : TypeId) (k : IntKind) (bytes : Nat) (ht : P.underlying t = some (.slice e)) (hinfo : (P.info? e).map (fun i => (i.zero, i.size, i.bytes)) = some (some (.int k 0), 1, bytes))
    (v : Value) (xs : List Int) (y : Int) (hs : a.eval s = v) (hown : w0.ownsRow B e 1 v xs.length (ints k xs)) (hx : a.eval x = .slice (some ⟨w0.heap.size, 0, none⟩) 1 1)
    (hlen : xs.length + 1 ≤ 1099511627776) (hby : bytes ≤ 128) (hB : B ≤ w0.heap.size)
    (h : ∀ v' w', w'.ownsRow B e 1 v' (xs ++ [y]).length (ints k (xs ++ [y])) → Below B w0 w' → w0.heap.size < w'.heap.size → wpList P ops Q rest (a.put o.dst v') w') :
    wpList P ops Q (o :: rest) a (w0.alloc (.cells #[.int k y] e)) := by
  obtain ⟨i, hi, hz0, hz1, hz2⟩ := info_parts hinfo
  refine wpList_append_own _ hgd s x t ho B e i _ 1 bytes ht hi hz0 hz1 hz2 rfl (by omega) v xs.length (ints k xs) hs (hown.alloc _) ⟨w0.heap.size, 0, none⟩ 1 1 [.int k y] hx rfl ?_ ?_ ?_ ?_ ?_ ?_
  · intro j u hj
    match j with
    | 0 => simp at hj; subst hj; simp [Addr.add]
    | j + 1 => simp at hj
  · intro u hu; simp at hu; subst hu; rfl
  · unfold maxLen; omega
  · have : (xs.length + 1) * bytes ≤ 1099511627776 * 128 := Nat.mul_le_mul hlen hby
    omega
  · simp; omega
  · intro v' w' h1 h2 _
    refine h v' w' ?_ ?_ ?_
    · rw [List.length_append, ints_snoc]; exact h1
    · exact ((Below.refl _ _).alloc hB _).grown h2 (by simp; omega) (fun k hk => (hown.lt k hk).1)
    · have := h2.size; simp at this; omega
theorem addr_add (g o j : Nat) : (⟨g, o, none⟩ : Addr).add j = ⟨g, o + j, none⟩ := by
  unfold Addr.add; split
  · rename_i e; subst e; rfl
  · rfl
theorem ints_one {k : IntKind} {l : List Int} : ∀ u ∈ ints k l, u.oneCell' = true := by
  intro u hu
  simp only [ints, List.mem_map] at hu
  obtain ⟨f, _, rfl⟩ := hu
  rfl
/-- Its first cells. -/
theorem Seen.firsts {w : World} {B : Nat} {A : Option Addr} {xs ys : List Value} (h : Seen w B A (xs ++ ys)) : Seen w B A xs := by
  rcases h with h | ⟨g, o, e, hg, hc⟩
  · exact .inl (List.append_eq_nil_iff.1 h).1
  · refine .inr ⟨g, o, e, hg, fun j u hu => hc j u ?_⟩
    rw [List.getElem?_append_left (List.getElem?_eq_some_iff.1 hu).1]; exact hu
theorem below_of_drew {B : Nat} {W w' : World} (h : Below B W.drew w') : Below B W w' := ⟨h.os, h.tape, h.output, h.size, h.block⟩
theorem size_alloc {W w' : World} {o : Obj} {B : Nat} (h : Below B W.drew w') : W.heap.size ≤ (w'.alloc o).heap.size := by
  have := h.size; simp at this ⊢; omega
/-- What an append is about: the element's type and sizes. -/
structure ElemOf (P : Program) (t e : TypeId) (size bytes : Nat) : Prop where
  ht : P.underlying t = some (.slice e)
  pos : 0 < size
  hi : ∃ i z, P.info? e = some i ∧ i.zero = some z ∧ i.size = size ∧ i.bytes = bytes ∧ z.cells.size = size
theorem ElemOf.mk' {P : Program} {t e : TypeId} {size bytes : Nat} {z : Value} (ht : P.underlying t = some (.slice e)) (hinfo : (P.info? e).map (fun i => (i.zero, i.size, i.bytes)) = some (some z, size, bytes)) (hz : z.cells.size = size) (hp : 0 < size) : ElemOf P t e size bytes := by
  obtain ⟨i, hi, h0, h1, h2⟩ := info_parts hinfo
  exact ⟨ht, hp, i, z, hi, h0, h1, h2, hz⟩
/-- What the call owns stays its own over what leaves all blocks so far alone. -/
theorem own_below {w w' : World} {B : Nat} {e : TypeId} {size : Nat} {v : Value} {n : Nat} {xs : List Value} (h : w.ownsRow B e size v n xs) (hb : Below w.heap.size w w') : w'.ownsRow B e size v n xs := by
  obtain ⟨h1, h2⟩ := h
  refine ⟨h1, ?_⟩
  rcases h2 with h2 | ⟨g, cap, cur, hv, hg, hh, r⟩
  · exact .inl h2
  · have hlt : g < w.heap.size := by
      rcases Nat.lt_or_ge g w.heap.size with hl | hl
      · exact hl
      · rw [Array.getElem?_eq_none hl] at hh; cases hh
    exact .inr ⟨g, cap, cur, hv, hg, by rw [hb.block g hlt]; exact hh, r⟩
theorem own_base {w : World} {B B' : Nat} {e : TypeId} {size : Nat} {v : Value} {n : Nat} {xs : List Value} (h : w.ownsRow B e size v n xs) (hB : B' ≤ B) : w.ownsRow B' e size v n xs := by
  obtain ⟨h1, h2⟩ := h
  refine ⟨h1, ?_⟩
  rcases h2 with h2 | ⟨g, cap, cur, hv, hg, r⟩
  · exact .inl h2
  · exact .inr ⟨g, cap, cur, hv, Nat.le_trans hB hg, r⟩
theorem own_form' {w : World} {B : Nat} {e : TypeId} {size : Nat} {v : Value} {n : Nat} {xs : List Value} (h : w.ownsRow B e size v n xs) : ∃ A c, v = .slice A n c ∧ Seen w w.heap.size A xs ∧ n ≤ c ∧ c ≤ maxLen := by
  obtain ⟨h1, h2⟩ := h
  rcases h2 with ⟨rfl, rfl⟩ | ⟨g, cap, cur, rfl, hg, hh, hn, hc, hs, ht⟩
  · exact ⟨none, 0, rfl, .inl (by simpa using h1), Nat.le_refl _, Nat.zero_le _⟩
  · refine ⟨_, _, rfl, .inr ⟨g, 0, rfl, ?_, fun j u hu => ?_⟩, hn, hc⟩
    · rcases Nat.lt_or_ge g w.heap.size with hl | hl
      · exact hl
      · rw [Array.getElem?_eq_none hl] at hh; cases hh
    · have hj : j < n * size := by have := (List.getElem?_eq_some_iff.1 hu).1; omega
      rw [← ht, List.getElem?_take, if_pos hj] at hu
      simp [World.cell?, hh]
      simpa using hu
theorem Seen.takeInts {w : World} {B : Nat} {A : Option Addr} {k : IntKind} {l : List Int} (h : Seen w B A (ints k l)) (n : Nat) : Seen w B A (ints k (l.take n)) := by
  have e : ints k l = ints k (l.take n) ++ ints k (l.drop n) := by simp only [ints, ← List.map_append, List.take_append_drop]
  rw [e] at h
  exact h.firsts
theorem ret_two {a a' b b' : Value} (h : a = a') (k : b = b') : Ending.returned (.tuple #[a, b]) = .returned (.tuple #[a', b']) := by rw [h, k]
theorem ret_three {a a' b b' c c' : Value} (h : a = a') (k : b = b') (m : c = c') : Ending.returned (.tuple #[a, b, c]) = .returned (.tuple #[a', b', c']) := by rw [h, k, m]
theorem ret_bool {a b : Bool} (h : a = b) : Ending.returned (.bool a) = .returned (.bool b) := by rw [h]
end Go.Proofs.Ytbboakdfnjjddaa

/- Rows of the call's own, any number of them, that lie apart: what an append, a new block and a call do to them. No program is named here. -/
namespace Go.Proofs.Ytbboakdfnjjddaa
open Go.RowKit
set_option linter.unusedVariables false
set_option linter.unusedSimpArgs false
set_option maxRecDepth 100000

structure Row where
  e : TypeId
  size : Nat
  v : Value
  n : Nat
  xs : List Value
def Row.apart (r s : Row) : Prop := ∀ g, r.v.ownBlock = some g → s.v.ownBlock ≠ some g
theorem Row.apart.symm {r s : Row} (h : r.apart s) : s.apart r := fun g hg hr => h g hr hg

/-- The rows lie in memory from block B on, no two in one block. -/
structure Owns (B : Nat) (rs : List Row) (w : World) : Prop where
  base : B ≤ w.heap.size
  each : ∀ r ∈ rs, w.ownsRow B r.e r.size r.v r.n r.xs
  apart : rs.Pairwise Row.apart

section
variable {B : Nat} {rs ts : List Row} {r s : Row} {w w' : World}
theorem Owns.nil {B : Nat} {w : World} (h : B ≤ w.heap.size) : Owns B [] w := ⟨h, by simp, .nil⟩
theorem Owns.start (w : World) : Owns w.heap.size [] w := .nil (Nat.le_refl _)
theorem Owns.head (h : Owns B (r :: rs) w) : w.ownsRow B r.e r.size r.v r.n r.xs := h.each r (by simp)
theorem Owns.tail (h : Owns B (r :: rs) w) : Owns B rs w := ⟨h.base, fun x hx => h.each x (by simp [hx]), (List.pairwise_cons.1 h.apart).2⟩
theorem Owns.perm (h : Owns B rs w) (hp : rs.Perm ts) : Owns B ts w :=
  ⟨h.base, fun x hx => h.each x (hp.mem_iff.2 hx), hp.pairwise h.apart fun h => h.symm⟩
theorem Owns.swap (h : Owns B (r :: s :: rs) w) : Owns B (s :: r :: rs) w := h.perm (.swap _ _ _)
theorem Owns.fresh (h : Owns B rs w) (e : TypeId) (size : Nat) : Owns B (⟨e, size, .slice none 0 0, 0, []⟩ :: rs) w :=
  ⟨h.base, fun x hx => by
    rcases List.mem_cons.1 hx with rfl | hx
    · exact World.ownsRow_nil _ _ _ _
    · exact h.each x hx, List.pairwise_cons.2 ⟨fun s _ g hg => (by cases hg), h.apart⟩⟩
theorem Owns.below (h : Owns B rs w) (hb : Below w.heap.size w w') : Owns B rs w' := ⟨Nat.le_trans h.base hb.size, fun x hx => own_below (h.each x hx) hb, h.apart⟩
theorem Owns.alloc (h : Owns B rs w) (o : Obj) : Owns B rs (w.alloc o) := ⟨by have := h.base; simp; omega, fun x hx => (h.each x hx).alloc o, h.apart⟩
theorem Owns.drew (h : Owns B rs w) : Owns B rs w.drew := ⟨h.base, fun x hx => h.each x hx, h.apart⟩
theorem Owns.drewN (h : Owns B rs w) (n : Nat) : Owns B rs (w.drewN n) := h.below ((Below.refl _ _).drewN n)
theorem Owns.down {B' : Nat} (h : Owns B rs w) (hB : B' ≤ B) : Owns B' rs w := ⟨Nat.le_trans hB h.base, fun x hx => own_base (h.each x hx) hB, h.apart⟩
/-- What a call hands back lies apart from what was there. -/
theorem Owns.call (h : Owns B rs w) (hb : Below w.heap.size w w') (h2 : Owns w.heap.size ts w') : Owns B (ts ++ rs) w' := by
  have hB := h.base
  refine ⟨Nat.le_trans hB hb.size, fun x hx => ?_, List.pairwise_append.2 ⟨h2.apart, h.apart, fun a ha b hb' g hg hgb => ?_⟩⟩
  · rcases List.mem_append.1 hx with hx | hx
    · exact own_base (h2.each x hx) hB
    · exact own_below (h.each x hx) hb
  · have h3 := ((h2.each a ha).lt g hg).1
    have h4 := ((h.each b hb').lt g hgb).2
    omega
theorem Owns.one (hB : B ≤ w.heap.size) (h : w.ownsRow B r.e r.size r.v r.n r.xs) : Owns B [r] w := ⟨hB, fun x hx => by simp at hx; subst hx; exact h, List.pairwise_singleton _ _⟩
theorem Owns.made (h : Owns B rs w) (e : TypeId) (size : Nat) (cur : Array Value) (cap : Nat) (hm : cap ≤ maxLen) (hs : cur.size = cap * size) :
    Owns B (⟨e, size, .slice (some ⟨w.heap.size, 0, none⟩) 0 cap, 0, []⟩ :: rs) (w.alloc (.cells cur e)) :=
  h.call (below1 _ _) (ts := [⟨e, size, .slice (some ⟨w.heap.size, 0, none⟩) 0 cap, 0, []⟩]) (.one (by simp) (World.ownsRow_made _ _ _ (Nat.le_refl _) hm hs))
theorem Owns.seen (h : Owns B rs w) (hr : r ∈ rs) : ∃ A c, r.v = .slice A r.n c ∧ Seen w w.heap.size A r.xs ∧ r.n ≤ c ∧ c ≤ maxLen := own_form' (h.each r hr)
end

/-- append of what is seen onto the first of the rows. -/
theorem run_ownV {P : Program} (w : World) (B : Nat) (t ty e : TypeId) (size bytes : Nat) (he : ElemOf P t e size bytes)
    (v : Value) (n : Nat) (xs : List Value) (rs : List Row) (HO : Owns B (⟨e, size, v, n, xs⟩ :: rs) w) (G : Nat) (A : Option Addr) (m c : Nat) (news : List Value) (hsee : Seen w G A news) (hl : news.length = m * size) (h1 : ∀ u ∈ news, u.oneCell' = true)
    (h63 : n + m ≤ maxLen) (hbytes : (n + m) * bytes ≤ 140737488355328) :
    ∃ v' w', (Builtin.append_ #[t, t] ty #[v, .slice A m c]).run P w = .ok v' w' ∧ Owns B (⟨e, size, v', n + m, xs ++ news⟩ :: rs) w' ∧ w.grownBy w' v.ownBlock ∧ Below B w w' := by
  have hown := HO.head
  have hB := HO.base
  have hap := (List.pairwise_cons.1 HO.apart).1
  obtain ⟨ht, hp, i, z, hi, hz0, hz1, hz2, hzs⟩ := he
  have fin : ∀ v' w', w'.ownsRow B e size v' (n + m) (xs ++ news) → w.grownBy w' v.ownBlock → (v'.ownBlock = v.ownBlock ∨ v'.ownBlock = some w.heap.size) → Owns B (⟨e, size, v', n + m, xs ++ news⟩ :: rs) w' ∧ w.grownBy w' v.ownBlock ∧ Below B w w' := by
    intro v' w' h2 h3 h4
    refine ⟨⟨Nat.le_trans hB h3.size, fun x hx => ?_, List.pairwise_cons.2 ⟨fun s hs g hg => ?_, HO.tail.apart⟩⟩, h3, (Below.refl _ _).grown h3 hB fun k hk => (hown.lt k hk).1⟩
    · rcases List.mem_cons.1 hx with rfl | hx
      · exact h2
      · refine (HO.tail.each x hx).kept h3 ?_
        cases hv : x.v.ownBlock with
        | none => exact .inl rfl
        | some g => exact .inr fun e => hap x hx g e.symm hv
    · simp only at hg
      rcases h4 with h4 | h4
      · exact hap s hs g (h4.symm.trans hg)
      · rw [h4] at hg
        injection hg with hg
        intro hsg
        have := ((HO.tail.each s hs).lt g hsg).2
        omega
  rcases A with _ | ad
  · have hnews : news = [] := by
      rcases hsee with h | ⟨g, o, h, _⟩
      · exact h
      · cases h
    subst hnews
    have hm : m = 0 := by
      rcases Nat.eq_zero_or_pos m with h | h
      · exact h
      · have : 0 < m * size := Nat.mul_pos h hp
        simp at hl; omega
    subst hm
    refine ⟨v, w, ?_, fin v w (by simpa using hown) (World.grownBy.refl w _) (.inl rfl)⟩
    rcases hown.2 with ⟨h5, h6⟩ | ⟨g, cap, cur, h5, _, _, hnc, _⟩
    · simp only at h5 h6
      subst h5 h6
      simp [Builtin.append_, run_underlying ht, sizeOf, typeInfo, hi, Builtin.lenOf, Builtin.firstCells]
    · simp only at h5 hnc
      subst h5
      simp [Builtin.append_, run_underlying ht, sizeOf, typeInfo, hi, Builtin.lenOf, Builtin.firstCells, hnc, storeCells]
  · have hc : ∀ j u, news[j]? = some u → w.cell? (ad.add j) = some u := by
      rcases hsee with h | ⟨g, o, h, _, hc⟩
      · subst h; intro j u hu; simp at hu
      · injection h with h
        subst h
        intro j u hu
        rw [addr_add]
        exact hc j u hu
    obtain ⟨v', w', hr, h2, h3, _, h4⟩ := run_append_own_at (P := P) w B t ty e i z size bytes ht hi hz0 hz1 hz2 hzs hp v n xs hown ad m c news hl hc h1 h63 hbytes hB
    exact ⟨v', w', hr, fin v' w' h2 h3 h4⟩
theorem wp_ownV {P : Program} {o : Oper} {a : Act} {K : Act → World → Prop} {Q : Exit → Act → World → Prop} (w : World) (s x : Operand) (t : TypeId)
    (ho : o.op = .call { callee := .builtin .append, args := #[s, x], argTypes := #[t, t] })
    (B : Nat) (e : TypeId) (size bytes : Nat) (he : ElemOf P t e size bytes)
    (v : Value) (n : Nat) (xs : List Value) (rs : List Row) (hs : a.eval s = v) (HO : Owns B (⟨e, size, v, n, xs⟩ :: rs) w) (G : Nat) (A : Option Addr) (m c : Nat) (news : List Value) (hx : a.eval x = .slice A m c) (hsee : Seen w G A news) (hl : news.length = m * size) (h1 : ∀ u ∈ news, u.oneCell' = true)
    (h63 : n + m ≤ maxLen) (hbytes : (n + m) * bytes ≤ 140737488355328)
    (h : ∀ v' w', Owns B (⟨e, size, v', n + m, xs ++ news⟩ :: rs) w' → w.grownBy w' v.ownBlock → Below B w w' → K (a.put o.dst v') w') : o.wp P a w K Q := by
  obtain ⟨v', w', hr, h2, h3, h4⟩ := run_ownV (P := P) w B t o.type e size bytes he v n xs rs HO G A m c news hsee hl h1 h63 hbytes
  unfold Oper.wp execOp
  simp only [ho, resolve, invoke, builtin, Sem.run_bind, Sem.run_pure, Result.andThen_ok, List.map_toArray, List.map_cons, List.map_nil, hs, hx, hr]
  exact h v' w' h2 h3 h4
/-- In a walk: append of what is seen. -/
theorem wpList_ownV {P : Program} {ops : Array Oper} {rest : List Oper} {o : Oper} {a : Act} {Q : Exit → Act → World → Prop} (w : World) (hgd : Region.wanted o (yielded ops a.tmps) = true) (s x : Operand) (t : TypeId)
    (ho : o.op = .call { callee := .builtin .append, args := #[s, x], argTypes := #[t, t] })
    (B : Nat) (e : TypeId) (size bytes : Nat) (he : ElemOf P t e size bytes)
    (v : Value) (n : Nat) (xs : List Value) (rs : List Row) (hs : a.eval s = v) (HO : Owns B (⟨e, size, v, n, xs⟩ :: rs) w) (G : Nat) (A : Option Addr) (m c : Nat) (news : List Value) (hx : a.eval x = .slice A m c) (hsee : Seen w G A news) (hl : news.length = m * size) (h1 : ∀ u ∈ news, u.oneCell' = true)
    (h63 : n + m ≤ maxLen) (hbytes : (n + m) * bytes ≤ 140737488355328)
    (h : ∀ v' w', Owns B (⟨e, size, v', n + m, xs ++ news⟩ :: rs) w' → Below B w w' → wpList P ops Q rest (a.put o.dst v') w') : wpList P ops Q (o :: rest) a w :=
  wpList_step fun K hK => by
    rw [if_pos hgd]
    exact wp_ownV w s x t ho B e size bytes he v n xs rs hs HO G A m c news hx hsee hl h1 h63 hbytes fun v' w' h2 _ h4 => hK _ _ (h v' w' h2 h4)
/-- A row of integers. -/
def intRow (e : TypeId) (k : IntKind) (v : Value) (l : List Int) : Row := ⟨e, 1, v, l.length, ints k l⟩
theorem ints_append (k : IntKind) (a b : List Int) : ints k (a ++ b) = ints k a ++ ints k b := by simp [ints]
theorem intRow_append (e : TypeId) (k : IntKind) (v : Value) (l m : List Int) : (⟨e, 1, v, l.length + m.length, ints k l ++ ints k m⟩ : Row) = intRow e k v (l ++ m) := by
  simp [intRow, ints_append]
/-- In a walk: append of values just laid, of whatever kind, onto the first of the rows. -/
theorem wpList_ownN {P : Program} {ops : Array Oper} {rest : List Oper} {o : Oper} {a : Act} {Q : Exit → Act → World → Prop} (w0 : World) (hgd : Region.wanted o (yielded ops a.tmps) = true) (s x : Operand) (t : TypeId)
    (ho : o.op = .call { callee := .builtin .append, args := #[s, x], argTypes := #[t, t] })
    (B : Nat) (e : TypeId) (bytes : Nat) (he : ElemOf P t e 1 bytes)
    (v : Value) (n : Nat) (xs : List Value) (rs : List Row) (hs : a.eval s = v) (HO : Owns B (⟨e, 1, v, n, xs⟩ :: rs) w0) (news : List Value) (hx : a.eval x = .slice (some ⟨w0.heap.size, 0, none⟩) news.length news.length) (h1 : ∀ u ∈ news, u.oneCell' = true)
    (h63 : n + news.length ≤ maxLen) (hbytes : (n + news.length) * bytes ≤ 140737488355328)
    (h : ∀ v' w', Owns B (⟨e, 1, v', n + news.length, xs ++ news⟩ :: rs) w' → Below B w0 w' → w0.heap.size < w'.heap.size → wpList P ops Q rest (a.put o.dst v') w') : wpList P ops Q (o :: rest) a (w0.alloc (.cells news.toArray e)) := by
  refine wpList_ownV (w0.alloc (.cells news.toArray e)) hgd s x t ho B e 1 bytes he v n xs rs hs (HO.alloc _) (w0.heap.size + 1) _ _ _ news hx (Seen.new w0 news e _ (Nat.lt_succ_self _)) (by simp) h1 h63 hbytes ?_
  intro v' w' h2 h3
  have := h3.size
  exact h v' w' h2 (((Below.refl _ _).alloc HO.base _).trans h3) (by simp at this; omega)
/-- In a walk: append of integers just laid onto the first of the rows. -/
theorem wpList_ownI {P : Program} {ops : Array Oper} {rest : List Oper} {o : Oper} {a : Act} {Q : Exit → Act → World → Prop} (w0 : World) (hgd : Region.wanted o (yielded ops a.tmps) = true) (s x : Operand) (t : TypeId)
    (ho : o.op = .call { callee := .builtin .append, args := #[s, x], argTypes := #[t, t] })
    (B : Nat) (e : TypeId) (k : IntKind) (bytes : Nat) (he : ElemOf P t e 1 bytes)
    (v : Value) (l : List Int) (rs : List Row) (hs : a.eval s = v) (HO : Owns B (intRow e k v l :: rs) w0) (ys : List Int) (hx : a.eval x = .slice (some ⟨w0.heap.size, 0, none⟩) ys.length ys.length)
    (h63 : l.length + ys.length ≤ maxLen) (hbytes : (l.length + ys.length) * bytes ≤ 140737488355328)
    (h : ∀ v' w', Owns B (intRow e k v' (l ++ ys) :: rs) w' → Below B w0 w' → w0.heap.size < w'.heap.size → wpList P ops Q rest (a.put o.dst v') w') : wpList P ops Q (o :: rest) a (w0.alloc (.cells (ints k ys).toArray e)) := by
  refine wpList_ownN w0 hgd s x t ho B e bytes he v l.length (ints k l) rs hs HO (ints k ys) (by rw [ints_length]; exact hx) ints_one (by rw [ints_length]; exact h63) (by rw [ints_length]; exact hbytes) ?_
  intro v' w' h2 h3 h4
  refine h v' w' ?_ h3 h4
  rw [← intRow_append]
  rw [ints_length] at h2
  exact h2
/-- Rows of integers, each behind a value of a list. -/
def SeenRows (w : World) (G : Nat) (k : IntKind) (vs : List Value) (ps : List (List Int)) : Prop :=
  vs.length = ps.length ∧ ∀ (j : Nat) (v : Value) (p : List Int), vs[j]? = some v → ps[j]? = some p → ∃ A c, v = .slice A p.length c ∧ Seen w G A (ints k p) ∧ p.length ≤ maxLen
section
variable {w w' : World} {G : Nat} {k : IntKind} {vs : List Value} {ps : List (List Int)}
theorem SeenRows.nil (w : World) (G : Nat) (k : IntKind) : SeenRows w G k [] [] := ⟨rfl, by simp⟩
theorem SeenRows.snoc (h : SeenRows w G k vs ps) {A : Option Addr} {c : Nat} {p : List Int} (hs : Seen w G A (ints k p)) (hl : p.length ≤ maxLen) : SeenRows w G k (vs ++ [.slice A p.length c]) (ps ++ [p]) := by
  obtain ⟨h1, h2⟩ := h
  refine ⟨by simp [h1], fun j v q hv hq => ?_⟩
  by_cases hj : j < vs.length
  · rw [List.getElem?_append_left hj] at hv
    rw [List.getElem?_append_left (by omega)] at hq
    exact h2 j v q hv hq
  · rw [List.getElem?_append_right (by omega)] at hv hq
    have hz : j - vs.length = 0 := by
      have := (List.getElem?_eq_some_iff.1 hv).1
      simp at this; omega
    rw [hz] at hv
    rw [← h1, hz] at hq
    simp at hv hq
    subst hv hq
    exact ⟨A, c, rfl, hs, hl⟩
theorem SeenRows.of (h : SeenRows w G k vs ps) (hk : ∀ A xs, Seen w G A xs → Seen w' G A xs) : SeenRows w' G k vs ps :=
  ⟨h.1, fun j v p hv hp => by obtain ⟨A, c, h1, h2, h3⟩ := h.2 j v p hv hp; exact ⟨A, c, h1, hk _ _ h2, h3⟩⟩
theorem SeenRows.below {C : Nat} (h : SeenRows w G k vs ps) (hb : Below C w w') (hG : G ≤ C) : SeenRows w' G k vs ps := h.of fun A xs hs => hs.below hb hG
theorem SeenRows.up {G' : Nat} (h : SeenRows w G k vs ps) (hG : G ≤ G') : SeenRows w G' k vs ps :=
  ⟨h.1, fun j v p hv hp => by obtain ⟨A, c, h1, h2, h3⟩ := h.2 j v p hv hp; exact ⟨A, c, h1, h2.up hG, h3⟩⟩
theorem SeenRows.at (h : SeenRows w G k vs ps) {j : Nat} (hj : j < ps.length) : ∃ A c p, vs[j]? = some (.slice A p.length c) ∧ ps[j]? = some p ∧ Seen w G A (ints k p) ∧ p.length ≤ maxLen := by
  obtain ⟨p, hp⟩ := some_at hj
  obtain ⟨v, hv⟩ := some_at (xs := vs) (j := j) (by rw [h.1]; exact hj)
  obtain ⟨A, c, e, hs, hl⟩ := h.2 j v p hv hp
  exact ⟨A, c, p, by rw [hv, e], hp, hs, hl⟩
/-- Out of rows of the call's own. -/
theorem Owns.rows {B : Nat} {e : TypeId} {rs : List Row} (h : Owns B rs w) (hl : vs.length = ps.length) (hr : ∀ (j : Nat) (v : Value) (p : List Int), vs[j]? = some v → ps[j]? = some p → intRow e k v p ∈ rs) : SeenRows w w.heap.size k vs ps := by
  refine ⟨hl, fun j v p hv hp => ?_⟩
  obtain ⟨A, c, h1, h2, h3, h4⟩ := h.seen (hr j v p hv hp)
  exact ⟨A, c, h1, h2, Nat.le_trans h3 h4⟩
end
theorem Seen.cell {w : World} {B : Nat} {A : Option Addr} {xs : List Value} (h : Seen w B A xs) {k : Nat} {u : Value} (hk : xs[k]? = some u) :
    ∃ g o, A = some ⟨g, o, none⟩ ∧ g < B ∧ w.cell? ⟨g, o + k, none⟩ = some u := by
  obtain ⟨g, o, e, hg, hc⟩ := h.at (by have := (List.getElem?_eq_some_iff.1 hk).1; omega)
  exact ⟨g, o, e, hg, hc k u hk⟩
end Go.Proofs.Ytbboakdfnjjddaa

/- Arrays and structs by value, of whatever number of cells: their load, their index; rows of triples. No program is named here. -/
namespace Go.Proofs.Ytbboakdfnjjddaa
open Go.RowKit
set_option linter.unusedVariables false
set_option linter.unusedSimpArgs false
set_option maxRecDepth 100000

/-- An array's element by its index, out of its value. -/
theorem wpList_index_arr {P : Program} {ops : Array Oper} {rest : List Oper} {o : Oper} {a : Act} {w : World} {Q : Exit → Act → World → Prop} (hgd : o.guard = none) (ty : TypeId) (x i : Operand) (ho : o.op = .index ty x i)
    (n : Nat) (e : TypeId) (q : IntKind) (hu : P.underlying ty = some (.array n e)) (he : P.underlying e = some (.int q)) (hsz : (P.info? e).map (·.size) = some 1)
    (cs : List Value) (hx : a.eval x = .agg cs.toArray) (k : IntKind) (j : Nat) (hi : a.eval i = .int k j) (v : Value) (hj : j < n) (hv : cs[j]? = some v)
    (h : wpList P ops Q rest (a.put o.dst v) w) : wpList P ops Q (o :: rest) a w := by
  refine wpList_plain hgd fun _ hK => ?_
  have hagg : (isAgg e).run P w = .ok false w := by
    unfold isAgg
    rw [Sem.run_bind, run_underlying he w]
    simp
  cases hq : P.info? e with
  | none => simp [hq] at hsz
  | some inf =>
    have hs : inf.size = 1 := by simpa [hq] using hsz
    unfold Oper.wp execOp
    simp only [ho, hx, hi]
    have hr : (Instr.index ty (.agg cs.toArray) (.int k j)).run P w = .ok v w := by
      simp [Instr.index, asIntOf, run_underlying hu, Sem.run_bind, part, sizeOf, typeInfo, hq, hs, hagg, hv, hj]
    simp only [hr, Sem.run_bind, Sem.run_pure, Result.andThen_ok]
    exact hK _ _ h

/-- What lies in a block just laid. -/
theorem range_new (w : World) (xs : List Value) (t : TypeId) : (w.alloc (.cells xs.toArray t)).rangeAt w.heap.size 0 xs := fun j v hv => by
  rw [World.cell?_alloc_at _ _ _ _ rfl]
  simpa using hv
theorem range_left {w : World} {b o : Nat} {xs ys : List Value} (h : w.rangeAt b o (xs ++ ys)) : w.rangeAt b o xs := fun j v hv => h j v (by rw [List.getElem?_append_left (List.getElem?_eq_some_iff.1 hv).1]; exact hv)
theorem range_below {w w' : World} {B b o : Nat} {xs : List Value} (h : w.rangeAt b o xs) (hb : Below B w w') (hB : b < B) : w'.rangeAt b o xs := fun j v hv => (hb.cell (by exact hB)).trans (h j v hv)

/-- Structs of three integers in a row. -/
def tripleCells (l : List (Int × Nat × Nat)) : List Value := l.flatMap fun f => [.int .i64 f.1, .int .i64 f.2.1, .int .i64 f.2.2]
theorem tripleCells_length (l : List (Int × Nat × Nat)) : (tripleCells l).length = l.length * 3 := by
  induction l with
  | nil => rfl
  | cons f l ih => simp [tripleCells] at ih ⊢; omega
theorem tripleCells_one {l : List (Int × Nat × Nat)} : ∀ u ∈ tripleCells l, u.oneCell' = true := by
  intro u hu
  simp only [tripleCells, List.mem_flatMap] at hu
  obtain ⟨f, _, hu⟩ := hu
  simp at hu
  rcases hu with rfl | rfl | rfl <;> rfl
theorem tripleCells_at : ∀ (l : List (Int × Nat × Nat)) (k : Nat) (f : Int × Nat × Nat), l[k]? = some f → (tripleCells l)[k * 3]? = some (.int .i64 f.1) ∧ (tripleCells l)[k * 3 + 1]? = some (.int .i64 f.2.1) ∧ (tripleCells l)[k * 3 + 2]? = some (.int .i64 f.2.2)
  | [], k, f, h => by simp at h
  | g :: l, 0, f, h => by simp at h; subst h; simp [tripleCells]
  | g :: l, k + 1, f, h => by
    rw [List.getElem?_cons_succ] at h
    have e : ∀ j, (tripleCells (g :: l))[j + 3]? = (tripleCells l)[j]? := by intro j; simp [tripleCells]
    have := tripleCells_at l k f h
    refine ⟨?_, ?_, ?_⟩
    · rw [show (k + 1) * 3 = k * 3 + 3 by omega, e]; exact this.1
    · rw [show (k + 1) * 3 + 1 = k * 3 + 1 + 3 by omega, e]; exact this.2.1
    · rw [show (k + 1) * 3 + 2 = k * 3 + 2 + 3 by omega, e]; exact this.2.2
/-- One struct of a row that is seen, with its three cells. -/
theorem Seen.triple {w : World} {B : Nat} {A : Option Addr} {l : List (Int × Nat × Nat)} (h : Seen w B A (tripleCells l)) {k : Nat} (hk : k < l.length) :
    ∃ g o s n c, A = some ⟨g, o, none⟩ ∧ g < B ∧ l[k]? = some (s, n, c) ∧ w.cell? ⟨g, o + k * 3, none⟩ = some (.int .i64 s) ∧ w.cell? ⟨g, o + k * 3 + 1, none⟩ = some (.int .i64 (n : Int)) ∧ w.cell? ⟨g, o + k * 3 + 2, none⟩ = some (.int .i64 (c : Int)) := by
  obtain ⟨g, o, e, hg, hc⟩ := h.at (by rw [tripleCells_length]; omega)
  obtain ⟨⟨s, n, c⟩, hx⟩ := some_at hk
  obtain ⟨h1, h2, h3⟩ := tripleCells_at l k _ hx
  exact ⟨g, o, s, n, c, e, hg, hx, hc _ _ h1, by have := hc _ _ h2; rw [Nat.add_assoc]; exact this, by have := hc _ _ h3; rw [Nat.add_assoc]; exact this⟩
end Go.Proofs.Ytbboakdfnjjddaa

/- Bits of numbers, the highest first, and bytes: plain mathematics. -/
namespace Go.Proofs.Ytbboakdfnjjddaa
set_option linter.unusedVariables false
set_option linter.unusedSimpArgs false
set_option maxRecDepth 100000

def bitsN : Nat → Nat → List Bool
  | 0, _ => []
  | w + 1, v => bitsN w (v / 2) ++ [decide (v % 2 = 1)]
def valB (l : List Bool) : Nat := l.foldl (fun n b => 2 * n + b.toNat) 0

theorem bitsN_length (w v : Nat) : (bitsN w v).length = w := by
  induction w generalizing v with
  | zero => rfl
  | succ w ih => simp [bitsN, ih]
theorem valB_snoc (l : List Bool) (b : Bool) : valB (l ++ [b]) = 2 * valB l + b.toNat := by simp [valB]
theorem valB_bitsN (w v : Nat) (h : v < 2 ^ w) : valB (bitsN w v) = v := by
  induction w generalizing v with
  | zero => simp at h; subst h; rfl
  | succ w ih =>
    rw [bitsN, valB_snoc, ih _ (by rw [Nat.pow_succ] at h; omega)]
    rcases Nat.mod_two_eq_zero_or_one v with hv | hv <;> simp [hv] <;> omega
theorem list_snoc {α : Type} (l : List α) (h : l ≠ []) : ∃ a b, l = a ++ [b] := ⟨l.dropLast, l.getLast h, (List.dropLast_concat_getLast h).symm⟩
theorem valB_lt (l : List Bool) : valB l < 2 ^ l.length := by
  suffices H : ∀ n (l : List Bool), l.length = n → valB l < 2 ^ n from H _ l rfl
  intro n
  induction n with
  | zero => intro l hl; have := List.eq_nil_of_length_eq_zero hl; subst this; decide
  | succ n ih =>
    intro l hl
    obtain ⟨a, b, rfl⟩ := list_snoc l (by intro e; subst e; simp at hl)
    have := ih a (by simpa using hl)
    rw [valB_snoc, Nat.pow_succ]
    cases b <;> simp <;> omega
theorem bitsN_valB (l : List Bool) : bitsN l.length (valB l) = l := by
  suffices H : ∀ n (l : List Bool), l.length = n → bitsN n (valB l) = l from H _ l rfl
  intro n
  induction n with
  | zero => intro l hl; have := List.eq_nil_of_length_eq_zero hl; subst this; rfl
  | succ n ih =>
    intro l hl
    obtain ⟨a, b, rfl⟩ := list_snoc l (by intro e; subst e; simp at hl)
    rw [bitsN, valB_snoc]
    have h1 : (2 * valB a + b.toNat) / 2 = valB a := by cases b <;> simp <;> omega
    have h2 : decide ((2 * valB a + b.toNat) % 2 = 1) = b := by cases b <;> simp <;> omega
    rw [h1, h2, ih a (by simpa using hl)]
theorem bitsN_inj {w a b : Nat} (ha : a < 2 ^ w) (hb : b < 2 ^ w) (h : bitsN w a = bitsN w b) : a = b := by
  rw [← valB_bitsN w a ha, ← valB_bitsN w b hb, h]
theorem bitsN_add (a b v : Nat) : bitsN (a + b) v = bitsN a (v / 2 ^ b) ++ bitsN b v := by
  induction b generalizing v with
  | zero => simp [bitsN]
  | succ b ih =>
    rw [← Nat.add_assoc, bitsN, ih, bitsN, List.append_assoc]
    congr 1
    rw [Nat.div_div_eq_div_mul, ← Nat.pow_succ', ]
theorem bitsN_mod (b v : Nat) : bitsN b (v % 2 ^ b) = bitsN b v := by
  induction b generalizing v with
  | zero => rfl
  | succ b ih =>
    rw [bitsN, bitsN]
    have h1 : v % 2 ^ (b + 1) / 2 = (v / 2) % 2 ^ b := by
      rw [Nat.pow_succ', Nat.mod_mul_right_div_self]
    have h2 : v % 2 ^ (b + 1) % 2 = v % 2 := Nat.mod_mod_of_dvd _ ⟨2 ^ b, by rw [Nat.pow_succ']⟩
    rw [h1, h2, ih]
/-- Two fields one behind the other. -/
theorem bitsN_join (a b p v : Nat) (hv : v < 2 ^ b) : bitsN (a + b) (p * 2 ^ b + v) = bitsN a p ++ bitsN b v := by
  have h1 : (p * 2 ^ b + v) / 2 ^ b = p := by
    rw [Nat.add_comm, Nat.add_mul_div_right _ _ (Nat.two_pow_pos b), Nat.div_eq_of_lt hv, Nat.zero_add]
  have h2 : (p * 2 ^ b + v) % 2 ^ b = v := by
    rw [Nat.add_comm, Nat.add_mul_mod_self_right, Nat.mod_eq_of_lt hv]
  rw [bitsN_add, h1, ← bitsN_mod b (p * 2 ^ b + v), h2]
theorem bitsN_ones (b : Nat) : bitsN b (2 ^ b - 1) = List.replicate b true := by
  induction b with
  | zero => rfl
  | succ b ih =>
    have hp := Nat.two_pow_pos b
    rw [bitsN, List.replicate_succ', Nat.pow_succ]
    have h1 : (2 ^ b * 2 - 1) / 2 = 2 ^ b - 1 := by omega
    have h2 : (2 ^ b * 2 - 1) % 2 = 1 := by omega
    rw [h1, h2, ih]; rfl

def unpack (bs : List Int) : List Bool := bs.flatMap fun x => bitsN 8 x.toNat
def Bytes (bs : List Int) : Prop := ∀ x ∈ bs, 0 ≤ x ∧ x ≤ 255
def fieldBits (l : List (Int × Int)) : List Bool := l.flatMap fun f => bitsN f.1.toNat f.2.toNat
def okF (f : Int × Int) : Prop := (0 ≤ f.1 ∧ f.1 ≤ 24) ∧ 0 ≤ f.2 ∧ f.2 < 2 ^ f.1.toNat
instance (f : Int × Int) : Decidable (okF f) := by unfold okF; infer_instance

theorem unpack_nil : unpack [] = [] := rfl
theorem unpack_append (a b : List Int) : unpack (a ++ b) = unpack a ++ unpack b := by simp [unpack]
theorem unpack_snoc (a : List Int) (x : Int) : unpack (a ++ [x]) = unpack a ++ bitsN 8 x.toNat := by simp [unpack]
theorem unpack_cons (x : Int) (a : List Int) : unpack (x :: a) = bitsN 8 x.toNat ++ unpack a := by simp [unpack]
theorem unpack_length (a : List Int) : (unpack a).length = 8 * a.length := by
  induction a with
  | nil => rfl
  | cons x a ih => rw [unpack_cons, List.length_append, bitsN_length, ih, List.length_cons]; omega
theorem Bytes.snoc {a : List Int} {x : Int} (h : Bytes a) (hx : 0 ≤ x ∧ x ≤ 255) : Bytes (a ++ [x]) := by
  intro y hy
  rcases List.mem_append.1 hy with hy | hy
  · exact h y hy
  · simp at hy; subst hy; exact hx
theorem unpack_inj : ∀ {a b : List Int}, Bytes a → Bytes b → unpack a = unpack b → a = b
  | [], [], _, _, _ => rfl
  | [], y :: b, _, _, h => by have := congrArg List.length h; simp [unpack_length] at this
  | x :: a, [], _, _, h => by have := congrArg List.length h; simp [unpack_length] at this
  | x :: a, y :: b, ha, hb, h => by
    rw [unpack_cons, unpack_cons] at h
    obtain ⟨h1, h2⟩ := List.append_inj h (by rw [bitsN_length, bitsN_length])
    have hx := ha x (by simp)
    have hy := hb y (by simp)
    have e := bitsN_inj (w := 8) (by omega) (by omega) h1
    have := unpack_inj (fun z hz => ha z (by simp [hz])) (fun z hz => hb z (by simp [hz])) h2
    rw [this]; congr 1; omega
theorem fieldBits_snoc (a : List (Int × Int)) (f : Int × Int) : fieldBits (a ++ [f]) = fieldBits a ++ bitsN f.1.toNat f.2.toNat := by simp [fieldBits]
theorem fieldBits_cons (f : Int × Int) (a : List (Int × Int)) : fieldBits (f :: a) = bitsN f.1.toNat f.2.toNat ++ fieldBits a := by simp [fieldBits]

/-- What Write answers: the error's number. -/
def writeErr (l : List (Int × Int)) : Int := if 20000 < l.length then 2 else if ∀ f ∈ l, okF f then 0 else 1
/-- What Write makes: whole bytes, the fields' bits, then ones. -/
def Written (l : List (Int × Int)) (out : List Int) : Prop :=
  (writeErr l ≠ 0 → out = []) ∧ (writeErr l = 0 → Bytes out ∧ ∃ p, p < 8 ∧ unpack out = fieldBits l ++ List.replicate p true)
theorem Written.same {l : List (Int × Int)} {a b : List Int} (ha : Written l a) (hb : Written l b) : a = b := by
  by_cases h : writeErr l = 0
  · obtain ⟨ba, p, hp, ea⟩ := ha.2 h
    obtain ⟨bb, q, hq, eb⟩ := hb.2 h
    have h1 := congrArg List.length ea
    have h2 := congrArg List.length eb
    simp [unpack_length] at h1 h2
    have : p = q := by omega
    subst this
    exact unpack_inj ba bb (ea.trans eb.symm)
  · rw [ha.1 h, hb.1 h]

/-- Numbers of given widths off a row of bits. -/
def readB : List Bool → List Int → List Int
  | _, [] => []
  | bs, w :: ws => (valB (bs.take w.toNat) : Int) :: readB (bs.drop w.toNat) ws
def sumW (ws : List Int) : Int := ws.foldr (· + ·) 0
end Go.Proofs.Ytbboakdfnjjddaa

/- Canonical prefix codes in numbers: which counts have codewords, what these are, that none begins another. No program is named here. -/
namespace Go.Proofs.Ytbboakdfnjjddaa
set_option linter.unusedVariables false
set_option linter.unusedSimpArgs false
set_option maxRecDepth 100000

/-- From words of k + 1 bits on, c being the next code: the lengths and codes. -/
def codesFrom : Nat → Nat → List Nat → Option (List (Nat × Nat))
  | _, _, [] => some []
  | k, c, n :: ns => if c + n ≤ 2 ^ (k + 1) - 1 then (codesFrom (k + 1) (2 * (c + n)) ns).map ((List.range n).map (fun i => (k + 1, c + i)) ++ ·) else none
def codes (ns : List Nat) : Option (List (Nat × Nat)) := codesFrom 0 0 ns

/-- What has been handed out, and what is to come. -/
def CInv (ns : List Nat) (k c : Nat) (acc : List (Nat × Nat)) : Prop := codes ns = (codesFrom k c (ns.drop k)).map (acc ++ ·) ∧ c < 2 ^ (k + 1) - 1 ∧ acc.length = (ns.take k).sum
theorem CInv.start (ns : List Nat) : CInv ns 0 0 [] := ⟨by show codesFrom 0 0 ns = _; rw [List.drop_zero]; cases h : codesFrom 0 0 ns <;> simp, by decide, rfl⟩
def wordsTo (k c i : Nat) : List (Nat × Nat) := (List.range i).map fun j => (k + 1, c + j)
theorem wordsTo_length (k c i : Nat) : (wordsTo k c i).length = i := by simp [wordsTo]
theorem wordsTo_snoc (k c i : Nat) : wordsTo k c (i + 1) = wordsTo k c i ++ [(k + 1, c + i)] := by simp [wordsTo, List.range_succ]
theorem drop_nat {ns : List Nat} {k n : Nat} (h : ns[k]? = some n) : ns.drop k = n :: ns.drop (k + 1) := by
  obtain ⟨hk, e⟩ := List.getElem?_eq_some_iff.1 h
  rw [List.drop_eq_getElem_cons hk, e]
theorem CInv.fail {ns : List Nat} {k c n : Nat} {acc : List (Nat × Nat)} (h : CInv ns k c acc) (hn : ns[k]? = some n) {i : Nat} (hi : i < n) (hc : 2 ^ (k + 1) - 1 ≤ c + i) : codes ns = none := by
  rw [h.1, drop_nat hn]
  unfold codesFrom
  rw [if_neg (by omega)]
  rfl
theorem take_sum {ns : List Nat} {k n : Nat} (h : ns[k]? = some n) : (ns.take (k + 1)).sum = (ns.take k).sum + n := by
  rw [List.take_add_one, h]; simp [List.sum_append]
theorem CInv.next {ns : List Nat} {k c n : Nat} {acc : List (Nat × Nat)} (h : CInv ns k c acc) (hn : ns[k]? = some n) (hc : c + n ≤ 2 ^ (k + 1) - 1) : CInv ns (k + 1) (2 * (c + n)) (acc ++ wordsTo k c n) := by
  refine ⟨?_, ?_, ?_⟩
  · rw [h.1, drop_nat hn]
    conv => lhs; unfold codesFrom
    rw [if_pos hc]
    cases codesFrom (k + 1) (2 * (c + n)) (ns.drop (k + 1)) <;> simp [wordsTo]
  · have : 2 ^ (k + 1 + 1) = 2 * 2 ^ (k + 1) := by rw [Nat.pow_succ]; omega
    have h2 : 0 < 2 ^ (k + 1) := Nat.pow_pos (by omega)
    omega
  · rw [List.length_append, h.2.2, wordsTo_length, take_sum hn]
theorem CInv.done {ns : List Nat} {c : Nat} {acc : List (Nat × Nat)} (h : CInv ns ns.length c acc) : codes ns = some acc := by
  rw [h.1, List.drop_length]
  simp [codesFrom]
theorem codes_length {ns : List Nat} {l : List (Nat × Nat)} (h : codes ns = some l) : l.length = ns.sum := by
  have key : ∀ (ns : List Nat) (k c : Nat) (l : List (Nat × Nat)), codesFrom k c ns = some l → l.length = ns.sum := by
    intro ns
    induction ns with
    | nil => intro k c l h; simp [codesFrom] at h; subst h; rfl
    | cons n ns ih =>
      intro k c l h
      unfold codesFrom at h
      split at h
      · cases hq : codesFrom (k + 1) (2 * (c + n)) ns with
        | none => simp [hq] at h
        | some m => simp [hq] at h; subst h; simp [ih _ _ _ hq]
      · cases h
  exact key ns 0 0 l h

/-- Each word lies right behind the one ahead; all of them leave room. -/
def Kr : Nat → List (Nat × Nat) → Prop
  | R, [] => R < 65536
  | R, p :: l => 1 ≤ p.1 ∧ p.1 ≤ 16 ∧ p.2 * 2 ^ (16 - p.1) = R ∧ (∀ q ∈ l, p.1 ≤ q.1) ∧ Kr (R + 2 ^ (16 - p.1)) l
theorem Kr.level {k : Nat} (hk : k < 16) (rest : List (Nat × Nat)) (hlong : ∀ q ∈ rest, k + 1 ≤ q.1) : ∀ (n c : Nat), Kr ((c + n) * 2 ^ (15 - k)) rest → Kr (c * 2 ^ (15 - k)) (wordsTo k c n ++ rest) := by
  intro n
  induction n with
  | zero => intro c h; simpa [wordsTo] using h
  | succ n ih =>
    intro c h
    have e : wordsTo k c (n + 1) = (k + 1, c) :: wordsTo k (c + 1) n := by
      simp only [wordsTo, List.range_succ_eq_map, List.map_cons, List.map_map, Nat.add_zero]
      congr 1
      apply List.map_congr_left
      intro j _
      simp only [Function.comp_apply, Prod.mk.injEq, true_and]
      omega
    rw [e, List.cons_append]
    refine ⟨by simp, by simp; omega, by show c * 2 ^ (16 - (k + 1)) = _; rw [show 16 - (k + 1) = 15 - k by omega], ?_, ?_⟩
    · intro q hq
      rcases List.mem_append.1 hq with hq | hq
      · simp [wordsTo] at hq
        obtain ⟨_, _, rfl⟩ := hq
        simp
      · exact hlong q hq
    · have h2 := ih (c + 1) (by rw [show c + 1 + n = c + (n + 1) by omega]; exact h)
      have e2 : c * 2 ^ (15 - k) + 2 ^ (16 - (k + 1)) = (c + 1) * 2 ^ (15 - k) := by rw [Nat.add_mul, Nat.one_mul, show 16 - (k + 1) = 15 - k by omega]
      simp only
      rw [e2]
      exact h2
theorem codesFrom_kr : ∀ (ns : List Nat) (k c : Nat) (l : List (Nat × Nat)), k + ns.length = 16 → c < 2 ^ (k + 1) - 1 → codesFrom k c ns = some l → Kr (if k < 16 then c * 2 ^ (15 - k) else c / 2) l ∧ (∀ q ∈ l, k + 1 ≤ q.1) := by
  intro ns
  induction ns with
  | nil =>
    intro k c l hk hc h
    simp at hk
    subst hk
    simp [codesFrom] at h
    subst h
    refine ⟨?_, by simp⟩
    show _ < 65536
    simp only [Nat.lt_irrefl, if_false]
    have : 2 ^ (16 + 1) = 131072 := by decide
    omega
  | cons n ns ih =>
    intro k c l hk hc h
    simp at hk
    have hk16 : k < 16 := by omega
    unfold codesFrom at h
    split at h
    · rename_i hcn
      cases hq : codesFrom (k + 1) (2 * (c + n)) ns with
      | none => simp [hq] at h
      | some m =>
        simp [hq] at h
        subst h
        have hp : 2 ^ (k + 1 + 1) = 2 * 2 ^ (k + 1) := by rw [Nat.pow_succ]; omega
        have h0 : 0 < 2 ^ (k + 1) := Nat.pow_pos (by omega)
        obtain ⟨h1, h2⟩ := ih (k + 1) (2 * (c + n)) m (by omega) (by omega) hq
        have hR : (if k + 1 < 16 then 2 * (c + n) * 2 ^ (15 - (k + 1)) else 2 * (c + n) / 2) = (c + n) * 2 ^ (15 - k) := by
          split
          · rename_i h15
            rw [show 15 - k = (15 - (k + 1)) + 1 by omega, Nat.pow_succ]
            rw [Nat.mul_comm 2, Nat.mul_assoc, Nat.mul_comm 2]
          · have : k = 15 := by omega
            subst this
            simp
        rw [hR] at h1
        rw [if_pos hk16]
        refine ⟨Kr.level hk16 m (fun q hq' => by have := h2 q hq'; omega) n c h1, ?_⟩
        intro q hq'
        rcases List.mem_append.1 hq' with hq' | hq'
        · simp at hq'
          obtain ⟨_, _, rfl⟩ := hq'
          simp
        · have := h2 q hq'; omega
    · cases h
theorem codes_kr {ns : List Nat} {l : List (Nat × Nat)} (hn : ns.length = 16) (h : codes ns = some l) : Kr 0 l := by
  have := (codesFrom_kr ns 0 0 l (by omega) (by decide) h).1
  simpa using this
/-! ### no word begins another one -/
theorem Kr.lt {R : Nat} {l : List (Nat × Nat)} (h : Kr R l) : R < 65536 := by
  induction l generalizing R with
  | nil => exact h
  | cons p l ih => exact Nat.lt_of_le_of_lt (Nat.le_add_right _ _) (ih h.2.2.2.2)
theorem Kr.ge {R : Nat} {l : List (Nat × Nat)} (h : Kr R l) : ∀ p ∈ l, 1 ≤ p.1 ∧ p.1 ≤ 16 ∧ R ≤ p.2 * 2 ^ (16 - p.1) ∧ p.2 * 2 ^ (16 - p.1) + 2 ^ (16 - p.1) < 65536 := by
  induction l generalizing R with
  | nil => simp
  | cons q l ih =>
    obtain ⟨h1, h2, h3, h4, h5⟩ := h
    intro p hp
    rcases List.mem_cons.1 hp with rfl | hp
    · exact ⟨h1, h2, by omega, by have := h5.lt; omega⟩
    · have := ih h5 p hp
      exact ⟨this.1, this.2.1, Nat.le_trans (Nat.le_add_right _ _) this.2.2.1, this.2.2.2⟩
theorem Kr.small {R : Nat} {l : List (Nat × Nat)} (h : Kr R l) {p : Nat × Nat} (hp : p ∈ l) : p.2 + 1 < 2 ^ p.1 := by
  obtain ⟨h1, h2, h3, h4⟩ := h.ge p hp
  have e : 2 ^ p.1 * 2 ^ (16 - p.1) = 65536 := by rw [← Nat.pow_add, show p.1 + (16 - p.1) = 16 by omega]
  rcases Nat.lt_or_ge (p.2 + 1) (2 ^ p.1) with h5 | h5
  · exact h5
  · have := Nat.mul_le_mul_right (2 ^ (16 - p.1)) h5
    rw [Nat.add_mul, e] at this
    omega
/-- Of two words the later one lies behind the earlier one. -/
theorem Kr.apart {R : Nat} {l : List (Nat × Nat)} (h : Kr R l) : l.Pairwise fun p q => p.1 ≤ q.1 ∧ p.2 * 2 ^ (16 - p.1) + 2 ^ (16 - p.1) ≤ q.2 * 2 ^ (16 - q.1) := by
  induction l generalizing R with
  | nil => exact .nil
  | cons p l ih =>
    obtain ⟨h1, h2, h3, h4, h5⟩ := h
    refine List.pairwise_cons.2 ⟨fun q hq => ⟨h4 q hq, ?_⟩, ih h5⟩
    have := (h5.ge q hq).2.2.1
    omega
theorem shift_ne {a b c d : Nat} (hab : a ≤ b) (hb : b ≤ 16) (h : c * 2 ^ (16 - a) + 2 ^ (16 - a) ≤ d * 2 ^ (16 - b)) : c < d / 2 ^ (b - a) := by
  have e : 2 ^ (16 - a) = 2 ^ (b - a) * 2 ^ (16 - b) := by rw [← Nat.pow_add]; congr 1; omega
  have h0 : 0 < 2 ^ (16 - b) := Nat.pow_pos (by omega)
  have h1 : 0 < 2 ^ (b - a) := Nat.pow_pos (by omega)
  rw [e] at h
  have h2 : (c + 1) * 2 ^ (b - a) * 2 ^ (16 - b) ≤ d * 2 ^ (16 - b) := by
    rw [Nat.add_mul, Nat.add_mul, Nat.one_mul, Nat.mul_assoc]; exact h
  have h3 := Nat.le_of_mul_le_mul_right h2 h0
  have := (Nat.le_div_iff_mul_le h1).2 h3
  omega
/-- No word begins another one. -/
theorem Kr.noFront {R : Nat} {l : List (Nat × Nat)} (h : Kr R l) {i k : Nat} {p q : Nat × Nat} (hp : l[i]? = some p) (hq : l[k]? = some q) (hne : i ≠ k) (hle : p.1 ≤ q.1) : q.2 / 2 ^ (q.1 - p.1) ≠ p.2 := by
  have ha := List.pairwise_iff_getElem.1 h.apart
  obtain ⟨hi, rfl⟩ := List.getElem?_eq_some_iff.1 hp
  obtain ⟨hk, rfl⟩ := List.getElem?_eq_some_iff.1 hq
  rcases Nat.lt_or_gt_of_ne hne with hlt | hlt
  · have h1 := ha i k hi hk hlt
    have h2 := (h.ge _ (List.getElem_mem hk)).2.1
    have := shift_ne h1.1 h2 h1.2
    omega
  · have h1 := ha k i hk hi hlt
    have h2 := (h.ge _ (List.getElem_mem hi)).2.1
    have h3 : (l[i]).1 = (l[k]).1 := by omega
    have := shift_ne h1.1 h2 h1.2
    rw [h3] at this ⊢
    simp at this ⊢
    omega
/-- The bits of one begin those of another: they are one. -/
theorem Kr.bits {R : Nat} {l : List (Nat × Nat)} (h : Kr R l) {i k : Nat} {p q : Nat × Nat} (hp : l[i]? = some p) (hq : l[k]? = some q) {b : List Bool} (h1 : bitsN p.1 p.2 <+: b) (h2 : bitsN q.1 q.2 <+: b) : i = k := by
  have key : ∀ {i k : Nat} {p q : Nat × Nat}, l[i]? = some p → l[k]? = some q → bitsN p.1 p.2 <+: b → bitsN q.1 q.2 <+: b → p.1 ≤ q.1 → i = k := by
    intro i k p q hp hq h1 h2 hle
    refine Classical.byContradiction fun hne => h.noFront hp hq hne hle ?_
    have h3 : bitsN p.1 p.2 <+: bitsN q.1 q.2 := List.prefix_of_prefix_length_le h1 h2 (by rw [bitsN_length, bitsN_length]; exact hle)
    have e : bitsN q.1 q.2 = bitsN p.1 (q.2 / 2 ^ (q.1 - p.1)) ++ bitsN (q.1 - p.1) q.2 := by
      rw [← bitsN_add]; congr 1; omega
    rw [e] at h3
    have h4 := List.prefix_iff_eq_take.1 h3
    rw [List.take_left' (by rw [bitsN_length, bitsN_length])] at h4
    have hpm := h.small (List.mem_of_getElem? hp)
    have hqm := h.small (List.mem_of_getElem? hq)
    refine (bitsN_inj (by omega) ?_ h4).symm
    have h0 : 0 < 2 ^ (q.1 - p.1) := Nat.pow_pos (by omega)
    rw [Nat.div_lt_iff_lt_mul h0, ← Nat.pow_add, show p.1 + (q.1 - p.1) = q.1 by omega]
    omega
  rcases Nat.le_total p.1 q.1 with hle | hle
  · exact key hp hq h1 h2 hle
  · exact (key hq hp h2 h1 hle).symm
end Go.Proofs.Ytbboakdfnjjddaa

/- A table's value, and whether its counts fit: the contract of table.countsMatch. -/
namespace Go.Proofs.Ytbboakdfnjjddaa
open Go.RowKit
set_option linter.unusedVariables false
set_option linter.unusedSimpArgs false
set_option maxRecDepth 100000

/-- The cells of a table. -/
def tabCells (cs : List Int) (A : Option Addr) (n c : Nat) : List Value := ints .i64 cs ++ [.slice A n c]
/-- A table's value. -/
abbrev tabV (cs : List Int) (A : Option Addr) (n c : Nat) : Value := .agg (tabCells cs A n c).toArray
theorem tabCells_last {cs : List Int} {A : Option Addr} {n c : Nat} (h : cs.length = 16) : (tabCells cs A n c)[16]? = some (.slice A n c) := by
  unfold tabCells
  rw [List.getElem?_append_right (by rw [ints_length]; omega), ints_length, h]; rfl
theorem tabCells_length {cs : List Int} {A : Option Addr} {n c : Nat} (h : cs.length = 16) : (tabCells cs A n c).length = 17 := by
  simp [tabCells, ints_length, h]
theorem tabCells_one {cs : List Int} {A : Option Addr} {n c : Nat} : ∀ u ∈ tabCells cs A n c, u.oneCell' = true := by
  intro u hu
  rcases List.mem_append.1 hu with hu | hu
  · exact ints_one u hu
  · simp at hu; subst hu; rfl

theorem info_tab : (Try.prog.info? 34).map (·.size) = some 17 := by kernel_rfl
theorem info_arr : (Try.prog.info? 32).map (·.size) = some 16 := by kernel_rfl
theorem info_int1 : (Try.prog.info? 3).map (·.size) = some 1 := by kernel_rfl

/-- The counts are numbers whose sum fits the symbols. -/
def Good (cs : List Int) (n : Nat) : Prop := (∀ x ∈ cs, 0 ≤ x) ∧ sumW cs ≤ 256 ∧ sumW cs = n
instance (cs : List Int) (n : Nat) : Decidable (Good cs n) := by unfold Good; infer_instance
def goodB (cs : List Int) (n : Nat) : Bool := decide (Good cs n)
theorem goodB_no {cs : List Int} {n : Nat} (h : ¬ Good cs n) : goodB cs n = false := decide_eq_false h
theorem goodB_iff {cs : List Int} {n : Nat} : goodB cs n = true ↔ Good cs n := decide_eq_true_iff
theorem sumW_app (a b : List Int) : sumW (a ++ b) = sumW a + sumW b := by
  induction a with
  | nil => simp [sumW]
  | cons x a ih => simp [sumW] at ih ⊢; omega
theorem sumW_pos (ws : List Int) (h : ∀ x ∈ ws, 0 ≤ x) : 0 ≤ sumW ws := by
  induction ws with
  | nil => simp [sumW]
  | cons x a ih => have h1 := h x (by simp); have h2 := ih fun y hy => h y (by simp [hy]); simp [sumW] at h2 ⊢; omega
theorem good_stop {cs : List Int} {n k : Nat} {x : Int} (hx : cs[k]? = some x) (h : x < 0 ∨ 256 - sumW (cs.take k) < x) : ¬ Good cs n := by
  rintro ⟨h1, h2, h3⟩
  have h4 := h1 x (List.mem_of_getElem? hx)
  have e : sumW cs = sumW (cs.take k) + x + sumW (cs.drop (k + 1)) := by
    conv => lhs; rw [← List.take_append_drop (k + 1) cs, sumW_app, take_snoc hx, sumW_app]
    simp [sumW]
  have h5 := sumW_pos (cs.drop (k + 1)) fun y hy => h1 y (List.mem_of_mem_drop hy)
  omega
theorem sumW_take {cs : List Int} {k : Nat} {x : Int} (hx : cs[k]? = some x) : sumW (cs.take (k + 1)) = sumW (cs.take k) + x := by
  rw [take_snoc hx, sumW_app]; simp [sumW]

theorem mem_snoc {α : Type} {p : α → Prop} {l : List α} {k : Nat} {x : α} (hx : l[k]? = some x) (h : ∀ y ∈ l.take k, p y) (h2 : p x) : ∀ y ∈ l.take (k + 1), p y := by
  intro y hy
  rw [take_snoc hx] at hy
  rcases List.mem_append.1 hy with hy | hy
  · exact h y hy
  · simp at hy; subst hy; exact h2
set_option maxHeartbeats 1000000 in
theorem countsMatch_any (cs : List Int) (A : Option Addr) (n c : Nat) (w : World) (hcs : cs.length = 16) (hn : n ≤ maxLen) (hb : ∀ x ∈ cs, -9223372036854775808 ≤ x ∧ x ≤ 9223372036854775807) :
    Calls Try.prog 99 #[tabV cs A n c] w fun e w' => e = .returned (.bool (goodB cs n)) ∧ Below w.heap.size w w' := by
  have h16 : (tabCells cs A n c)[16]? = some (.slice A n c) := tabCells_last hcs
  have hlt : w.heap.size < (w.alloc (.cells (tabCells cs A n c).toArray 34)).heap.size := by simp
  have hr : Hid (∀ xs, xs = tabCells cs A n c → (w.alloc (.cells xs.toArray 34)).rangeAt w.heap.size 0 (ints .i64 cs)) := by
    show ∀ xs, _
    intro xs e
    subst e
    exact range_left (range_new w _ _)
  unfold maxLen at hn
  have Hb := veil hb
  have Hcs := veil hcs
  have he : Hid (∀ xs, xs = tabCells cs A n c → xs = tabCells cs A n c) := fun _ h => h
  clear hb hcs
  obtain ⟨xs, hxs⟩ : ∃ xs, xs = tabCells cs A n c := ⟨_, rfl⟩
  have Hr := veil (hr.out xs hxs)
  unfold tabV
  rw [← hxs] at h16 ⊢
  clear hr hxs he hlt
  go_enter Try.func99, Try.ntmps99
  go_wp2_with (first
    | (refine wpList_load_mid rfl 32 (.tmp 6) rfl w.heap.size 0 rfl (ints .i64 cs) _ Hr.out Try.underlying32 rfl (by rw [ints_length, Hcs.out]; exact info_arr) ?_)
    | fail)
  go_loopg [3, 5, 8] 16 (fun gk s x i wr => ∃ k : Nat, gk = 16 - k ∧ k ≤ 16 ∧ i = .int .i64 k ∧ (∃ z : Int, s = .int .i64 z ∧ Hid (z = sumW (cs.take k)) ∧ 0 ≤ z ∧ z ≤ 256) ∧ Hid (∀ x ∈ cs.take k, 0 ≤ x) ∧ wr.cell? ⟨w.heap.size, 16, none⟩ = some (.slice A n c) ∧ Below w.heap.size w wr)
  case atStart => exact ⟨0, rfl, by omega, rfl, ⟨0, rfl, veil rfl, by omega, by omega⟩, veil (by simp), by rw [World.cell?_alloc_at _ _ _ _ rfl]; simpa using h16, below1 _ _⟩
  case round =>
    obtain ⟨k, rfl, hk, rfl, ⟨z, rfl, Hz, hz0, hz1⟩, Hp, h17, hbel⟩ := hrel
    by_cases hlt : k < 16
    · obtain ⟨x, hx⟩ := some_at (xs := cs) (j := k) (by rw [Hcs.out]; omega)
      have hxb := Hb.out x (List.mem_of_getElem? hx)
      have Hx := veil hx; clear hx
      by_cases h0 : x < 0
      · go_wp2_with (first
          | (refine wpList_index_arr rfl 32 (.tmp 7) (.tmp 8) rfl 16 3 .i64 Try.underlying32 Try.underlying3 info_int1 (ints .i64 cs) rfl .i64 k rfl (.int .i64 x) hlt (ints_at Hx.out) ?_)
          | fail)
        go_ret
        exact ⟨ret_bool (goodB_no (good_stop (n := n) Hx.out (.inl h0))).symm, hbel⟩
      · by_cases h1 : 256 - z < x
        · go_wp2_with (first
            | (refine wpList_index_arr rfl 32 (.tmp 7) (.tmp 8) rfl 16 3 .i64 Try.underlying32 Try.underlying3 info_int1 (ints .i64 cs) rfl .i64 k rfl (.int .i64 x) hlt (ints_at Hx.out) ?_)
            | fail)
          go_ret
          exact ⟨ret_bool (goodB_no (good_stop (n := n) Hx.out (.inr (by rw [← Hz.out]; exact h1)))).symm, hbel⟩
        · have hw : IntKind.i64.wrap (z + x) = z + x := by rw [IntKind.wrap_i64]; omega
          go_wp2_with (first
            | (refine wpList_index_arr rfl 32 (.tmp 7) (.tmp 8) rfl 16 3 .i64 Try.underlying32 Try.underlying3 info_int1 (ints .i64 cs) rfl .i64 k rfl (.int .i64 x) hlt (ints_at Hx.out) ?_)
            | fail)
          go_roundg (16 - (k + 1))
          case rel => exact ⟨k + 1, rfl, by omega, by go_num, ⟨z + x, by go_num, veil (by rw [sumW_take Hx.out, ← Hz.out]), by omega, by omega⟩, veil (mem_snoc Hx.out Hp.out (by omega)), h17, hbel⟩
          case measure => omega
    · obtain rfl : k = 16 := by omega
      go_wp2
      go_ret
      refine ⟨ret_bool ?_, hbel⟩
      rw [Bool.eq_iff_iff, goodB_iff]
      have e : cs.take 16 = cs := by rw [List.take_of_length_le]; rw [Hcs.out]; omega
      have h3 := Hp.out
      have h4 := Hz.out
      rw [e] at h3 h4
      simp only [beq_iff_eq]
      constructor
      · intro h5; exact ⟨h3, by omega, by omega⟩
      · intro h5; have := h5.2.2; omega
end Go.Proofs.Ytbboakdfnjjddaa
