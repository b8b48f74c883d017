/- Words for memory that all walks share: a slice that reads as a list of cells, kept over what a call may do. No program is named here. -/
import Derived.Below
import Derived.WalkKit
import Derived.Laws.OwnMore
import Derived.Deep.Draws
import Derived.Deep.QuietTactic
import Derived.BigQuiet
import Derived.Laws.AppendOwn
import Derived.OwnWalk
import Derived.Deep.LoopGhost
import Derived.Deep.RegionHeld3
namespace Go.RowKit
theorem Below.drewN {B : Nat} {a w : World} (h : Below B a w) (n : Nat) : Below B a (w.drewN n) := ⟨h.os, h.tape, h.output, h.size, h.block⟩
end Go.RowKit
namespace Go.Proofs.Ytjphfbapekdjmaa
open Go.RowKit
set_option linter.unusedVariables false
set_option linter.unusedSimpArgs false
set_option maxRecDepth 100000

/-- A fact put out of the walk's sight. -/
theorem veil {p : Prop} (h : p) : Hid p := h

/-- The cells from address A on are xs, and they lie below block B. -/
def Seen (w : World) (B : Nat) (A : Option Addr) (xs : List Value) : Prop :=
  xs = [] ∨ ∃ g o, A = some ⟨g, o, none⟩ ∧ g < B ∧ ∀ j u, xs[j]? = some u → w.cell? ⟨g, o + j, none⟩ = some u

theorem Seen.nil (w : World) (B : Nat) (A : Option Addr) : Seen w B A [] := .inl rfl

theorem Seen.of (w w' : World) {B : Nat} {A : Option Addr} {xs : List Value} (h : Seen w B A xs) (hk : ∀ p : Addr, p.block < B → w'.cell? p = w.cell? p) : Seen w' B A xs := by
  rcases h with h | ⟨g, o, e, hg, hc⟩
  · exact .inl h
  · exact .inr ⟨g, o, e, hg, fun j u hu => (hk _ hg).trans (hc j u hu)⟩

theorem Seen.below {w w' : World} {B C : Nat} {A : Option Addr} {xs : List Value} (h : Seen w B A xs) (hb : Below C w w') (hBC : B ≤ C) : Seen w' B A xs :=
  h.of w w' fun _ hp => hb.cell (Nat.lt_of_lt_of_le hp hBC)

theorem Seen.up {w : World} {B B' : Nat} {A : Option Addr} {xs : List Value} (h : Seen w B A xs) (hB : B ≤ B') : Seen w B' A xs := by
  rcases h with h | ⟨g, o, e, hg, hc⟩
  · exact .inl h
  · exact .inr ⟨g, o, e, Nat.lt_of_lt_of_le hg hB, hc⟩

theorem Seen.at {w : World} {B : Nat} {A : Option Addr} {xs : List Value} (h : Seen w B A xs) (hne : 0 < xs.length) :
    ∃ g o, A = some ⟨g, o, none⟩ ∧ g < B ∧ ∀ j u, xs[j]? = some u → w.cell? ⟨g, o + j, none⟩ = some u := by
  rcases h with h | h
  · subst h; simp at hne
  · exact h

/-- Integers in a row. -/
def ints (k : IntKind) (xs : List Int) : List Value := xs.map (Value.int k)
theorem ints_length (k : IntKind) (xs : List Int) : (ints k xs).length = xs.length := by simp [ints]
theorem ints_at {k : IntKind} {xs : List Int} {j : Nat} {x : Int} (h : xs[j]? = some x) : (ints k xs)[j]? = some (.int k x) := by
  simp [ints, h]
theorem some_at {α : Type} {xs : List α} {j : Nat} (h : j < xs.length) : ∃ x, xs[j]? = some x := ⟨xs[j], List.getElem?_eq_getElem h⟩
theorem take_snoc {α : Type} {xs : List α} {k : Nat} {x : α} (h : xs[k]? = some x) : xs.take (k + 1) = xs.take k ++ [x] := by
  rw [List.take_add_one, h]; rfl
/-- One number of a row that came in, with its cell. -/
theorem Seen.int {w : World} {B : Nat} {A : Option Addr} {kd : IntKind} {xs : List Int} (h : Seen w B A (ints kd xs)) {k : Nat} (hk : k < xs.length) :
    ∃ g o x, A = some ⟨g, o, none⟩ ∧ g < B ∧ xs[k]? = some x ∧ w.cell? ⟨g, o + k, none⟩ = some (.int kd x) := by
  obtain ⟨g, o, e, hg, hc⟩ := h.at (by rw [ints_length]; omega)
  obtain ⟨x, hx⟩ := some_at hk
  exact ⟨g, o, x, e, hg, hx, hc k _ (ints_at hx)⟩
/-- Fields of two integers in a row. -/
def pairCells (l : List (Int × Int)) : List Value := l.flatMap fun f => [.int .i64 f.1, .int .i64 f.2]
theorem pairCells_length (l : List (Int × Int)) : (pairCells l).length = 2 * l.length := by
  induction l with
  | nil => rfl
  | cons f l ih => simp [pairCells] at ih ⊢; omega
theorem pairCells_at (l : List (Int × Int)) (j : Nat) (f : Int × Int) (h : l[j / 2]? = some f) : (pairCells l)[j]? = some (if j % 2 = 0 then .int .i64 f.1 else .int .i64 f.2) := by
  induction l generalizing j with
  | nil => simp at h
  | cons g l ih =>
    match j with
    | 0 => simp at h; subst h; simp [pairCells]
    | 1 => simp at h; subst h; simp [pairCells]
    | j + 2 =>
      have h2 : (j + 2) / 2 = j / 2 + 1 := by omega
      rw [h2, List.getElem?_cons_succ] at h
      have := ih j h
      have e : (pairCells (g :: l))[j + 2]? = (pairCells l)[j]? := by simp [pairCells]
      rw [e, this]
      have h3 : (j + 2) % 2 = j % 2 := by omega
      rw [h3]

/-- One field of a row that came in, with its two cells. -/
theorem Seen.pair {w : World} {B : Nat} {A : Option Addr} {l : List (Int × Int)} (h : Seen w B A (pairCells l)) {k : Nat} (hk : k < l.length) :
    ∃ g o x y, A = some ⟨g, o, none⟩ ∧ g < B ∧ l[k]? = some (x, y) ∧ w.cell? ⟨g, o + k * 2, none⟩ = some (.int .i64 x) ∧ w.cell? ⟨g, o + k * 2 + 1, none⟩ = some (.int .i64 y) := by
  obtain ⟨g, o, e, hg, hc⟩ := h.at (by rw [pairCells_length]; omega)
  obtain ⟨⟨x, y⟩, hx⟩ := some_at hk
  have h1 := pairCells_at l (k * 2) (x, y) (by rw [Nat.mul_div_cancel _ (by omega)]; exact hx)
  have h2 := pairCells_at l (k * 2 + 1) (x, y) (by rw [show (k * 2 + 1) / 2 = k by omega]; exact hx)
  rw [if_pos (by omega)] at h1
  rw [if_neg (by omega)] at h2
  exact ⟨g, o, x, y, e, hg, hx, hc _ _ h1, hc _ _ h2⟩

/-- A block that was just laid. -/
theorem Seen.new (w : World) (xs : List Value) (t : TypeId) (B : Nat) (hB : w.heap.size < B) : Seen (w.alloc (.cells xs.toArray t)) B (some ⟨w.heap.size, 0, none⟩) xs := by
  refine .inr ⟨_, _, rfl, hB, fun j u hu => ?_⟩
  rw [World.cell?_alloc_at _ _ _ _ rfl]
  simpa using hu
theorem Seen.alloc {w : World} {B : Nat} {A : Option Addr} {xs : List Value} (h : Seen w B A xs) (hB : B ≤ w.heap.size) (o : Obj) : Seen (w.alloc o) B A xs :=
  h.of w _ fun p hp => World.cell?_alloc_lt w o p (Nat.lt_of_lt_of_le hp hB)
theorem below1 (w : World) (a : Obj) : Below w.heap.size w (w.alloc a) := (Below.refl _ _).alloc (Nat.le_refl _) a
theorem below2 (w : World) (a b : Obj) : Below w.heap.size w ((w.alloc a).alloc b) := (below1 w a).alloc (by simp) b
theorem below3 (w : World) (a b c : Obj) : Below w.heap.size w (((w.alloc a).alloc b).alloc c) := (below2 w a b).alloc (by simp; omega) c
theorem ints_snoc (k : IntKind) (xs : List Int) (y : Int) : ints k (xs ++ [y]) = ints k xs ++ [.int k y] := by simp [ints]
/-- append of one number, just laid, onto a row of the call's own. -/
theorem wpList_app1 {P : Program} {ops : Array Oper} {rest : List Oper} {o : Oper} {a : Act} {Q : Exit → Act → World → Prop} (w0 : World) (hgd : o.guard = none) (s x : Operand) (t : TypeId)
    (ho : o.op = .call { callee := .builtin .append, args := #[s, x], argTypes := #[t, t] })
    (B : Nat) (e : TypeId) (k : IntKind) (bytes : Nat) (ht : P.underlying t = some (.slice e)) (hinfo : (P.info? e).map (fun i => (i.zero, i.size, i.bytes)) = some (some (.int k 0), 1, bytes))
    (v : Value) (xs : List Int) (y : Int) (hs : a.eval s = v) (hown : w0.ownsRow B e 1 v xs.length (ints k xs)) (hx : a.eval x = .slice (some ⟨w0.heap.size, 0, none⟩) 1 1)
    (hlen : xs.length + 1 ≤ 1099511627776) (hby : bytes ≤ 128) (hB : B ≤ w0.heap.size)
    (h : ∀ v' w', w'.ownsRow B e 1 v' (xs ++ [y]).length (ints k (xs ++ [y])) → Below B w0 w' → w0.heap.size < w'.heap.size → wpList P ops Q rest (a.put o.dst v') w') :
    wpList P ops Q (o :: rest) a (w0.alloc (.cells #[.int k y] e)) := by
  obtain ⟨i, hi, hz0, hz1, hz2⟩ := info_parts hinfo
  refine wpList_append_own _ hgd s x t ho B e i _ 1 bytes ht hi hz0 hz1 hz2 rfl (by omega) v xs.length (ints k xs) hs (hown.alloc _) ⟨w0.heap.size, 0, none⟩ 1 1 [.int k y] hx rfl ?_ ?_ ?_ ?_ ?_ ?_
  · intro j u hj
    match j with
    | 0 => simp at hj; subst hj; simp [Addr.add]
    | j + 1 => simp at hj
  · intro u hu; simp at hu; subst hu; rfl
  · unfold maxLen; omega
  · have : (xs.length + 1) * bytes ≤ 1099511627776 * 128 := Nat.mul_le_mul hlen hby
    omega
  · simp; omega
  · intro v' w' h1 h2 _
    refine h v' w' ?_ ?_ ?_
    · rw [List.length_append, ints_snoc]; exact h1
    · exact ((Below.refl _ _).alloc hB _).grown h2 (by simp; omega) (fun k hk => (hown.lt k hk).1)
    · have := h2.size; simp at this; omega
theorem pairCells_snoc (l : List (Int × Int)) (f : Int × Int) : pairCells (l ++ [f]) = pairCells l ++ [.int .i64 f.1, .int .i64 f.2] := by simp [pairCells]
/-- append of one field, just laid, onto a row of the call's own. -/
theorem wpList_app2 {P : Program} {ops : Array Oper} {rest : List Oper} {o : Oper} {a : Act} {Q : Exit → Act → World → Prop} (w0 : World) (hgd : o.guard = none) (s x : Operand) (t : TypeId)
    (ho : o.op = .call { callee := .builtin .append, args := #[s, x], argTypes := #[t, t] })
    (B : Nat) (e : TypeId) (ht : P.underlying t = some (.slice e)) (hinfo : (P.info? e).map (fun i => (i.zero, i.size, i.bytes)) = some (some (.agg #[.int .i64 0, .int .i64 0]), 2, 16))
    (v : Value) (l : List (Int × Int)) (y z : Int) (hs : a.eval s = v) (hown : w0.ownsRow B e 2 v l.length (pairCells l)) (hx : a.eval x = .slice (some ⟨w0.heap.size, 0, none⟩) 1 1)
    (hlen : l.length + 1 ≤ 1099511627776) (hB : B ≤ w0.heap.size)
    (h : ∀ v' w', w'.ownsRow B e 2 v' (l ++ [(y, z)]).length (pairCells (l ++ [(y, z)])) → Below B w0 w' → w0.heap.size < w'.heap.size → wpList P ops Q rest (a.put o.dst v') w') :
    wpList P ops Q (o :: rest) a (w0.alloc (.cells #[.int .i64 y, .int .i64 z] e)) := by
  obtain ⟨i, hi, hz0, hz1, hz2⟩ := info_parts hinfo
  refine wpList_append_own _ hgd s x t ho B e i _ 2 16 ht hi hz0 hz1 hz2 rfl (by omega) v l.length (pairCells l) hs (hown.alloc _) ⟨w0.heap.size, 0, none⟩ 1 1 [.int .i64 y, .int .i64 z] hx rfl ?_ ?_ ?_ ?_ ?_ ?_
  · intro j u hj
    match j with
    | 0 => simp at hj; subst hj; simp [Addr.add]
    | 1 => simp at hj; subst hj; simp [Addr.add]
    | j + 2 => simp at hj
  · intro u hu; simp at hu; rcases hu with rfl | rfl <;> rfl
  · unfold maxLen; omega
  · omega
  · simp; omega
  · intro v' w' h1 h2 _
    refine h v' w' ?_ ?_ ?_
    · rw [List.length_append, pairCells_snoc]; exact h1
    · exact ((Below.refl _ _).alloc hB _).grown h2 (by simp; omega) (fun k hk => (hown.lt k hk).1)
    · have := h2.size; simp at this; omega
theorem addr_add (g o j : Nat) : (⟨g, o, none⟩ : Addr).add j = ⟨g, o + j, none⟩ := by
  unfold Addr.add; split
  · rename_i e; subst e; rfl
  · rfl
theorem pairCells_append (a b : List (Int × Int)) : pairCells (a ++ b) = pairCells a ++ pairCells b := by simp [pairCells]
theorem pairCells_one {l : List (Int × Int)} : ∀ u ∈ pairCells l, u.oneCell' = true := by
  intro u hu
  simp only [pairCells, List.mem_flatMap] at hu
  obtain ⟨f, _, hu⟩ := hu
  simp at hu
  rcases hu with rfl | rfl <;> rfl
theorem ints_one {k : IntKind} {l : List Int} : ∀ u ∈ ints k l, u.oneCell' = true := by
  intro u hu
  simp only [ints, List.mem_map] at hu
  obtain ⟨f, _, rfl⟩ := hu
  rfl
/-- Its first cells. -/
theorem Seen.firsts {w : World} {B : Nat} {A : Option Addr} {xs ys : List Value} (h : Seen w B A (xs ++ ys)) : Seen w B A xs := by
  rcases h with h | ⟨g, o, e, hg, hc⟩
  · exact .inl (List.append_eq_nil_iff.1 h).1
  · refine .inr ⟨g, o, e, hg, fun j u hu => hc j u ?_⟩
    rw [List.getElem?_append_left (List.getElem?_eq_some_iff.1 hu).1]; exact hu
/-- Its last cells. -/
theorem Seen.lasts {w : World} {B g o : Nat} {xs ys : List Value} (h : Seen w B (some ⟨g, o, none⟩) (xs ++ ys)) : Seen w B (some ⟨g, o + xs.length, none⟩) ys := by
  rcases h with h | ⟨g', o', e, hg, hc⟩
  · exact .inl (List.append_eq_nil_iff.1 h).2
  · injection e with e
    injection e with e1 e2
    subst e1 e2
    refine .inr ⟨_, _, rfl, hg, fun j u hu => ?_⟩
    have := hc (xs.length + j) u (by rw [List.getElem?_append_right (by omega)]; simpa using hu)
    rw [← this, Nat.add_assoc]
theorem Seen.takePairs {w : World} {B : Nat} {A : Option Addr} {l : List (Int × Int)} (h : Seen w B A (pairCells l)) (k : Nat) : Seen w B A (pairCells (l.take k)) := by
  rw [← List.take_append_drop k l, pairCells_append] at h
  exact h.firsts
theorem Seen.dropPairs {w : World} {B g o : Nat} {l : List (Int × Int)} (h : Seen w B (some ⟨g, o, none⟩) (pairCells l)) (k : Nat) (hk : k ≤ l.length) : Seen w B (some ⟨g, o + k * 2, none⟩) (pairCells (l.drop k)) := by
  rw [← List.take_append_drop k l, pairCells_append] at h
  have := h.lasts
  rw [pairCells_length, List.length_take, Nat.min_eq_left hk, Nat.mul_comm] at this
  exact this
theorem below_of_drew {B : Nat} {W w' : World} (h : Below B W.drew w') : Below B W w' := ⟨h.os, h.tape, h.output, h.size, h.block⟩
theorem below_wx {B : Nat} {W w1 w2 : World} {o : Obj} (h1 : Below B W.drew w1) (h2 : Below B (w1.alloc o) w2) (hB : B ≤ W.heap.size) : Below B W w2 :=
  below_of_drew ((h1.alloc (Nat.le_trans hB h1.size) o).trans h2)
theorem below_wy {B : Nat} {W w1 w2 : World} {o : Obj} (h1 : Below B (W.drew.alloc o) w1) (h2 : Below B w1 w2) (hB : B ≤ W.heap.size) : Below B W w2 :=
  below_of_drew ((((Below.refl B W.drew).alloc hB o).trans h1).trans h2)
theorem size_new (W : World) (o : Obj) : W.heap.size < (W.alloc o).heap.size := by simp
theorem size_after {W w' : World} {o : Obj} {B : Nat} (h : Below B (W.drew.alloc o) w') : W.heap.size ≤ w'.heap.size := by
  have := h.size; simp at this; omega
theorem size_alloc {W w' : World} {o : Obj} {B : Nat} (h : Below B W.drew w') : W.heap.size ≤ (w'.alloc o).heap.size := by
  have := h.size; simp at this ⊢; omega
theorem seen_after {W w' : World} {xs : List Value} {t : TypeId} (h : (W.drew.alloc (.cells xs.toArray t)).grownBy w' (Value.slice none 0 0).ownBlock) : Seen w' (W.heap.size + 1 + w'.heap.size) (some ⟨W.heap.size, 0, none⟩) xs :=
  ((Seen.new W.drew xs t (W.heap.size + 1) (Nat.lt_succ_self _)).below ((Below.refl (W.heap.size + 1) _).grown h (by simp) (by intro k hk; cases hk)) (Nat.le_refl _)).up (by omega)
/-- What an append is about: the element's type and sizes. -/
structure ElemOf (P : Program) (t e : TypeId) (size bytes : Nat) : Prop where
  ht : P.underlying t = some (.slice e)
  pos : 0 < size
  hi : ∃ i z, P.info? e = some i ∧ i.zero = some z ∧ i.size = size ∧ i.bytes = bytes ∧ z.cells.size = size
theorem ElemOf.mk' {P : Program} {t e : TypeId} {size bytes : Nat} {z : Value} (ht : P.underlying t = some (.slice e)) (hinfo : (P.info? e).map (fun i => (i.zero, i.size, i.bytes)) = some (some z, size, bytes)) (hz : z.cells.size = size) (hp : 0 < size) : ElemOf P t e size bytes := by
  obtain ⟨i, hi, h0, h1, h2⟩ := info_parts hinfo
  exact ⟨ht, hp, i, z, hi, h0, h1, h2, hz⟩
/-- append of a row that is seen, nil or not, onto a row of the call's own. -/
theorem run_appV {P : Program} (w : World) (B : Nat) (t ty e : TypeId) (size bytes : Nat) (he : ElemOf P t e size bytes)
    (v : Value) (n : Nat) (xs : List Value) (hown : w.ownsRow B e size v n xs) (G : Nat) (A : Option Addr) (m c : Nat) (news : List Value) (hsee : Seen w G A news) (hl : news.length = m * size) (h1 : ∀ u ∈ news, u.oneCell' = true)
    (h63 : n + m ≤ maxLen) (hbytes : (n + m) * bytes ≤ 140737488355328) (hB : B ≤ w.heap.size) :
    ∃ v' w', (Builtin.append_ #[t, t] ty #[v, .slice A m c]).run P w = .ok v' w' ∧ w'.ownsRow B e size v' (n + m) (xs ++ news) ∧ w.grownBy w' v.ownBlock := by
  obtain ⟨ht, hp, i, z, hi, hz0, hz1, hz2, hzs⟩ := he
  rcases A with _ | ad
  · have hnews : news = [] := by
      rcases hsee with h | ⟨g, o, h, _⟩
      · exact h
      · cases h
    subst hnews
    have hm : m = 0 := by
      rcases Nat.eq_zero_or_pos m with h | h
      · exact h
      · have : 0 < m * size := Nat.mul_pos h hp
        simp at hl; omega
    subst hm
    refine ⟨v, w, ?_, by simpa using hown, World.grownBy.refl w _⟩
    rcases hown.2 with ⟨rfl, rfl⟩ | ⟨g, cap, cur, rfl, _, _, hnc, _⟩
    · simp [Builtin.append_, run_underlying ht, sizeOf, typeInfo, hi, Builtin.lenOf, Builtin.firstCells]
    · simp [Builtin.append_, run_underlying ht, sizeOf, typeInfo, hi, Builtin.lenOf, Builtin.firstCells, hnc, storeCells]
  · have hc : ∀ j u, news[j]? = some u → w.cell? (ad.add j) = some u := by
      rcases hsee with h | ⟨g, o, h, _, hc⟩
      · subst h; intro j u hu; simp at hu
      · injection h with h
        subst h
        intro j u hu
        rw [addr_add]
        exact hc j u hu
    obtain ⟨v', w', hr, h2, h3, _⟩ := run_append_own (P := P) w B t ty e i z size bytes ht hi hz0 hz1 hz2 hzs hp v n xs hown ad m c news hl hc h1 h63 hbytes hB
    exact ⟨v', w', hr, h2, h3⟩
theorem wp_appV {P : Program} {o : Oper} {a : Act} {K : Act → World → Prop} {Q : Exit → Act → World → Prop} (w : World) (s x : Operand) (t : TypeId)
    (ho : o.op = .call { callee := .builtin .append, args := #[s, x], argTypes := #[t, t] })
    (B : Nat) (e : TypeId) (size bytes : Nat) (he : ElemOf P t e size bytes)
    (v : Value) (n : Nat) (xs : List Value) (hs : a.eval s = v) (hown : w.ownsRow B e size v n xs) (G : Nat) (A : Option Addr) (m c : Nat) (news : List Value) (hx : a.eval x = .slice A m c) (hsee : Seen w G A news) (hl : news.length = m * size) (h1 : ∀ u ∈ news, u.oneCell' = true)
    (h63 : n + m ≤ maxLen) (hbytes : (n + m) * bytes ≤ 140737488355328) (hB : B ≤ w.heap.size)
    (h : ∀ v' w', w'.ownsRow B e size v' (n + m) (xs ++ news) → w.grownBy w' v.ownBlock → K (a.put o.dst v') w') : o.wp P a w K Q := by
  obtain ⟨v', w', hr, h2, h3⟩ := run_appV (P := P) w B t o.type e size bytes he v n xs hown G A m c news hsee hl h1 h63 hbytes hB
  unfold Oper.wp execOp
  simp only [ho, resolve, invoke, builtin, Sem.run_bind, Sem.run_pure, Result.andThen_ok, List.map_toArray, List.map_cons, List.map_nil, hs, hx, hr]
  exact h v' w' h2 h3
theorem wpList_appV {P : Program} {ops : Array Oper} {rest : List Oper} {o : Oper} {a : Act} {Q : Exit → Act → World → Prop} (w : World) (hgd : o.guard = none) (s x : Operand) (t : TypeId)
    (ho : o.op = .call { callee := .builtin .append, args := #[s, x], argTypes := #[t, t] })
    (B : Nat) (e : TypeId) (size bytes : Nat) (he : ElemOf P t e size bytes)
    (v : Value) (n : Nat) (xs : List Value) (hs : a.eval s = v) (hown : w.ownsRow B e size v n xs) (G : Nat) (A : Option Addr) (m c : Nat) (news : List Value) (hx : a.eval x = .slice A m c) (hsee : Seen w G A news) (hl : news.length = m * size) (h1 : ∀ u ∈ news, u.oneCell' = true)
    (h63 : n + m ≤ maxLen) (hbytes : (n + m) * bytes ≤ 140737488355328) (hB : B ≤ w.heap.size)
    (h : ∀ v' w', w'.ownsRow B e size v' (n + m) (xs ++ news) → Below B w w' → wpList P ops Q rest (a.put o.dst v') w') : wpList P ops Q (o :: rest) a w :=
  wpList_plain hgd fun _ hK => wp_appV w s x t ho B e size bytes he v n xs hs hown G A m c news hx hsee hl h1 h63 hbytes hB fun v' w' h2 h3 => hK _ _ (h v' w' h2 ((Below.refl _ _).grown h3 hB fun k hk => (hown.lt k hk).1))
theorem step_appV {P : Program} {ops : Array Oper} {o : Oper} {a : Act} {K : Act → World → Prop} {Q : Exit → Act → World → Prop} {E : Prop} (w : World) (hgd : o.guard = none) (s x : Operand) (t : TypeId)
    (ho : o.op = .call { callee := .builtin .append, args := #[s, x], argTypes := #[t, t] })
    (B : Nat) (e : TypeId) (size bytes : Nat) (he : ElemOf P t e size bytes)
    (v : Value) (n : Nat) (xs : List Value) (hs : a.eval s = v) (hown : w.ownsRow B e size v n xs) (G : Nat) (A : Option Addr) (m c : Nat) (news : List Value) (hx : a.eval x = .slice A m c) (hsee : Seen w G A news) (hl : news.length = m * size) (h1 : ∀ u ∈ news, u.oneCell' = true)
    (h63 : n + m ≤ maxLen) (hbytes : (n + m) * bytes ≤ 140737488355328) (hB : B ≤ w.heap.size)
    (h : ∀ v' w', w'.ownsRow B e size v' (n + m) (xs ++ news) → w.grownBy w' v.ownBlock → Below B w w' → K (a.put o.dst v') w') :
    if Region.wanted o (yielded ops a.tmps) = true then Oper.wp P o a w K Q else E := by
  have hw : Region.wanted o (yielded ops a.tmps) = true := by simp [Region.wanted, hgd]
  rw [if_pos hw]
  exact wp_appV w s x t ho B e size bytes he v n xs hs hown G A m c news hx hsee hl h1 h63 hbytes hB fun v' w' h2 h3 => h v' w' h2 h3 ((Below.refl _ _).grown h3 hB fun k hk => (hown.lt k hk).1)
/-- What the call owns stays its own over what leaves all blocks so far alone. -/
theorem own_below {w w' : World} {B : Nat} {e : TypeId} {size : Nat} {v : Value} {n : Nat} {xs : List Value} (h : w.ownsRow B e size v n xs) (hb : Below w.heap.size w w') : w'.ownsRow B e size v n xs := by
  obtain ⟨h1, h2⟩ := h
  refine ⟨h1, ?_⟩
  rcases h2 with h2 | ⟨g, cap, cur, hv, hg, hh, r⟩
  · exact .inl h2
  · have hlt : g < w.heap.size := by
      rcases Nat.lt_or_ge g w.heap.size with hl | hl
      · exact hl
      · rw [Array.getElem?_eq_none hl] at hh; cases hh
    exact .inr ⟨g, cap, cur, hv, hg, by rw [hb.block g hlt]; exact hh, r⟩
theorem own_base {w : World} {B B' : Nat} {e : TypeId} {size : Nat} {v : Value} {n : Nat} {xs : List Value} (h : w.ownsRow B e size v n xs) (hB : B' ≤ B) : w.ownsRow B' e size v n xs := by
  obtain ⟨h1, h2⟩ := h
  refine ⟨h1, ?_⟩
  rcases h2 with h2 | ⟨g, cap, cur, hv, hg, r⟩
  · exact .inl h2
  · exact .inr ⟨g, cap, cur, hv, Nat.le_trans hB hg, r⟩
theorem own_form' {w : World} {B : Nat} {e : TypeId} {size : Nat} {v : Value} {n : Nat} {xs : List Value} (h : w.ownsRow B e size v n xs) : ∃ A c, v = .slice A n c ∧ Seen w w.heap.size A xs ∧ n ≤ c ∧ c ≤ maxLen := by
  obtain ⟨h1, h2⟩ := h
  rcases h2 with ⟨rfl, rfl⟩ | ⟨g, cap, cur, rfl, hg, hh, hn, hc, hs, ht⟩
  · exact ⟨none, 0, rfl, .inl (by simpa using h1), Nat.le_refl _, Nat.zero_le _⟩
  · refine ⟨_, _, rfl, .inr ⟨g, 0, rfl, ?_, fun j u hu => ?_⟩, hn, hc⟩
    · rcases Nat.lt_or_ge g w.heap.size with hl | hl
      · exact hl
      · rw [Array.getElem?_eq_none hl] at hh; cases hh
    · have hj : j < n * size := by have := (List.getElem?_eq_some_iff.1 hu).1; omega
      rw [← ht, List.getElem?_take, if_pos hj] at hu
      simp [World.cell?, hh]
      simpa using hu
theorem own_form {w : World} {B : Nat} {e : TypeId} {size : Nat} {v : Value} {n : Nat} {xs : List Value} (h : w.ownsRow B e size v n xs) : ∃ A c, v = .slice A n c ∧ Seen w w.heap.size A xs := by
  obtain ⟨A, c, e, hs, _⟩ := own_form' h
  exact ⟨A, c, e, hs⟩
theorem Seen.takeInts {w : World} {B : Nat} {A : Option Addr} {k : IntKind} {l : List Int} (h : Seen w B A (ints k l)) (n : Nat) : Seen w B A (ints k (l.take n)) := by
  have e : ints k l = ints k (l.take n) ++ ints k (l.drop n) := by simp only [ints, ← List.map_append, List.take_append_drop]
  rw [e] at h
  exact h.firsts
theorem ret_two {a a' b b' : Value} (h : a = a') (k : b = b') : Ending.returned (.tuple #[a, b]) = .returned (.tuple #[a', b']) := by rw [h, k]
theorem ret_three {a a' b b' c c' : Value} (h : a = a') (k : b = b') (m : c = c') : Ending.returned (.tuple #[a, b, c]) = .returned (.tuple #[a', b', c']) := by rw [h, k, m]
theorem ret_bool {a b : Bool} (h : a = b) : Ending.returned (.bool a) = .returned (.bool b) := by rw [h]
end Go.Proofs.Ytjphfbapekdjmaa
