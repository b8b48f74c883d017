/- Texts shared by the claims of this seat, in one. -/
import Derived.Below
import Derived.WalkKit
import Derived.Laws.OwnMore
import Derived.Deep.Draws
import Derived.Deep.QuietTactic
import Derived.BigQuiet
import Derived.Laws.AppendOwn
import Derived.OwnWalk
import Derived.Deep.LoopGhost
import Derived.Deep.RegionHeld3
/- Words for memory that all walks share: a slice that reads as a list of cells, kept over what a call may do. No program is named here. -/
namespace Go.RowKit
theorem Below.drewN {B : Nat} {a w : World} (h : Below B a w) (n : Nat) : Below B a (w.drewN n) := ⟨h.os, h.tape, h.output, h.size, h.block⟩
end Go.RowKit
namespace Go.Proofs.Ytbboakdfnjjddaa
open Go.RowKit
set_option linter.unusedVariables false
set_option linter.unusedSimpArgs false
set_option maxRecDepth 100000

/-- A fact put out of the walk's sight. -/
theorem veil {p : Prop} (h : p) : Hid p := h

/-- The cells from address A on are xs, and they lie below block B. -/
def Seen (w : World) (B : Nat) (A : Option Addr) (xs : List Value) : Prop :=
  xs = [] ∨ ∃ g o, A = some ⟨g, o, none⟩ ∧ g < B ∧ ∀ j u, xs[j]? = some u → w.cell? ⟨g, o + j, none⟩ = some u

theorem Seen.nil (w : World) (B : Nat) (A : Option Addr) : Seen w B A [] := .inl rfl

theorem Seen.of (w w' : World) {B : Nat} {A : Option Addr} {xs : List Value} (h : Seen w B A xs) (hk : ∀ p : Addr, p.block < B → w'.cell? p = w.cell? p) : Seen w' B A xs := by
  rcases h with h | ⟨g, o, e, hg, hc⟩
  · exact .inl h
  · exact .inr ⟨g, o, e, hg, fun j u hu => (hk _ hg).trans (hc j u hu)⟩

theorem Seen.below {w w' : World} {B C : Nat} {A : Option Addr} {xs : List Value} (h : Seen w B A xs) (hb : Below C w w') (hBC : B ≤ C) : Seen w' B A xs :=
  h.of w w' fun _ hp => hb.cell (Nat.lt_of_lt_of_le hp hBC)

theorem Seen.up {w : World} {B B' : Nat} {A : Option Addr} {xs : List Value} (h : Seen w B A xs) (hB : B ≤ B') : Seen w B' A xs := by
  rcases h with h | ⟨g, o, e, hg, hc⟩
  · exact .inl h
  · exact .inr ⟨g, o, e, Nat.lt_of_lt_of_le hg hB, hc⟩

theorem Seen.at {w : World} {B : Nat} {A : Option Addr} {xs : List Value} (h : Seen w B A xs) (hne : 0 < xs.length) :
    ∃ g o, A = some ⟨g, o, none⟩ ∧ g < B ∧ ∀ j u, xs[j]? = some u → w.cell? ⟨g, o + j, none⟩ = some u := by
  rcases h with h | h
  · subst h; simp at hne
  · exact h

/-- Integers in a row. -/
def ints (k : IntKind) (xs : List Int) : List Value := xs.map (Value.int k)
theorem ints_length (k : IntKind) (xs : List Int) : (ints k xs).length = xs.length := by simp [ints]
theorem ints_at {k : IntKind} {xs : List Int} {j : Nat} {x : Int} (h : xs[j]? = some x) : (ints k xs)[j]? = some (.int k x) := by
  simp [ints, h]
theorem some_at {α : Type} {xs : List α} {j : Nat} (h : j < xs.length) : ∃ x, xs[j]? = some x := ⟨xs[j], List.getElem?_eq_getElem h⟩
theorem take_snoc {α : Type} {xs : List α} {k : Nat} {x : α} (h : xs[k]? = some x) : xs.take (k + 1) = xs.take k ++ [x] := by
  rw [List.take_add_one, h]; rfl
/-- One number of a row that came in, with its cell. -/
theorem Seen.int {w : World} {B : Nat} {A : Option Addr} {kd : IntKind} {xs : List Int} (h : Seen w B A (ints kd xs)) {k : Nat} (hk : k < xs.length) :
    ∃ g o x, A = some ⟨g, o, none⟩ ∧ g < B ∧ xs[k]? = some x ∧ w.cell? ⟨g, o + k, none⟩ = some (.int kd x) := by
  obtain ⟨g, o, e, hg, hc⟩ := h.at (by rw [ints_length]; omega)
  obtain ⟨x, hx⟩ := some_at hk
  exact ⟨g, o, x, e, hg, hx, hc k _ (ints_at hx)⟩
/-- Fields of two integers in a row. -/
def pairCells (l : List (Int × Int)) : List Value := l.flatMap fun f => [.int .i64 f.1, .int .i64 f.2]
theorem pairCells_length (l : List (Int × Int)) : (pairCells l).length = 2 * l.length := by
  induction l with
  | nil => rfl
  | cons f l ih => simp [pairCells] at ih ⊢; omega
theorem pairCells_at (l : List (Int × Int)) (j : Nat) (f : Int × Int) (h : l[j / 2]? = some f) : (pairCells l)[j]? = some (if j % 2 = 0 then .int .i64 f.1 else .int .i64 f.2) := by
  induction l generalizing j with
  | nil => simp at h
  | cons g l ih =>
    match j with
    | 0 => simp at h; subst h; simp [pairCells]
    | 1 => simp at h; subst h; simp [pairCells]
    | j + 2 =>
      have h2 : (j + 2) / 2 = j / 2 + 1 := by omega
      rw [h2, List.getElem?_cons_succ] at h
      have := ih j h
      have e : (pairCells (g :: l))[j + 2]? = (pairCells l)[j]? := by simp [pairCells]
      rw [e, this]
      have h3 : (j + 2) % 2 = j % 2 := by omega
      rw [h3]

/-- One field of a row that came in, with its two cells. -/
theorem Seen.pair {w : World} {B : Nat} {A : Option Addr} {l : List (Int × Int)} (h : Seen w B A (pairCells l)) {k : Nat} (hk : k < l.length) :
    ∃ g o x y, A = some ⟨g, o, none⟩ ∧ g < B ∧ l[k]? = some (x, y) ∧ w.cell? ⟨g, o + k * 2, none⟩ = some (.int .i64 x) ∧ w.cell? ⟨g, o + k * 2 + 1, none⟩ = some (.int .i64 y) := by
  obtain ⟨g, o, e, hg, hc⟩ := h.at (by rw [pairCells_length]; omega)
  obtain ⟨⟨x, y⟩, hx⟩ := some_at hk
  have h1 := pairCells_at l (k * 2) (x, y) (by rw [Nat.mul_div_cancel _ (by omega)]; exact hx)
  have h2 := pairCells_at l (k * 2 + 1) (x, y) (by rw [show (k * 2 + 1) / 2 = k by omega]; exact hx)
  rw [if_pos (by omega)] at h1
  rw [if_neg (by omega)] at h2
  exact ⟨g, o, x, y, e, hg, hx, hc _ _ h1, hc _ _ h2⟩

/-- A block that was just laid. -/
theorem Seen.new (w : World) (xs : List Value) (t : TypeId) (B : Nat) (hB : w.heap.size < B) : Seen (w.alloc (.cells xs.toArray t)) B (some ⟨w.heap.size, 0, none⟩) xs := by
  refine .inr ⟨_, _, rfl, hB, fun j u hu => ?_⟩
  rw [World.cell?_alloc_at _ _ _ _ rfl]
  simpa using hu
theorem Seen.alloc {w : World} {B : Nat} {A : Option Addr} {xs : List Value} (h : Seen w B A xs) (hB : B ≤ w.heap.size) (o : Obj) : Seen (w.alloc o) B A xs :=
  h.of w _ fun p hp => World.cell?_alloc_lt w o p (Nat.lt_of_lt_of_le hp hB)
theorem below1 (w : World) (a : Obj) : Below w.heap.size w (w.alloc a) := (Below.refl _ _).alloc (Nat.le_refl _) a
theorem below2 (w : World) (a b : Obj) : Below w.heap.size w ((w.alloc a).alloc b) := (below1 w a).alloc (by simp) b
theorem below3 (w : World) (a b c : Obj) : Below w.heap.size w (((w.alloc a).alloc b).alloc c) := (below2 w a b).alloc (by simp; omega) c
theorem ints_snoc (k : IntKind) (xs : List Int) (y : Int) : ints k (xs ++ [y]) = ints k xs ++ [.int k y] := by simp [ints]
/-- append of one number, just laid, onto a row of the call's own. -/
theorem wpList_app1 {P : Program} {ops : Array Oper} {rest : List Oper} {o : Oper} {a : Act} {Q : Exit → Act → World → Prop} (w0 : World) (hgd : o.guard = none) (s x : Operand) (t : TypeId)
    (ho : o.op = .call { callee := .builtin .append, args := #[s, x], argTypes := #[t, t] })
    (B : Nat) (e : TypeId) (k : IntKind) (bytes : Nat) (ht : P.underlying t = some (.slice e)) (hinfo : (P.info? e).map (fun i => (i.zero, i.size, i.bytes)) = some (some (.int k 0), 1, bytes))
    (v : Value) (xs : List Int) (y : Int) (hs : a.eval s = v) (hown : w0.ownsRow B e 1 v xs.length (ints k xs)) (hx : a.eval x = .slice (some ⟨w0.heap.size, 0, none⟩) 1 1)
    (hlen : xs.length + 1 ≤ 1099511627776) (hby : bytes ≤ 128) (hB : B ≤ w0.heap.size)
    (h : ∀ v' w', w'.ownsRow B e 1 v' (xs ++ [y]).length (ints k (xs ++ [y])) → Below B w0 w' → w0.heap.size < w'.heap.size → wpList P ops Q rest (a.put o.dst v') w') :
    wpList P ops Q (o :: rest) a (w0.alloc (.cells #[.int k y] e)) := by
  obtain ⟨i, hi, hz0, hz1, hz2⟩ := info_parts hinfo
  refine wpList_append_own _ hgd s x t ho B e i _ 1 bytes ht hi hz0 hz1 hz2 rfl (by omega) v xs.length (ints k xs) hs (hown.alloc _) ⟨w0.heap.size, 0, none⟩ 1 1 [.int k y] hx rfl ?_ ?_ ?_ ?_ ?_ ?_
  · intro j u hj
    match j with
    | 0 => simp at hj; subst hj; simp [Addr.add]
    | j + 1 => simp at hj
  · intro u hu; simp at hu; subst hu; rfl
  · unfold maxLen; omega
  · have : (xs.length + 1) * bytes ≤ 1099511627776 * 128 := Nat.mul_le_mul hlen hby
    omega
  · simp; omega
  · intro v' w' h1 h2 _
    refine h v' w' ?_ ?_ ?_
    · rw [List.length_append, ints_snoc]; exact h1
    · exact ((Below.refl _ _).alloc hB _).grown h2 (by simp; omega) (fun k hk => (hown.lt k hk).1)
    · have := h2.size; simp at this; omega
theorem pairCells_snoc (l : List (Int × Int)) (f : Int × Int) : pairCells (l ++ [f]) = pairCells l ++ [.int .i64 f.1, .int .i64 f.2] := by simp [pairCells]
/-- append of one field, just laid, onto a row of the call's own. -/
theorem wpList_app2 {P : Program} {ops : Array Oper} {rest : List Oper} {o : Oper} {a : Act} {Q : Exit → Act → World → Prop} (w0 : World) (hgd : o.guard = none) (s x : Operand) (t : TypeId)
    (ho : o.op = .call { callee := .builtin .append, args := #[s, x], argTypes := #[t, t] })
    (B : Nat) (e : TypeId) (ht : P.underlying t = some (.slice e)) (hinfo : (P.info? e).map (fun i => (i.zero, i.size, i.bytes)) = some (some (.agg #[.int .i64 0, .int .i64 0]), 2, 16))
    (v : Value) (l : List (Int × Int)) (y z : Int) (hs : a.eval s = v) (hown : w0.ownsRow B e 2 v l.length (pairCells l)) (hx : a.eval x = .slice (some ⟨w0.heap.size, 0, none⟩) 1 1)
    (hlen : l.length + 1 ≤ 1099511627776) (hB : B ≤ w0.heap.size)
    (h : ∀ v' w', w'.ownsRow B e 2 v' (l ++ [(y, z)]).length (pairCells (l ++ [(y, z)])) → Below B w0 w' → w0.heap.size < w'.heap.size → wpList P ops Q rest (a.put o.dst v') w') :
    wpList P ops Q (o :: rest) a (w0.alloc (.cells #[.int .i64 y, .int .i64 z] e)) := by
  obtain ⟨i, hi, hz0, hz1, hz2⟩ := info_parts hinfo
  refine wpList_append_own _ hgd s x t ho B e i _ 2 16 ht hi hz0 hz1 hz2 rfl (by omega) v l.length (pairCells l) hs (hown.alloc _) ⟨w0.heap.size, 0, none⟩ 1 1 [.int .i64 y, .int .i64 z] hx rfl ?_ ?_ ?_ ?_ ?_ ?_
  · intro j u hj
    match j with
    | 0 => simp at hj; subst hj; simp [Addr.add]
    | 1 => simp at hj; subst hj; simp [Addr.add]
    | j + 2 => simp at hj
  · intro u hu; simp at hu; rcases hu with rfl | rfl <;> rfl
  · unfold maxLen; omega
  · omega
  · simp; omega
  · intro v' w' h1 h2 _
    refine h v' w' ?_ ?_ ?_
    · rw [List.length_append, pairCells_snoc]; exact h1
    · exact ((Below.refl _ _).alloc hB _).grown h2 (by simp; omega) (fun k hk => (hown.lt k hk).1)
    · have := h2.size; simp at this; omega
theorem addr_add (g o j : Nat) : (⟨g, o, none⟩ : Addr).add j = ⟨g, o + j, none⟩ := by
  unfold Addr.add; split
  · rename_i e; subst e; rfl
  · rfl
theorem pairCells_append (a b : List (Int × Int)) : pairCells (a ++ b) = pairCells a ++ pairCells b := by simp [pairCells]
theorem pairCells_one {l : List (Int × Int)} : ∀ u ∈ pairCells l, u.oneCell' = true := by
  intro u hu
  simp only [pairCells, List.mem_flatMap] at hu
  obtain ⟨f, _, hu⟩ := hu
  simp at hu
  rcases hu with rfl | rfl <;> rfl
theorem ints_one {k : IntKind} {l : List Int} : ∀ u ∈ ints k l, u.oneCell' = true := by
  intro u hu
  simp only [ints, List.mem_map] at hu
  obtain ⟨f, _, rfl⟩ := hu
  rfl
/-- Its first cells. -/
theorem Seen.firsts {w : World} {B : Nat} {A : Option Addr} {xs ys : List Value} (h : Seen w B A (xs ++ ys)) : Seen w B A xs := by
  rcases h with h | ⟨g, o, e, hg, hc⟩
  · exact .inl (List.append_eq_nil_iff.1 h).1
  · refine .inr ⟨g, o, e, hg, fun j u hu => hc j u ?_⟩
    rw [List.getElem?_append_left (List.getElem?_eq_some_iff.1 hu).1]; exact hu
/-- Its last cells. -/
theorem Seen.lasts {w : World} {B g o : Nat} {xs ys : List Value} (h : Seen w B (some ⟨g, o, none⟩) (xs ++ ys)) : Seen w B (some ⟨g, o + xs.length, none⟩) ys := by
  rcases h with h | ⟨g', o', e, hg, hc⟩
  · exact .inl (List.append_eq_nil_iff.1 h).2
  · injection e with e
    injection e with e1 e2
    subst e1 e2
    refine .inr ⟨_, _, rfl, hg, fun j u hu => ?_⟩
    have := hc (xs.length + j) u (by rw [List.getElem?_append_right (by omega)]; simpa using hu)
    rw [← this, Nat.add_assoc]
theorem Seen.takePairs {w : World} {B : Nat} {A : Option Addr} {l : List (Int × Int)} (h : Seen w B A (pairCells l)) (k : Nat) : Seen w B A (pairCells (l.take k)) := by
  rw [← List.take_append_drop k l, pairCells_append] at h
  exact h.firsts
theorem Seen.dropPairs {w : World} {B g o : Nat} {l : List (Int × Int)} (h : Seen w B (some ⟨g, o, none⟩) (pairCells l)) (k : Nat) (hk : k ≤ l.length) : Seen w B (some ⟨g, o + k * 2, none⟩) (pairCells (l.drop k)) := by
  rw [← List.take_append_drop k l, pairCells_append] at h
  have := h.lasts
  rw [pairCells_length, List.length_take, Nat.min_eq_left hk, Nat.mul_comm] at this
  exact this
theorem below_of_drew {B : Nat} {W w' : World} (h : Below B W.drew w') : Below B W w' := ⟨h.os, h.tape, h.output, h.size, h.block⟩
theorem below_wx {B : Nat} {W w1 w2 : World} {o : Obj} (h1 : Below B W.drew w1) (h2 : Below B (w1.alloc o) w2) (hB : B ≤ W.heap.size) : Below B W w2 :=
  below_of_drew ((h1.alloc (Nat.le_trans hB h1.size) o).trans h2)
theorem below_wy {B : Nat} {W w1 w2 : World} {o : Obj} (h1 : Below B (W.drew.alloc o) w1) (h2 : Below B w1 w2) (hB : B ≤ W.heap.size) : Below B W w2 :=
  below_of_drew ((((Below.refl B W.drew).alloc hB o).trans h1).trans h2)
theorem size_new (W : World) (o : Obj) : W.heap.size < (W.alloc o).heap.size := by simp
theorem size_after {W w' : World} {o : Obj} {B : Nat} (h : Below B (W.drew.alloc o) w') : W.heap.size ≤ w'.heap.size := by
  have := h.size; simp at this; omega
theorem size_alloc {W w' : World} {o : Obj} {B : Nat} (h : Below B W.drew w') : W.heap.size ≤ (w'.alloc o).heap.size := by
  have := h.size; simp at this ⊢; omega
theorem seen_after {W w' : World} {xs : List Value} {t : TypeId} (h : (W.drew.alloc (.cells xs.toArray t)).grownBy w' (Value.slice none 0 0).ownBlock) : Seen w' (W.heap.size + 1 + w'.heap.size) (some ⟨W.heap.size, 0, none⟩) xs :=
  ((Seen.new W.drew xs t (W.heap.size + 1) (Nat.lt_succ_self _)).below ((Below.refl (W.heap.size + 1) _).grown h (by simp) (by intro k hk; cases hk)) (Nat.le_refl _)).up (by omega)
/-- What an append is about: the element's type and sizes. -/
structure ElemOf (P : Program) (t e : TypeId) (size bytes : Nat) : Prop where
  ht : P.underlying t = some (.slice e)
  pos : 0 < size
  hi : ∃ i z, P.info? e = some i ∧ i.zero = some z ∧ i.size = size ∧ i.bytes = bytes ∧ z.cells.size = size
theorem ElemOf.mk' {P : Program} {t e : TypeId} {size bytes : Nat} {z : Value} (ht : P.underlying t = some (.slice e)) (hinfo : (P.info? e).map (fun i => (i.zero, i.size, i.bytes)) = some (some z, size, bytes)) (hz : z.cells.size = size) (hp : 0 < size) : ElemOf P t e size bytes := by
  obtain ⟨i, hi, h0, h1, h2⟩ := info_parts hinfo
  exact ⟨ht, hp, i, z, hi, h0, h1, h2, hz⟩
/-- append of a row that is seen, nil or not, onto a row of the call's own. -/
theorem run_appV {P : Program} (w : World) (B : Nat) (t ty e : TypeId) (size bytes : Nat) (he : ElemOf P t e size bytes)
    (v : Value) (n : Nat) (xs : List Value) (hown : w.ownsRow B e size v n xs) (G : Nat) (A : Option Addr) (m c : Nat) (news : List Value) (hsee : Seen w G A news) (hl : news.length = m * size) (h1 : ∀ u ∈ news, u.oneCell' = true)
    (h63 : n + m ≤ maxLen) (hbytes : (n + m) * bytes ≤ 140737488355328) (hB : B ≤ w.heap.size) :
    ∃ v' w', (Builtin.append_ #[t, t] ty #[v, .slice A m c]).run P w = .ok v' w' ∧ w'.ownsRow B e size v' (n + m) (xs ++ news) ∧ w.grownBy w' v.ownBlock := by
  obtain ⟨ht, hp, i, z, hi, hz0, hz1, hz2, hzs⟩ := he
  rcases A with _ | ad
  · have hnews : news = [] := by
      rcases hsee with h | ⟨g, o, h, _⟩
      · exact h
      · cases h
    subst hnews
    have hm : m = 0 := by
      rcases Nat.eq_zero_or_pos m with h | h
      · exact h
      · have : 0 < m * size := Nat.mul_pos h hp
        simp at hl; omega
    subst hm
    refine ⟨v, w, ?_, by simpa using hown, World.grownBy.refl w _⟩
    rcases hown.2 with ⟨rfl, rfl⟩ | ⟨g, cap, cur, rfl, _, _, hnc, _⟩
    · simp [Builtin.append_, run_underlying ht, sizeOf, typeInfo, hi, Builtin.lenOf, Builtin.firstCells]
    · simp [Builtin.append_, run_underlying ht, sizeOf, typeInfo, hi, Builtin.lenOf, Builtin.firstCells, hnc, storeCells]
  · have hc : ∀ j u, news[j]? = some u → w.cell? (ad.add j) = some u := by
      rcases hsee with h | ⟨g, o, h, _, hc⟩
      · subst h; intro j u hu; simp at hu
      · injection h with h
        subst h
        intro j u hu
        rw [addr_add]
        exact hc j u hu
    obtain ⟨v', w', hr, h2, h3, _⟩ := run_append_own (P := P) w B t ty e i z size bytes ht hi hz0 hz1 hz2 hzs hp v n xs hown ad m c news hl hc h1 h63 hbytes hB
    exact ⟨v', w', hr, h2, h3⟩
theorem wp_appV {P : Program} {o : Oper} {a : Act} {K : Act → World → Prop} {Q : Exit → Act → World → Prop} (w : World) (s x : Operand) (t : TypeId)
    (ho : o.op = .call { callee := .builtin .append, args := #[s, x], argTypes := #[t, t] })
    (B : Nat) (e : TypeId) (size bytes : Nat) (he : ElemOf P t e size bytes)
    (v : Value) (n : Nat) (xs : List Value) (hs : a.eval s = v) (hown : w.ownsRow B e size v n xs) (G : Nat) (A : Option Addr) (m c : Nat) (news : List Value) (hx : a.eval x = .slice A m c) (hsee : Seen w G A news) (hl : news.length = m * size) (h1 : ∀ u ∈ news, u.oneCell' = true)
    (h63 : n + m ≤ maxLen) (hbytes : (n + m) * bytes ≤ 140737488355328) (hB : B ≤ w.heap.size)
    (h : ∀ v' w', w'.ownsRow B e size v' (n + m) (xs ++ news) → w.grownBy w' v.ownBlock → K (a.put o.dst v') w') : o.wp P a w K Q := by
  obtain ⟨v', w', hr, h2, h3⟩ := run_appV (P := P) w B t o.type e size bytes he v n xs hown G A m c news hsee hl h1 h63 hbytes hB
  unfold Oper.wp execOp
  simp only [ho, resolve, invoke, builtin, Sem.run_bind, Sem.run_pure, Result.andThen_ok, List.map_toArray, List.map_cons, List.map_nil, hs, hx, hr]
  exact h v' w' h2 h3
theorem wpList_appV {P : Program} {ops : Array Oper} {rest : List Oper} {o : Oper} {a : Act} {Q : Exit → Act → World → Prop} (w : World) (hgd : o.guard = none) (s x : Operand) (t : TypeId)
    (ho : o.op = .call { callee := .builtin .append, args := #[s, x], argTypes := #[t, t] })
    (B : Nat) (e : TypeId) (size bytes : Nat) (he : ElemOf P t e size bytes)
    (v : Value) (n : Nat) (xs : List Value) (hs : a.eval s = v) (hown : w.ownsRow B e size v n xs) (G : Nat) (A : Option Addr) (m c : Nat) (news : List Value) (hx : a.eval x = .slice A m c) (hsee : Seen w G A news) (hl : news.length = m * size) (h1 : ∀ u ∈ news, u.oneCell' = true)
    (h63 : n + m ≤ maxLen) (hbytes : (n + m) * bytes ≤ 140737488355328) (hB : B ≤ w.heap.size)
    (h : ∀ v' w', w'.ownsRow B e size v' (n + m) (xs ++ news) → Below B w w' → wpList P ops Q rest (a.put o.dst v') w') : wpList P ops Q (o :: rest) a w :=
  wpList_plain hgd fun _ hK => wp_appV w s x t ho B e size bytes he v n xs hs hown G A m c news hx hsee hl h1 h63 hbytes hB fun v' w' h2 h3 => hK _ _ (h v' w' h2 ((Below.refl _ _).grown h3 hB fun k hk => (hown.lt k hk).1))
theorem step_appV {P : Program} {ops : Array Oper} {o : Oper} {a : Act} {K : Act → World → Prop} {Q : Exit → Act → World → Prop} {E : Prop} (w : World) (hgd : o.guard = none) (s x : Operand) (t : TypeId)
    (ho : o.op = .call { callee := .builtin .append, args := #[s, x], argTypes := #[t, t] })
    (B : Nat) (e : TypeId) (size bytes : Nat) (he : ElemOf P t e size bytes)
    (v : Value) (n : Nat) (xs : List Value) (hs : a.eval s = v) (hown : w.ownsRow B e size v n xs) (G : Nat) (A : Option Addr) (m c : Nat) (news : List Value) (hx : a.eval x = .slice A m c) (hsee : Seen w G A news) (hl : news.length = m * size) (h1 : ∀ u ∈ news, u.oneCell' = true)
    (h63 : n + m ≤ maxLen) (hbytes : (n + m) * bytes ≤ 140737488355328) (hB : B ≤ w.heap.size)
    (h : ∀ v' w', w'.ownsRow B e size v' (n + m) (xs ++ news) → w.grownBy w' v.ownBlock → Below B w w' → K (a.put o.dst v') w') :
    if Region.wanted o (yielded ops a.tmps) = true then Oper.wp P o a w K Q else E := by
  have hw : Region.wanted o (yielded ops a.tmps) = true := by simp [Region.wanted, hgd]
  rw [if_pos hw]
  exact wp_appV w s x t ho B e size bytes he v n xs hs hown G A m c news hx hsee hl h1 h63 hbytes hB fun v' w' h2 h3 => h v' w' h2 h3 ((Below.refl _ _).grown h3 hB fun k hk => (hown.lt k hk).1)
/-- What the call owns stays its own over what leaves all blocks so far alone. -/
theorem own_below {w w' : World} {B : Nat} {e : TypeId} {size : Nat} {v : Value} {n : Nat} {xs : List Value} (h : w.ownsRow B e size v n xs) (hb : Below w.heap.size w w') : w'.ownsRow B e size v n xs := by
  obtain ⟨h1, h2⟩ := h
  refine ⟨h1, ?_⟩
  rcases h2 with h2 | ⟨g, cap, cur, hv, hg, hh, r⟩
  · exact .inl h2
  · have hlt : g < w.heap.size := by
      rcases Nat.lt_or_ge g w.heap.size with hl | hl
      · exact hl
      · rw [Array.getElem?_eq_none hl] at hh; cases hh
    exact .inr ⟨g, cap, cur, hv, hg, by rw [hb.block g hlt]; exact hh, r⟩
theorem own_base {w : World} {B B' : Nat} {e : TypeId} {size : Nat} {v : Value} {n : Nat} {xs : List Value} (h : w.ownsRow B e size v n xs) (hB : B' ≤ B) : w.ownsRow B' e size v n xs := by
  obtain ⟨h1, h2⟩ := h
  refine ⟨h1, ?_⟩
  rcases h2 with h2 | ⟨g, cap, cur, hv, hg, r⟩
  · exact .inl h2
  · exact .inr ⟨g, cap, cur, hv, Nat.le_trans hB hg, r⟩
theorem own_form' {w : World} {B : Nat} {e : TypeId} {size : Nat} {v : Value} {n : Nat} {xs : List Value} (h : w.ownsRow B e size v n xs) : ∃ A c, v = .slice A n c ∧ Seen w w.heap.size A xs ∧ n ≤ c ∧ c ≤ maxLen := by
  obtain ⟨h1, h2⟩ := h
  rcases h2 with ⟨rfl, rfl⟩ | ⟨g, cap, cur, rfl, hg, hh, hn, hc, hs, ht⟩
  · exact ⟨none, 0, rfl, .inl (by simpa using h1), Nat.le_refl _, Nat.zero_le _⟩
  · refine ⟨_, _, rfl, .inr ⟨g, 0, rfl, ?_, fun j u hu => ?_⟩, hn, hc⟩
    · rcases Nat.lt_or_ge g w.heap.size with hl | hl
      · exact hl
      · rw [Array.getElem?_eq_none hl] at hh; cases hh
    · have hj : j < n * size := by have := (List.getElem?_eq_some_iff.1 hu).1; omega
      rw [← ht, List.getElem?_take, if_pos hj] at hu
      simp [World.cell?, hh]
      simpa using hu
theorem own_form {w : World} {B : Nat} {e : TypeId} {size : Nat} {v : Value} {n : Nat} {xs : List Value} (h : w.ownsRow B e size v n xs) : ∃ A c, v = .slice A n c ∧ Seen w w.heap.size A xs := by
  obtain ⟨A, c, e, hs, _⟩ := own_form' h
  exact ⟨A, c, e, hs⟩
theorem Seen.takeInts {w : World} {B : Nat} {A : Option Addr} {k : IntKind} {l : List Int} (h : Seen w B A (ints k l)) (n : Nat) : Seen w B A (ints k (l.take n)) := by
  have e : ints k l = ints k (l.take n) ++ ints k (l.drop n) := by simp only [ints, ← List.map_append, List.take_append_drop]
  rw [e] at h
  exact h.firsts
theorem ret_two {a a' b b' : Value} (h : a = a') (k : b = b') : Ending.returned (.tuple #[a, b]) = .returned (.tuple #[a', b']) := by rw [h, k]
theorem ret_three {a a' b b' c c' : Value} (h : a = a') (k : b = b') (m : c = c') : Ending.returned (.tuple #[a, b, c]) = .returned (.tuple #[a', b', c']) := by rw [h, k, m]
theorem ret_bool {a b : Bool} (h : a = b) : Ending.returned (.bool a) = .returned (.bool b) := by rw [h]
end Go.Proofs.Ytbboakdfnjjddaa

/- Sizes of numbers and their bits. No program is named here. -/
namespace Go.Proofs.Ytbboakdfnjjddaa
set_option linter.unusedVariables false
set_option linter.unusedSimpArgs false
set_option maxRecDepth 100000

/-- How many bits a number has. -/
def szN (m : Nat) : Nat := if m = 0 then 0 else Nat.log2 m + 1
def szZ (n : Int) : Nat := szN n.natAbs
/-- Two to this. -/
def pw (k : Nat) : Int := ((2 ^ k : Nat) : Int)
/-- The bits of a number. -/
def vbZ (n : Int) : Int := if 0 < n then n else n + pw (szZ n) - 1
/-- The number that a width and bits tell. -/
def bkZ (w : Nat) (v : Int) : Int := if pw w ≤ 2 * v then v else v - pw w + 1
theorem pw_pos (k : Nat) : 1 ≤ pw k := by have := Nat.two_pow_pos k; unfold pw; omega
theorem pw_succ (k : Nat) : pw (k + 1) = 2 * pw k := by unfold pw; rw [Nat.pow_succ]; omega
theorem pw_zero : pw 0 = 1 := rfl
theorem pw_mono {a b : Nat} (h : a ≤ b) : pw a ≤ pw b := by
  have := Nat.pow_le_pow_right (n := 2) (by omega) h
  unfold pw; omega
theorem szN_zero : szN 0 = 0 := rfl
theorem szN_lt (m : Nat) : m < 2 ^ szN m := by
  unfold szN
  by_cases h : m = 0
  · rw [if_pos h, h]; decide
  · rw [if_neg h]; exact Nat.lt_log2_self
theorem szN_ge {m : Nat} (h : m ≠ 0) : 2 ^ (szN m - 1) ≤ m := by
  unfold szN
  rw [if_neg h]
  exact Nat.log2_self_le h
theorem szN_pos {m : Nat} (h : m ≠ 0) : 0 < szN m := by unfold szN; rw [if_neg h]; omega
theorem szN_le {m k : Nat} (h : m < 2 ^ k) : szN m ≤ k := by
  by_cases h0 : m = 0
  · rw [h0, szN_zero]; omega
  · have h1 := szN_ge h0
    have h2 : 2 ^ (szN m - 1) < 2 ^ k := Nat.lt_of_le_of_lt h1 h
    have := (Nat.pow_lt_pow_iff_right (a := 2) (by omega)).1 h2
    have := szN_pos h0
    omega
theorem szN_gt {m k : Nat} (h : 2 ^ k ≤ m) : k < szN m := by
  have h1 := szN_lt m
  have h2 : 2 ^ k < 2 ^ szN m := Nat.lt_of_le_of_lt h h1
  exact (Nat.pow_lt_pow_iff_right (a := 2) (by omega)).1 h2
theorem szN_is {m k : Nat} (h1 : 2 ^ k ≤ m) (h2 : m < 2 ^ (k + 1)) : szN m = k + 1 := by
  have := szN_le h2
  have := szN_gt h1
  omega
theorem szN_mono {a b : Nat} (h : a ≤ b) : szN a ≤ szN b := szN_le (Nat.lt_of_le_of_lt h (szN_lt b))
theorem szN_double {m : Nat} (h : m ≠ 0) : szN (2 * m) = szN m + 1 := by
  have h1 := szN_ge h
  have h2 := szN_lt m
  have h3 := szN_pos h
  obtain ⟨k, hk⟩ : ∃ k, szN m = k + 1 := ⟨szN m - 1, by omega⟩
  rw [hk] at h1 h2 ⊢
  rw [Nat.add_sub_cancel] at h1
  refine szN_is ?_ ?_
  · rw [Nat.pow_succ]; omega
  · rw [Nat.pow_succ 2 (k + 1)]; omega
theorem szZ_neg (n : Int) : szZ (-n) = szZ n := by unfold szZ; rw [Int.natAbs_neg]
theorem szZ_zero : szZ 0 = 0 := rfl
theorem szZ_pos {n : Int} (h : n ≠ 0) : 0 < szZ n := szN_pos (by omega)
theorem szZ_lt (n : Int) : n < pw (szZ n) ∧ -n < pw (szZ n) := by
  have := szN_lt n.natAbs
  unfold pw szZ
  omega
theorem szZ_ge {n : Int} (h : n ≠ 0) : pw (szZ n) ≤ 2 * n ∨ pw (szZ n) ≤ -2 * n := by
  have h1 := szN_ge (m := n.natAbs) (by omega)
  have h2 := szN_pos (m := n.natAbs) (by omega)
  unfold pw szZ
  obtain ⟨k, hk⟩ : ∃ k, szN n.natAbs = k + 1 := ⟨szN n.natAbs - 1, by omega⟩
  rw [hk] at h1 ⊢
  rw [Nat.add_sub_cancel] at h1
  rw [Nat.pow_succ]
  omega
theorem szZ_le {n : Int} {k : Nat} (h1 : n < pw k) (h2 : -n < pw k) : szZ n ≤ k := szN_le (by unfold pw at h1 h2; omega)
theorem szZ_double {n : Int} (h : n ≠ 0) : szZ (2 * n) = szZ n + 1 := by
  unfold szZ
  rw [Int.natAbs_mul, show Int.natAbs 2 = 2 from rfl]
  exact szN_double (by omega)
/-- The bits lie within the width. -/
theorem vbZ_in (n : Int) : 0 ≤ vbZ n ∧ vbZ n < pw (szZ n) := by
  have h := szZ_lt n
  unfold vbZ
  split
  · omega
  · constructor <;> omega
/-- There and back. -/
theorem bk_vb (n : Int) : bkZ (szZ n) (vbZ n) = n := by
  have h := szZ_lt n
  unfold bkZ vbZ
  by_cases h0 : n = 0
  · subst h0; decide
  · have h1 := szZ_ge h0
    by_cases hp : 0 < n
    · rw [if_pos hp, if_pos (by omega)]
    · rw [if_neg hp, if_neg (by omega)]; omega
theorem sz_bk {w : Nat} {v : Int} (h1 : 0 ≤ v) (h2 : v < pw w) : szZ (bkZ w v) = w := by
  unfold bkZ
  cases w with
  | zero =>
    rw [pw_zero] at h2
    obtain rfl : v = 0 := by omega
    decide
  | succ k =>
    rw [pw_succ] at h2 ⊢
    split
    · unfold szZ
      refine szN_is ?_ ?_
      · unfold pw at *; omega
      · rw [Nat.pow_succ]; unfold pw at *; omega
    · unfold szZ
      refine szN_is ?_ ?_
      · unfold pw at *; omega
      · rw [Nat.pow_succ]; unfold pw at *; omega
theorem vb_bk {w : Nat} {v : Int} (h1 : 0 ≤ v) (h2 : v < pw w) : vbZ (bkZ w v) = v := by
  have hs := sz_bk h1 h2
  unfold vbZ
  rw [hs]
  have hp := pw_pos w
  unfold bkZ
  by_cases h : pw w ≤ 2 * v
  · rw [if_pos h, if_pos (by omega)]
  · rw [if_neg h, if_neg (by omega)]; omega
/-- The other side's bits. -/
theorem vb_neg {n : Int} (h : n ≠ 0) : vbZ (-n) = pw (szZ n) - 1 - vbZ n := by
  unfold vbZ
  rw [szZ_neg]
  by_cases h0 : 0 < n
  · rw [if_pos h0, if_neg (by omega)]; omega
  · rw [if_neg h0, if_pos (by omega)]; omega
theorem sz_12 {n : Int} (h1 : -4095 ≤ n) (h2 : n ≤ 4095) : szZ n ≤ 12 := szZ_le (by show n < 4096; omega) (by show -n < 4096; omega)
theorem sz_11 {n : Int} (h1 : -2047 ≤ n) (h2 : n ≤ 2047) : szZ n ≤ 11 := szZ_le (by show n < 2048; omega) (by show -n < 2048; omega)
theorem sz_tell {m n : Int} (h1 : szZ m = szZ n) (h2 : vbZ m = vbZ n) : m = n := by rw [← bk_vb m, ← bk_vb n, h1, h2]
theorem bk_in {w : Nat} {v : Int} (h1 : 0 ≤ v) (h2 : v < pw w) : -(pw w) < bkZ w v ∧ bkZ w v < pw w := by
  have hp := pw_pos w
  unfold bkZ; split <;> omega
theorem vb_zero : vbZ 0 = 0 := rfl
/-- What is turned over bit by bit. -/
theorem xor_flip {w v : Nat} (h : v < 2 ^ w) : v ^^^ (2 ^ w - 1 - v) = 2 ^ w - 1 := by
  apply Nat.eq_of_testBit_eq
  intro i
  rw [Nat.testBit_xor, Nat.testBit_two_pow_sub_one]
  have e : 2 ^ w - 1 - v = 2 ^ w - (v + 1) := by omega
  rw [e, Nat.testBit_two_pow_sub_succ h]
  by_cases hi : i < w
  · simp [hi]
  · have : v.testBit i = false := Nat.testBit_lt_two_pow (Nat.lt_of_lt_of_le h (Nat.pow_le_pow_right (by omega) (by omega)))
    simp [hi, this]
end Go.Proofs.Ytbboakdfnjjddaa

/- Tokens of the numbers of a block, and numbers of tokens. No program is named here. -/
namespace Go.Proofs.Ytbboakdfnjjddaa
set_option linter.unusedVariables false
set_option linter.unusedSimpArgs false
set_option maxRecDepth 100000

/-- A token: its symbol, its width, its value. -/
def tkN (r : Nat) (n : Int) : Int × Int × Int := (16 * (r : Int) + szZ n, (szZ n : Int), vbZ n)
def tkLong : Int × Int × Int := (240, 0, 0)
def tkEnd : Int × Int × Int := (0, 0, 0)
/-- The tokens of the numbers behind the first one, r zeros being ahead. -/
def restT : Nat → List Int → List (Int × Int × Int)
  | r, [] => if r = 0 then [] else [tkEnd]
  | r, z :: zs => if z = 0 then restT (r + 1) zs else List.replicate (r / 16) tkLong ++ tkN (r % 16) z :: restT 0 zs
/-- The tokens of a block's numbers in their order. -/
def toksZ (before : Int) : List Int → List (Int × Int × Int)
  | [] => []
  | z :: zs => tkN 0 (z - before) :: restT 0 zs
theorem restT_nil (r : Nat) : restT r [] = if r = 0 then [] else [tkEnd] := rfl
theorem restT_zero (r : Nat) (zs : List Int) : restT r (0 :: zs) = restT (r + 1) zs := by rw [restT, if_pos rfl]
theorem restT_cons {z : Int} (r : Nat) (zs : List Int) (h : z ≠ 0) : restT r (z :: zs) = List.replicate (r / 16) tkLong ++ tkN (r % 16) z :: restT 0 zs := by rw [restT, if_neg h]
/-- Is a token told by a width and bits? -/
def fitT (t : Int × Int × Int) : Bool := decide (0 ≤ t.2.1 ∧ t.2.1 ≤ 12 ∧ 0 ≤ t.2.2 ∧ t.2.2 < pw t.2.1.toNat)
/-- May a token come behind the first one? -/
def okT (t : Int × Int × Int) : Bool := fitT t && decide (0 ≤ t.1 ∧ t.1 ≤ 255 ∧ t.1 % 16 = t.2.1 ∧ t.2.1 ≤ 11 ∧ (t.2.1 = 0 → t.1 = 0 ∨ t.1 = 240))
/-- The number of a token. -/
def numT (t : Int × Int × Int) : Int := bkZ t.2.1.toNat t.2.2
/-- How many numbers a token tells. -/
def farT (t : Int × Int × Int) : Nat := (t.1 / 16).toNat + 1
/-- k numbers out of tokens: an error's code, the numbers, how many tokens were taken. -/
def decR : Nat → List (Int × Int × Int) → Int × List Int × Nat
  | 0, _ => (0, [], 0)
  | _ + 1, [] => (3, [], 0)
  | k + 1, t :: l =>
    if okT t = true then
      if t.1 = 0 then (0, List.replicate (k + 1) 0, 1)
      else if k + 1 < farT t then (4, [], 0)
      else
        let d := decR (k + 1 - farT t) l
        if d.1 = 0 then (0, List.replicate (farT t - 1) 0 ++ numT t :: d.2.1, d.2.2 + 1) else (d.1, [], 0)
    else (4, [], 0)
theorem decR_zero (l : List (Int × Int × Int)) : decR 0 l = (0, [], 0) := by cases l <;> rfl
theorem decR_none (k : Nat) : decR (k + 1) [] = (3, [], 0) := rfl
theorem tkN_fit {r : Nat} {n : Int} (h1 : -4095 ≤ n) (h2 : n ≤ 4095) : fitT (tkN r n) = true := by
  have h := vbZ_in n
  have := sz_12 h1 h2
  unfold fitT tkN
  simp only [decide_eq_true_eq, Int.toNat_natCast]
  omega
theorem numT_tkN (r : Nat) (n : Int) : numT (tkN r n) = n := by
  unfold numT tkN
  simp only [Int.toNat_natCast]
  exact bk_vb n
theorem tkN_ok {r : Nat} {n : Int} (hr : r ≤ 15) (hn : n ≠ 0) (h1 : -2047 ≤ n) (h2 : n ≤ 2047) : okT (tkN r n) = true := by
  have h3 := sz_11 h1 h2
  have h4 := szZ_pos hn
  unfold okT
  rw [tkN_fit (by omega) (by omega)]
  unfold tkN
  simp only [Bool.true_and, decide_eq_true_eq]
  refine ⟨by omega, by omega, by omega, by omega, fun h => by omega⟩
theorem tkN_far {r : Nat} {n : Int} (h1 : -2047 ≤ n) (h2 : n ≤ 2047) : farT (tkN r n) = r + 1 := by
  have h3 := sz_11 h1 h2
  unfold farT tkN
  simp only []
  omega
theorem tkN_sym {r : Nat} {n : Int} (hn : n ≠ 0) (h1 : -2047 ≤ n) (h2 : n ≤ 2047) : (tkN r n).1 ≠ 0 ∧ (tkN r n).1 ≠ 240 := by
  have h3 := sz_11 h1 h2
  have h4 := szZ_pos hn
  unfold tkN
  simp only []
  omega
theorem tkLong_ok : okT tkLong = true := by decide
theorem tkEnd_ok : okT tkEnd = true := by decide
theorem tkLong_far : farT tkLong = 16 := by decide
theorem tkLong_num : numT tkLong = 0 := by decide
/-- Sixteen zeros. -/
theorem decR_long (k : Nat) (l : List (Int × Int × Int)) : decR (k + 16) (tkLong :: l) = if (decR k l).1 = 0 then (0, List.replicate 16 0 ++ (decR k l).2.1, (decR k l).2.2 + 1) else ((decR k l).1, [], 0) := by
  rw [show k + 16 = (k + 15) + 1 from rfl, decR]
  simp only [tkLong_ok, tkLong_far, tkLong_num, if_true]
  rw [if_neg (by decide), if_neg (by omega), show k + 15 + 1 - 16 = k by omega]
  by_cases h : (decR k l).1 = 0
  · rw [if_pos h, if_pos h]
    have e : List.replicate (16 - 1) (0 : Int) ++ 0 :: (decR k l).2.1 = List.replicate 16 0 ++ (decR k l).2.1 := by
      rw [show List.replicate 16 (0 : Int) = List.replicate 15 0 ++ [0] from rfl, List.append_assoc]; rfl
    rw [e]
  · rw [if_neg h, if_neg h]
theorem decR_longs (q k : Nat) (l : List (Int × Int × Int)) : decR (k + 16 * q) (List.replicate q tkLong ++ l) = if (decR k l).1 = 0 then (0, List.replicate (16 * q) 0 ++ (decR k l).2.1, (decR k l).2.2 + q) else ((decR k l).1, [], 0) := by
  induction q with
  | zero =>
    simp only [List.replicate_zero, List.nil_append, Nat.mul_zero, Nat.add_zero]
    by_cases h : (decR k l).1 = 0
    · rw [if_pos h, ← h]
    · rw [if_neg h]
      have : ∀ k l, (decR k l).1 ≠ 0 → (decR k l) = ((decR k l).1, [], 0) := by
        intro k l h
        cases k with
        | zero => rw [decR_zero] at h; exact absurd rfl h
        | succ k =>
          cases l with
          | nil => rfl
          | cons t l =>
            rw [decR] at h ⊢
            split at h
            · split at h
              · exact absurd rfl h
              · split at h
                · rw [if_pos ‹_›, if_neg ‹_›, if_pos ‹_›]
                · rw [if_pos ‹_›, if_neg ‹_›, if_neg ‹_›]
                  simp only [] at h ⊢
                  split at h
                  · exact absurd rfl h
                  · rw [if_neg ‹_›]
            · rw [if_neg ‹_›]
      exact this k l h
  | succ q ih =>
    rw [List.replicate_succ, List.cons_append, show k + 16 * (q + 1) = k + 16 * q + 16 by omega, decR_long, ih]
    by_cases h : (decR k l).1 = 0
    · simp only [if_pos h, if_true]
      rw [show List.replicate (16 * (q + 1)) (0 : Int) = List.replicate 16 0 ++ List.replicate (16 * q) 0 by rw [List.replicate_append_replicate]; congr 1; omega, List.append_assoc]
      congr 2
    · simp only [if_neg h]
/-- One number that is not 0. -/
theorem decR_num {r k : Nat} {z : Int} (hr : r ≤ 15) (hz : z ≠ 0) (h1 : -2047 ≤ z) (h2 : z ≤ 2047) (l : List (Int × Int × Int)) : decR (k + (r + 1)) (tkN r z :: l) = if (decR k l).1 = 0 then (0, List.replicate r 0 ++ z :: (decR k l).2.1, (decR k l).2.2 + 1) else ((decR k l).1, [], 0) := by
  rw [show k + (r + 1) = (k + r) + 1 from rfl, decR]
  simp only [tkN_ok hr hz h1 h2, tkN_far h1 h2, numT_tkN, if_true]
  rw [if_neg (tkN_sym hz h1 h2).1, if_neg (by omega), show k + r + 1 - (r + 1) = k by omega, Nat.add_sub_cancel]
/-- What was told is read. -/
theorem decR_restT : ∀ (zs : List Int) (r : Nat) (more : List (Int × Int × Int)), (∀ z ∈ zs, -2047 ≤ z ∧ z ≤ 2047) → decR (r + zs.length) (restT r zs ++ more) = (0, List.replicate r 0 ++ zs, (restT r zs).length)
  | [], r, more, _ => by
    cases r with
    | zero => simp [restT, decR_zero]
    | succ r =>
      rw [restT_nil, if_neg (by omega)]
      simp only [List.length_nil, Nat.add_zero, List.append_nil, List.length_singleton, List.singleton_append]
      rw [decR]
      simp only [tkEnd_ok, if_true]
      rw [if_pos (by decide)]
  | z :: zs, r, more, h => by
    have hzs : ∀ z ∈ zs, -2047 ≤ z ∧ z ≤ 2047 := fun x hx => h x (List.mem_cons_of_mem _ hx)
    have hz := h z List.mem_cons_self
    by_cases h0 : z = 0
    · subst h0
      rw [restT_zero, List.length_cons, show r + (zs.length + 1) = r + 1 + zs.length by omega, decR_restT zs (r + 1) more hzs]
      congr 2
      rw [List.replicate_succ', List.append_assoc]; rfl
    · rw [restT_cons r zs h0, List.append_assoc, List.cons_append]
      have e : r + (z :: zs).length = (zs.length + (r % 16 + 1)) + 16 * (r / 16) := by rw [List.length_cons]; omega
      have ih := decR_restT zs 0 more hzs
      rw [Nat.zero_add] at ih
      rw [e, decR_longs, decR_num (by omega) h0 hz.1 hz.2, ih]
      simp only [if_true]
      have e2 : List.replicate (16 * (r / 16)) (0 : Int) ++ (List.replicate (r % 16) 0 ++ z :: (List.replicate 0 0 ++ zs)) = List.replicate r 0 ++ z :: zs := by
        rw [← List.append_assoc, List.replicate_append_replicate, show 16 * (r / 16) + r % 16 = r by omega]; rfl
      rw [e2]
      congr 2
      simp only [List.length_append, List.length_replicate, List.length_cons]
      omega
/-- The numbers of a block out of tokens. -/
def decB (before : Int) (l : List (Int × Int × Int)) : Int × List Int × Nat :=
  if before < -2047 ∨ 2047 < before then (1, [], 0) else
  match l with
  | [] => (3, [], 0)
  | t :: l =>
    if fitT t = true ∧ t.1 = t.2.1 ∧ -2047 ≤ before + numT t ∧ before + numT t ≤ 2047 then
      let d := decR 63 l
      if d.1 = 0 then
        if toksZ before ((before + numT t) :: d.2.1) = t :: l.take d.2.2 then (0, (before + numT t) :: d.2.1, d.2.2 + 1) else (4, [], 0)
      else (d.1, [], 0)
    else (4, [], 0)
/-- A block is told by its tokens, whatever comes behind. -/
theorem decB_toksZ {before : Int} {zs : List Int} (hb : -2047 ≤ before ∧ before ≤ 2047) (hl : zs.length = 64) (h : ∀ z ∈ zs, -2047 ≤ z ∧ z ≤ 2047) (more : List (Int × Int × Int)) :
    decB before (toksZ before zs ++ more) = (0, zs, (toksZ before zs).length) := by
  match zs, hl, h with
  | z :: zs, hl, h =>
    have hz := h z List.mem_cons_self
    have hzs : ∀ z ∈ zs, -2047 ≤ z ∧ z ≤ 2047 := fun x hx => h x (List.mem_cons_of_mem _ hx)
    rw [List.length_cons] at hl
    have hr := decR_restT zs 0 more hzs
    rw [Nat.zero_add, show zs.length = 63 by omega] at hr
    unfold decB
    rw [if_neg (by omega)]
    simp only [toksZ, List.cons_append]
    have e : before + numT (tkN 0 (z - before)) = z := by rw [numT_tkN]; omega
    rw [if_pos ⟨tkN_fit (by omega) (by omega), by unfold tkN; simp, by rw [e]; exact hz.1, by rw [e]; exact hz.2⟩, hr, e]
    simp only [if_true, List.replicate_zero, List.nil_append]
    rw [List.take_append_of_le_length (Nat.le_refl _), List.take_length]
    exact if_pos rfl
/-- What is read has just these tokens. -/
theorem decB_again {before : Int} {l : List (Int × Int × Int)} {zs : List Int} {n : Nat} (h : decB before l = (0, zs, n)) : (-2047 ≤ before ∧ before ≤ 2047) ∧ toksZ before zs = l.take n ∧ 0 < n ∧ n ≤ l.length := by
  have used : ∀ (l : List (Int × Int × Int)) (k : Nat), (decR k l).2.2 ≤ l.length := by
    intro l
    induction l with
    | nil => intro k; cases k <;> simp [decR]
    | cons t l ih =>
      intro k
      cases k with
      | zero => rw [decR_zero]; simp
      | succ k =>
        rw [decR]
        split
        · split
          · simp
          · split
            · simp
            · simp only []
              split
              · have := ih (k + 1 - farT t); simp only [List.length_cons]; omega
              · simp
        · simp
  unfold decB at h
  by_cases hb : before < -2047 ∨ 2047 < before
  · rw [if_pos hb] at h; simp at h
  · rw [if_neg hb] at h
    cases l with
    | nil => simp at h
    | cons t l =>
      simp only [] at h
      split at h
      · split at h
        · split at h
          · rename_i h1 h2 h3
            simp only [Prod.mk.injEq, true_and] at h
            obtain ⟨rfl, rfl⟩ := h
            have := used l 63
            exact ⟨by omega, h3, by omega, by rw [List.length_cons]; omega⟩
          · simp at h
        · simp only [Prod.mk.injEq] at h
          rename_i h2
          exact absurd h.1 h2
      · simp at h
end Go.Proofs.Ytbboakdfnjjddaa

/- What the laws on tokens ask, in numbers; steps of a reader of tokens. No program is named here. -/
namespace Go.Proofs.Ytbboakdfnjjddaa
set_option linter.unusedVariables false
set_option linter.unusedSimpArgs false
set_option maxRecDepth 100000

/-- Fewer tokens than there are. -/
theorem decR_short : ∀ (zs : List Int) (r k : Nat), (∀ z ∈ zs, -2047 ≤ z ∧ z ≤ 2047) → k < (restT r zs).length → decR (r + zs.length) ((restT r zs).take k) = (3, [], 0)
  | [], r, k, _, hk => by
    cases r with
    | zero => simp [restT] at hk
    | succ r =>
      rw [restT_nil, if_neg (by omega)] at hk ⊢
      simp only [List.length_singleton] at hk
      obtain rfl : k = 0 := by omega
      rfl
  | z :: zs, r, k, h, hk => by
    have hzs : ∀ z ∈ zs, -2047 ≤ z ∧ z ≤ 2047 := fun x hx => h x (List.mem_cons_of_mem _ hx)
    have hz := h z List.mem_cons_self
    by_cases h0 : z = 0
    · subst h0
      rw [restT_zero] at hk ⊢
      rw [List.length_cons, show r + (zs.length + 1) = r + 1 + zs.length by omega]
      exact decR_short zs (r + 1) k hzs hk
    · rw [restT_cons r zs h0] at hk ⊢
      have e : r + (z :: zs).length = (zs.length + (r % 16 + 1)) + 16 * (r / 16) := by rw [List.length_cons]; omega
      rw [e]
      by_cases hq : k ≤ r / 16
      · rw [List.take_append_of_le_length (by rw [List.length_replicate]; exact hq), List.take_replicate, Nat.min_eq_left hq]
        rw [show zs.length + (r % 16 + 1) + 16 * (r / 16) = (zs.length + (r % 16) + 16 * (r / 16 - k)) + 1 + 16 * k by omega]
        have := decR_longs k (zs.length + (r % 16) + 16 * (r / 16 - k) + 1) []
        rw [List.append_nil, decR_none] at this
        rw [this]; rfl
      · obtain ⟨j, rfl⟩ : ∃ j, k = r / 16 + (j + 1) := ⟨k - r / 16 - 1, by omega⟩
        rw [List.length_append, List.length_replicate, List.length_cons] at hk
        have e2 : (List.replicate (r / 16) tkLong ++ tkN (r % 16) z :: restT 0 zs).take (r / 16 + (j + 1)) = List.replicate (r / 16) tkLong ++ tkN (r % 16) z :: (restT 0 zs).take j := by
          rw [List.take_append, List.length_replicate, List.take_of_length_le (by rw [List.length_replicate]; omega), show r / 16 + (j + 1) - r / 16 = j + 1 by omega, List.take_succ_cons]
        have ih := decR_short zs 0 j hzs (by omega)
        rw [Nat.zero_add] at ih
        rw [e2, decR_longs, decR_num (by omega) h0 hz.1 hz.2, ih]
        rfl
theorem decB_short {before : Int} {zs : List Int} (hb : -2047 ≤ before ∧ before ≤ 2047) (hl : zs.length = 64) (h : ∀ z ∈ zs, -2047 ≤ z ∧ z ≤ 2047) {k : Nat} (hk : k < (toksZ before zs).length) : decB before ((toksZ before zs).take k) = (3, [], 0) := by
  match zs, hl, h with
  | z :: zs, hl, h =>
    have hz := h z List.mem_cons_self
    have hzs : ∀ z ∈ zs, -2047 ≤ z ∧ z ≤ 2047 := fun x hx => h x (List.mem_cons_of_mem _ hx)
    rw [List.length_cons] at hl
    unfold decB
    rw [if_neg (by omega)]
    cases k with
    | zero => rfl
    | succ k =>
      simp only [toksZ, List.length_cons] at hk
      have hr := decR_short zs 0 k hzs (by omega)
      rw [Nat.zero_add, show zs.length = 63 by omega] at hr
      simp only [toksZ, List.take_succ_cons]
      have e : before + numT (tkN 0 (z - before)) = z := by rw [numT_tkN]; omega
      rw [if_pos ⟨tkN_fit (by omega) (by omega), by unfold tkN; simp, by rw [e]; exact hz.1, by rw [e]; exact hz.2⟩, hr]
      rfl
/-- How many numbers are not 0. -/
def fullN : List Int → Nat
  | [] => 0
  | z :: zs => if z = 0 then fullN zs else fullN zs + 1
/-- Is there an end to tell? -/
def endT : Nat → List Int → Nat
  | r, [] => if r = 0 then 0 else 1
  | r, z :: zs => if z = 0 then endT (r + 1) zs else endT 0 zs
def isLong (t : Int × Int × Int) : Bool := t.1 == 240
theorem few_rest : ∀ (zs : List Int) (r : Nat), (∀ z ∈ zs, -2047 ≤ z ∧ z ≤ 2047) → (restT r zs).length = fullN zs + (restT r zs).countP isLong + endT r zs
  | [], r, _ => by
    rw [restT_nil]
    by_cases h : r = 0
    · simp [h, fullN, endT]
    · simp [h, fullN, endT, tkEnd, isLong]
  | z :: zs, r, h => by
    have hzs : ∀ z ∈ zs, -2047 ≤ z ∧ z ≤ 2047 := fun x hx => h x (List.mem_cons_of_mem _ hx)
    have hz := h z List.mem_cons_self
    by_cases h0 : z = 0
    · subst h0
      rw [restT_zero, few_rest zs (r + 1) hzs, fullN, if_pos rfl, endT, if_pos rfl]
    · have h1 : isLong (tkN (r % 16) z) = false := by
        have := (tkN_sym (r := r % 16) h0 hz.1 hz.2).2
        unfold isLong; simpa using this
      have h2 : isLong tkLong = true := by decide
      have h3 : List.countP isLong (List.replicate (r / 16) tkLong) = r / 16 := by
        rw [List.countP_replicate, if_pos h2]
      have ih := few_rest zs 0 hzs
      rw [restT_cons r zs h0, fullN, if_neg h0, endT, if_neg h0, List.length_append, List.length_replicate, List.length_cons, List.countP_append, h3, List.countP_cons, h1]
      simp only [Bool.false_eq_true, if_false]
      omega
theorem long_rest : ∀ (zs : List Int) (r : Nat), (∀ z ∈ zs, -2047 ≤ z ∧ z ≤ 2047) → 16 * (restT r zs).countP isLong ≤ r + zs.length
  | [], r, _ => by
    rw [restT_nil]
    by_cases h : r = 0
    · simp [h]
    · simp [h, tkEnd, isLong]
  | z :: zs, r, h => by
    have hzs : ∀ z ∈ zs, -2047 ≤ z ∧ z ≤ 2047 := fun x hx => h x (List.mem_cons_of_mem _ hx)
    have hz := h z List.mem_cons_self
    by_cases h0 : z = 0
    · subst h0
      have := long_rest zs (r + 1) hzs
      rw [restT_zero, List.length_cons]; omega
    · have h1 : isLong (tkN (r % 16) z) = false := by
        have := (tkN_sym (r := r % 16) h0 hz.1 hz.2).2
        unfold isLong; simpa using this
      have h2 : isLong tkLong = true := by decide
      have h3 : List.countP isLong (List.replicate (r / 16) tkLong) = r / 16 := by
        rw [List.countP_replicate, if_pos h2]
      have ih := long_rest zs 0 hzs
      rw [restT_cons r zs h0, List.countP_append, h3, List.countP_cons, h1, List.length_cons]
      simp only [Bool.false_eq_true, if_false]
      omega
theorem len_rest : ∀ (zs : List Int) (r : Nat), (restT r zs).length ≤ r + zs.length
  | [], r => by
    rw [restT_nil]
    by_cases h : r = 0
    · simp [h]
    · simp [h]; omega
  | z :: zs, r => by
    by_cases h0 : z = 0
    · subst h0
      have := len_rest zs (r + 1)
      rw [restT_zero, List.length_cons]; omega
    · have ih := len_rest zs 0
      rw [restT_cons r zs h0, List.length_append, List.length_replicate, List.length_cons, List.length_cons]
      omega
theorem pos_rest : ∀ (zs : List Int) (r : Nat), 0 < r + zs.length → 0 < (restT r zs).length
  | [], r, h => by
    rw [List.length_nil] at h
    rw [restT_nil, if_neg (by omega)]; simp
  | z :: zs, r, h => by
    by_cases h0 : z = 0
    · subst h0
      rw [restT_zero]; exact pos_rest zs (r + 1) (by omega)
    · rw [restT_cons r zs h0, List.length_append, List.length_cons]; omega
/-- The last token. -/
theorem last_rest : ∀ (zs : List Int) (r : Nat), (∀ z ∈ zs, -2047 ≤ z ∧ z ≤ 2047) → 0 < r + zs.length → ((restT r zs).getLast? = some tkEnd ↔ endT r zs = 1)
  | [], r, _, h => by
    rw [List.length_nil] at h
    rw [restT_nil, if_neg (by omega), endT, if_neg (by omega)]; simp
  | z :: zs, r, h, hp => by
    have hzs : ∀ z ∈ zs, -2047 ≤ z ∧ z ≤ 2047 := fun x hx => h x (List.mem_cons_of_mem _ hx)
    have hz := h z List.mem_cons_self
    by_cases h0 : z = 0
    · subst h0
      rw [restT_zero, endT, if_pos rfl]; exact last_rest zs (r + 1) hzs (by omega)
    · rw [restT_cons r zs h0, endT, if_neg h0]
      have hne : tkN (r % 16) z ≠ tkEnd := fun e => (tkN_sym (r := r % 16) h0 hz.1 hz.2).1 (by rw [e]; rfl)
      cases zs with
      | nil =>
        rw [restT_nil, if_pos rfl, endT, if_pos rfl]
        simp [hne]
      | cons y ys =>
        have hp2 := pos_rest (y :: ys) 0 (by simp)
        rw [← last_rest (y :: ys) 0 hzs (by simp)]
        obtain ⟨a, l, e⟩ : ∃ a l, restT 0 (y :: ys) = a :: l := by
          cases h : restT 0 (y :: ys) with
          | nil => rw [h] at hp2; simp at hp2
          | cons a l => exact ⟨a, l, rfl⟩
        rw [e, List.getLast?_append, List.getLast?_cons_cons]
        simp
theorem endT_last : ∀ (zs : List Int) (r : Nat), endT r zs = if (List.replicate r 0 ++ zs).getLast? = some 0 then 1 else 0
  | [], r => by
    rw [endT, List.append_nil]
    by_cases h : r = 0
    · simp [h]
    · rw [if_neg h, List.getLast?_replicate, if_neg h, if_pos rfl]
  | z :: zs, r => by
    rw [endT]
    by_cases h0 : z = 0
    · subst h0
      rw [if_pos rfl, endT_last zs (r + 1), List.replicate_succ', List.append_assoc]; rfl
    · rw [if_neg h0, endT_last zs 0]
      cases zs with
      | nil => simp [h0]
      | cons y ys =>
        rw [List.replicate_zero, List.nil_append, List.getLast?_append, List.getLast?_cons_cons]
        cases e : (y :: ys).getLast? with
        | none => simp at e
        | some a => simp
/-- All together: how many tokens a block has. -/
theorem few_all {before z : Int} {zs : List Int} (hl : zs.length = 63) (h : ∀ z ∈ zs, -2047 ≤ z ∧ z ≤ 2047) :
    (toksZ before (z :: zs)).length = 1 + fullN zs + (restT 0 zs).countP isLong + endT 0 zs ∧ (restT 0 zs).countP isLong ≤ 3 ∧ (toksZ before (z :: zs)).length ≤ 64 ∧ 1 < (toksZ before (z :: zs)).length ∧ ((toksZ before (z :: zs)).getLast? = some tkEnd ↔ endT 0 zs = 1) := by
  have h1 := few_rest zs 0 h
  have h2 := long_rest zs 0 h
  have h3 := len_rest zs 0
  have h4 := pos_rest zs 0 (by omega)
  refine ⟨by rw [toksZ, List.length_cons]; omega, by omega, by rw [toksZ, List.length_cons]; omega, by rw [toksZ, List.length_cons]; omega, ?_⟩
  rw [← last_rest zs 0 h (by omega), toksZ]
  cases e : restT 0 zs with
  | nil => rw [e] at h4; simp at h4
  | cons a l => rw [List.getLast?_cons_cons]
/-- The first token tells what was ahead. -/
theorem first_all {a b z : Int} : tkN 0 (z - a) = tkN 0 (z - b) ↔ a = b := by
  constructor
  · intro h
    unfold tkN at h
    simp only [Prod.mk.injEq] at h
    have := sz_tell (m := z - a) (n := z - b) (by omega) h.2.2
    omega
  · rintro rfl; rfl
theorem rest_zeros : ∀ (k r : Nat), 0 < r + k → restT r (List.replicate k 0) = [tkEnd]
  | 0, r, h => by rw [List.replicate_zero, restT_nil, if_neg (by omega)]
  | k + 1, r, h => by rw [List.replicate_succ, restT_zero]; exact rest_zeros k (r + 1) (by omega)
theorem zero_all (n : Int) : toksZ n (n :: List.replicate 63 0) = [tkEnd, tkEnd] := by
  rw [toksZ, rest_zeros 63 0 (by omega), Int.sub_self]; rfl
/-- A loop over the numbers: what is told so far, and what is still to tell. -/
theorem toks_start (before z : Int) (zs : List Int) : toksZ before (z :: zs) = [tkN 0 (z - before)] ++ restT 0 zs := rfl
theorem toks_next {zs : List Int} {i : Nat} {x : Int} (r : Nat) (hx : zs[i]? = some x) : restT r (zs.drop i) = if x = 0 then restT (r + 1) (zs.drop (i + 1)) else List.replicate (r / 16) tkLong ++ tkN (r % 16) x :: restT 0 (zs.drop (i + 1)) := by
  obtain ⟨hi, e⟩ := List.getElem?_eq_some_iff.1 hx
  rw [List.drop_eq_getElem_cons hi, e]
  by_cases h : x = 0
  · rw [if_pos h, h, restT_zero]
  · rw [if_neg h, restT_cons r _ h]
/-- Numbers read so far, and what is still to read. -/
def joinD (pre : List Int) (u : Nat) (d : Int × List Int × Nat) : Int × List Int × Nat := if d.1 = 0 then (0, pre ++ d.2.1, d.2.2 + u) else (d.1, [], 0)
theorem joinD_all (pre : List Int) (u : Nat) (l : List (Int × Int × Int)) : joinD pre u (decR 0 l) = (0, pre, u) := by
  rw [decR_zero]; unfold joinD; rw [if_pos rfl]; simp
theorem joinD_none (pre : List Int) (u k : Nat) : joinD pre u (decR (k + 1) []) = (3, [], 0) := rfl
theorem joinD_bad (pre : List Int) (u : Nat) {k : Nat} {t : Int × Int × Int} {l : List (Int × Int × Int)} (hk : 0 < k) (h : okT t = false) : joinD pre u (decR k (t :: l)) = (4, [], 0) := by
  obtain ⟨k, rfl⟩ : ∃ j, k = j + 1 := ⟨k - 1, by omega⟩
  rw [decR, if_neg (by rw [h]; decide)]; rfl
theorem joinD_end (pre : List Int) (u : Nat) {k : Nat} {t : Int × Int × Int} {l : List (Int × Int × Int)} (hk : 0 < k) (h : okT t = true) (h0 : t.1 = 0) : joinD pre u (decR k (t :: l)) = (0, pre ++ List.replicate k 0, u + 1) := by
  obtain ⟨k, rfl⟩ : ∃ j, k = j + 1 := ⟨k - 1, by omega⟩
  rw [decR, if_pos h, if_pos h0]; unfold joinD; rw [if_pos rfl]; simp [Nat.add_comm]
theorem joinD_far (pre : List Int) (u : Nat) {k : Nat} {t : Int × Int × Int} {l : List (Int × Int × Int)} (hk : 0 < k) (h : okT t = true) (h0 : t.1 ≠ 0) (hf : k < farT t) : joinD pre u (decR k (t :: l)) = (4, [], 0) := by
  obtain ⟨k, rfl⟩ : ∃ j, k = j + 1 := ⟨k - 1, by omega⟩
  rw [decR, if_pos h, if_neg h0, if_pos hf]; rfl
theorem joinD_next (pre : List Int) (u : Nat) {k : Nat} {t : Int × Int × Int} {l : List (Int × Int × Int)} (h : okT t = true) (h0 : t.1 ≠ 0) (hf : farT t ≤ k) : joinD pre u (decR k (t :: l)) = joinD (pre ++ (List.replicate (farT t - 1) 0 ++ [numT t])) (u + 1) (decR (k - farT t) l) := by
  have hp : 0 < farT t := by unfold farT; omega
  obtain ⟨k, rfl⟩ : ∃ j, k = j + 1 := ⟨k - 1, by omega⟩
  rw [decR, if_pos h, if_neg h0, if_neg (by omega)]
  simp only []
  unfold joinD
  by_cases e : (decR (k + 1 - farT t) l).1 = 0
  · simp only [if_pos e, if_true]
    congr 2
    · simp
    · omega
  · simp only [if_neg e]
end Go.Proofs.Ytbboakdfnjjddaa
