/- Rows of the call's own, any number of them, that lie apart: what an append, a new block and a call do to them. No program is named here. -/
import Derived.Test.YtjphfbapekdjmaaMem
import Derived.Maps.AppendAt
import Derived.Deep.AppendLies
namespace Go.Proofs.Ytjphfbapekdjmaa
open Go.RowKit
set_option linter.unusedVariables false
set_option linter.unusedSimpArgs false
set_option maxRecDepth 100000

structure Row where
  e : TypeId
  size : Nat
  v : Value
  n : Nat
  xs : List Value
def Row.apart (r s : Row) : Prop := ∀ g, r.v.ownBlock = some g → s.v.ownBlock ≠ some g
theorem Row.apart.symm {r s : Row} (h : r.apart s) : s.apart r := fun g hg hr => h g hr hg

/-- The rows lie in memory from block B on, no two in one block. -/
structure Owns (B : Nat) (rs : List Row) (w : World) : Prop where
  base : B ≤ w.heap.size
  each : ∀ r ∈ rs, w.ownsRow B r.e r.size r.v r.n r.xs
  apart : rs.Pairwise Row.apart

section
variable {B : Nat} {rs ts : List Row} {r s : Row} {w w' : World}
theorem Owns.nil {B : Nat} {w : World} (h : B ≤ w.heap.size) : Owns B [] w := ⟨h, by simp, .nil⟩
theorem Owns.start (w : World) : Owns w.heap.size [] w := .nil (Nat.le_refl _)
theorem Owns.head (h : Owns B (r :: rs) w) : w.ownsRow B r.e r.size r.v r.n r.xs := h.each r (by simp)
theorem Owns.tail (h : Owns B (r :: rs) w) : Owns B rs w := ⟨h.base, fun x hx => h.each x (by simp [hx]), (List.pairwise_cons.1 h.apart).2⟩
theorem Owns.perm (h : Owns B rs w) (hp : rs.Perm ts) : Owns B ts w :=
  ⟨h.base, fun x hx => h.each x (hp.mem_iff.2 hx), hp.pairwise h.apart fun h => h.symm⟩
theorem Owns.swap (h : Owns B (r :: s :: rs) w) : Owns B (s :: r :: rs) w := h.perm (.swap _ _ _)
theorem Owns.third {t : Row} (h : Owns B (r :: s :: t :: rs) w) : Owns B (t :: r :: s :: rs) w :=
  h.perm ((List.Perm.cons r (.swap t s rs)).trans (.swap t r (s :: rs)))
theorem Owns.toThird {t : Row} (h : Owns B (t :: r :: s :: rs) w) : Owns B (r :: s :: t :: rs) w :=
  h.perm ((List.Perm.swap r t (s :: rs)).trans (List.Perm.cons r (.swap s t rs)))
theorem Owns.fresh (h : Owns B rs w) (e : TypeId) (size : Nat) : Owns B (⟨e, size, .slice none 0 0, 0, []⟩ :: rs) w :=
  ⟨h.base, fun x hx => by
    rcases List.mem_cons.1 hx with rfl | hx
    · exact World.ownsRow_nil _ _ _ _
    · exact h.each x hx, List.pairwise_cons.2 ⟨fun s _ g hg => (by cases hg), h.apart⟩⟩
theorem Owns.below (h : Owns B rs w) (hb : Below w.heap.size w w') : Owns B rs w' := ⟨Nat.le_trans h.base hb.size, fun x hx => own_below (h.each x hx) hb, h.apart⟩
theorem Owns.alloc (h : Owns B rs w) (o : Obj) : Owns B rs (w.alloc o) := ⟨by have := h.base; simp; omega, fun x hx => (h.each x hx).alloc o, h.apart⟩
theorem Owns.drew (h : Owns B rs w) : Owns B rs w.drew := ⟨h.base, fun x hx => h.each x hx, h.apart⟩
theorem Owns.drewN (h : Owns B rs w) (n : Nat) : Owns B rs (w.drewN n) := h.below ((Below.refl _ _).drewN n)
theorem Owns.down {B' : Nat} (h : Owns B rs w) (hB : B' ≤ B) : Owns B' rs w := ⟨Nat.le_trans hB h.base, fun x hx => own_base (h.each x hx) hB, h.apart⟩
/-- What a call hands back lies apart from what was there. -/
theorem Owns.call (h : Owns B rs w) (hb : Below w.heap.size w w') (h2 : Owns w.heap.size ts w') : Owns B (ts ++ rs) w' := by
  have hB := h.base
  refine ⟨Nat.le_trans hB hb.size, fun x hx => ?_, List.pairwise_append.2 ⟨h2.apart, h.apart, fun a ha b hb' g hg hgb => ?_⟩⟩
  · rcases List.mem_append.1 hx with hx | hx
    · exact own_base (h2.each x hx) hB
    · exact own_below (h.each x hx) hb
  · have h3 := ((h2.each a ha).lt g hg).1
    have h4 := ((h.each b hb').lt g hgb).2
    omega
theorem Owns.one (hB : B ≤ w.heap.size) (h : w.ownsRow B r.e r.size r.v r.n r.xs) : Owns B [r] w := ⟨hB, fun x hx => by simp at hx; subst hx; exact h, List.pairwise_singleton _ _⟩
theorem Owns.made (h : Owns B rs w) (e : TypeId) (size : Nat) (cur : Array Value) (cap : Nat) (hm : cap ≤ maxLen) (hs : cur.size = cap * size) :
    Owns B (⟨e, size, .slice (some ⟨w.heap.size, 0, none⟩) 0 cap, 0, []⟩ :: rs) (w.alloc (.cells cur e)) :=
  h.call (below1 _ _) (ts := [⟨e, size, .slice (some ⟨w.heap.size, 0, none⟩) 0 cap, 0, []⟩]) (.one (by simp) (World.ownsRow_made _ _ _ (Nat.le_refl _) hm hs))
theorem Owns.seen (h : Owns B rs w) (hr : r ∈ rs) : ∃ A c, r.v = .slice A r.n c ∧ Seen w w.heap.size A r.xs ∧ r.n ≤ c ∧ c ≤ maxLen := own_form' (h.each r hr)
end

/-- append of what is seen onto the first of the rows. -/
theorem run_ownV {P : Program} (w : World) (B : Nat) (t ty e : TypeId) (size bytes : Nat) (he : ElemOf P t e size bytes)
    (v : Value) (n : Nat) (xs : List Value) (rs : List Row) (HO : Owns B (⟨e, size, v, n, xs⟩ :: rs) w) (G : Nat) (A : Option Addr) (m c : Nat) (news : List Value) (hsee : Seen w G A news) (hl : news.length = m * size) (h1 : ∀ u ∈ news, u.oneCell' = true)
    (h63 : n + m ≤ maxLen) (hbytes : (n + m) * bytes ≤ 140737488355328) :
    ∃ v' w', (Builtin.append_ #[t, t] ty #[v, .slice A m c]).run P w = .ok v' w' ∧ Owns B (⟨e, size, v', n + m, xs ++ news⟩ :: rs) w' ∧ w.grownBy w' v.ownBlock ∧ Below B w w' := by
  have hown := HO.head
  have hB := HO.base
  have hap := (List.pairwise_cons.1 HO.apart).1
  obtain ⟨ht, hp, i, z, hi, hz0, hz1, hz2, hzs⟩ := he
  have fin : ∀ v' w', w'.ownsRow B e size v' (n + m) (xs ++ news) → w.grownBy w' v.ownBlock → (v'.ownBlock = v.ownBlock ∨ v'.ownBlock = some w.heap.size) → Owns B (⟨e, size, v', n + m, xs ++ news⟩ :: rs) w' ∧ w.grownBy w' v.ownBlock ∧ Below B w w' := by
    intro v' w' h2 h3 h4
    refine ⟨⟨Nat.le_trans hB h3.size, fun x hx => ?_, List.pairwise_cons.2 ⟨fun s hs g hg => ?_, HO.tail.apart⟩⟩, h3, (Below.refl _ _).grown h3 hB fun k hk => (hown.lt k hk).1⟩
    · rcases List.mem_cons.1 hx with rfl | hx
      · exact h2
      · refine (HO.tail.each x hx).kept h3 ?_
        cases hv : x.v.ownBlock with
        | none => exact .inl rfl
        | some g => exact .inr fun e => hap x hx g e.symm hv
    · simp only at hg
      rcases h4 with h4 | h4
      · exact hap s hs g (h4.symm.trans hg)
      · rw [h4] at hg
        injection hg with hg
        intro hsg
        have := ((HO.tail.each s hs).lt g hsg).2
        omega
  rcases A with _ | ad
  · have hnews : news = [] := by
      rcases hsee with h | ⟨g, o, h, _⟩
      · exact h
      · cases h
    subst hnews
    have hm : m = 0 := by
      rcases Nat.eq_zero_or_pos m with h | h
      · exact h
      · have : 0 < m * size := Nat.mul_pos h hp
        simp at hl; omega
    subst hm
    refine ⟨v, w, ?_, fin v w (by simpa using hown) (World.grownBy.refl w _) (.inl rfl)⟩
    rcases hown.2 with ⟨h5, h6⟩ | ⟨g, cap, cur, h5, _, _, hnc, _⟩
    · simp only at h5 h6
      subst h5 h6
      simp [Builtin.append_, run_underlying ht, sizeOf, typeInfo, hi, Builtin.lenOf, Builtin.firstCells]
    · simp only at h5 hnc
      subst h5
      simp [Builtin.append_, run_underlying ht, sizeOf, typeInfo, hi, Builtin.lenOf, Builtin.firstCells, hnc, storeCells]
  · have hc : ∀ j u, news[j]? = some u → w.cell? (ad.add j) = some u := by
      rcases hsee with h | ⟨g, o, h, _, hc⟩
      · subst h; intro j u hu; simp at hu
      · injection h with h
        subst h
        intro j u hu
        rw [addr_add]
        exact hc j u hu
    obtain ⟨v', w', hr, h2, h3, _, h4⟩ := run_append_own_at (P := P) w B t ty e i z size bytes ht hi hz0 hz1 hz2 hzs hp v n xs hown ad m c news hl hc h1 h63 hbytes hB
    exact ⟨v', w', hr, fin v' w' h2 h3 h4⟩
theorem wp_ownV {P : Program} {o : Oper} {a : Act} {K : Act → World → Prop} {Q : Exit → Act → World → Prop} (w : World) (s x : Operand) (t : TypeId)
    (ho : o.op = .call { callee := .builtin .append, args := #[s, x], argTypes := #[t, t] })
    (B : Nat) (e : TypeId) (size bytes : Nat) (he : ElemOf P t e size bytes)
    (v : Value) (n : Nat) (xs : List Value) (rs : List Row) (hs : a.eval s = v) (HO : Owns B (⟨e, size, v, n, xs⟩ :: rs) w) (G : Nat) (A : Option Addr) (m c : Nat) (news : List Value) (hx : a.eval x = .slice A m c) (hsee : Seen w G A news) (hl : news.length = m * size) (h1 : ∀ u ∈ news, u.oneCell' = true)
    (h63 : n + m ≤ maxLen) (hbytes : (n + m) * bytes ≤ 140737488355328)
    (h : ∀ v' w', Owns B (⟨e, size, v', n + m, xs ++ news⟩ :: rs) w' → w.grownBy w' v.ownBlock → Below B w w' → K (a.put o.dst v') w') : o.wp P a w K Q := by
  obtain ⟨v', w', hr, h2, h3, h4⟩ := run_ownV (P := P) w B t o.type e size bytes he v n xs rs HO G A m c news hsee hl h1 h63 hbytes
  unfold Oper.wp execOp
  simp only [ho, resolve, invoke, builtin, Sem.run_bind, Sem.run_pure, Result.andThen_ok, List.map_toArray, List.map_cons, List.map_nil, hs, hx, hr]
  exact h v' w' h2 h3 h4
/-- In a walk: append of what is seen. -/
theorem wpList_ownV {P : Program} {ops : Array Oper} {rest : List Oper} {o : Oper} {a : Act} {Q : Exit → Act → World → Prop} (w : World) (hgd : Region.wanted o (yielded ops a.tmps) = true) (s x : Operand) (t : TypeId)
    (ho : o.op = .call { callee := .builtin .append, args := #[s, x], argTypes := #[t, t] })
    (B : Nat) (e : TypeId) (size bytes : Nat) (he : ElemOf P t e size bytes)
    (v : Value) (n : Nat) (xs : List Value) (rs : List Row) (hs : a.eval s = v) (HO : Owns B (⟨e, size, v, n, xs⟩ :: rs) w) (G : Nat) (A : Option Addr) (m c : Nat) (news : List Value) (hx : a.eval x = .slice A m c) (hsee : Seen w G A news) (hl : news.length = m * size) (h1 : ∀ u ∈ news, u.oneCell' = true)
    (h63 : n + m ≤ maxLen) (hbytes : (n + m) * bytes ≤ 140737488355328)
    (h : ∀ v' w', Owns B (⟨e, size, v', n + m, xs ++ news⟩ :: rs) w' → Below B w w' → wpList P ops Q rest (a.put o.dst v') w') : wpList P ops Q (o :: rest) a w :=
  wpList_step fun K hK => by
    rw [if_pos hgd]
    exact wp_ownV w s x t ho B e size bytes he v n xs rs hs HO G A m c news hx hsee hl h1 h63 hbytes fun v' w' h2 _ h4 => hK _ _ (h v' w' h2 h4)
/-- In a region: append of what is seen. -/
theorem step_ownV {P : Program} {ops : Array Oper} {o : Oper} {a : Act} {K : Act → World → Prop} {Q : Exit → Act → World → Prop} {E : Prop} (w : World) (hgd : Region.wanted o (yielded ops a.tmps) = true) (s x : Operand) (t : TypeId)
    (ho : o.op = .call { callee := .builtin .append, args := #[s, x], argTypes := #[t, t] })
    (B : Nat) (e : TypeId) (size bytes : Nat) (he : ElemOf P t e size bytes)
    (v : Value) (n : Nat) (xs : List Value) (rs : List Row) (hs : a.eval s = v) (HO : Owns B (⟨e, size, v, n, xs⟩ :: rs) w) (G : Nat) (A : Option Addr) (m c : Nat) (news : List Value) (hx : a.eval x = .slice A m c) (hsee : Seen w G A news) (hl : news.length = m * size) (h1 : ∀ u ∈ news, u.oneCell' = true)
    (h63 : n + m ≤ maxLen) (hbytes : (n + m) * bytes ≤ 140737488355328)
    (h : ∀ v' w', Owns B (⟨e, size, v', n + m, xs ++ news⟩ :: rs) w' → w.grownBy w' v.ownBlock → Below B w w' → K (a.put o.dst v') w') :
    if Region.wanted o (yielded ops a.tmps) = true then Oper.wp P o a w K Q else E := by
  rw [if_pos hgd]
  exact wp_ownV w s x t ho B e size bytes he v n xs rs hs HO G A m c news hx hsee hl h1 h63 hbytes h
/-- A row of integers. -/
def intRow (e : TypeId) (k : IntKind) (v : Value) (l : List Int) : Row := ⟨e, 1, v, l.length, ints k l⟩
theorem ints_append (k : IntKind) (a b : List Int) : ints k (a ++ b) = ints k a ++ ints k b := by simp [ints]
theorem intRow_append (e : TypeId) (k : IntKind) (v : Value) (l m : List Int) : (⟨e, 1, v, l.length + m.length, ints k l ++ ints k m⟩ : Row) = intRow e k v (l ++ m) := by
  simp [intRow, ints_append]
/-- In a walk: append of values just laid, of whatever kind, onto the first of the rows. -/
theorem wpList_ownN {P : Program} {ops : Array Oper} {rest : List Oper} {o : Oper} {a : Act} {Q : Exit → Act → World → Prop} (w0 : World) (hgd : Region.wanted o (yielded ops a.tmps) = true) (s x : Operand) (t : TypeId)
    (ho : o.op = .call { callee := .builtin .append, args := #[s, x], argTypes := #[t, t] })
    (B : Nat) (e : TypeId) (bytes : Nat) (he : ElemOf P t e 1 bytes)
    (v : Value) (n : Nat) (xs : List Value) (rs : List Row) (hs : a.eval s = v) (HO : Owns B (⟨e, 1, v, n, xs⟩ :: rs) w0) (news : List Value) (hx : a.eval x = .slice (some ⟨w0.heap.size, 0, none⟩) news.length news.length) (h1 : ∀ u ∈ news, u.oneCell' = true)
    (h63 : n + news.length ≤ maxLen) (hbytes : (n + news.length) * bytes ≤ 140737488355328)
    (h : ∀ v' w', Owns B (⟨e, 1, v', n + news.length, xs ++ news⟩ :: rs) w' → Below B w0 w' → w0.heap.size < w'.heap.size → wpList P ops Q rest (a.put o.dst v') w') : wpList P ops Q (o :: rest) a (w0.alloc (.cells news.toArray e)) := by
  refine wpList_ownV (w0.alloc (.cells news.toArray e)) hgd s x t ho B e 1 bytes he v n xs rs hs (HO.alloc _) (w0.heap.size + 1) _ _ _ news hx (Seen.new w0 news e _ (Nat.lt_succ_self _)) (by simp) h1 h63 hbytes ?_
  intro v' w' h2 h3
  have := h3.size
  exact h v' w' h2 (((Below.refl _ _).alloc HO.base _).trans h3) (by simp at this; omega)
/-- In a walk: append of integers just laid onto the first of the rows. -/
theorem wpList_ownI {P : Program} {ops : Array Oper} {rest : List Oper} {o : Oper} {a : Act} {Q : Exit → Act → World → Prop} (w0 : World) (hgd : Region.wanted o (yielded ops a.tmps) = true) (s x : Operand) (t : TypeId)
    (ho : o.op = .call { callee := .builtin .append, args := #[s, x], argTypes := #[t, t] })
    (B : Nat) (e : TypeId) (k : IntKind) (bytes : Nat) (he : ElemOf P t e 1 bytes)
    (v : Value) (l : List Int) (rs : List Row) (hs : a.eval s = v) (HO : Owns B (intRow e k v l :: rs) w0) (ys : List Int) (hx : a.eval x = .slice (some ⟨w0.heap.size, 0, none⟩) ys.length ys.length)
    (h63 : l.length + ys.length ≤ maxLen) (hbytes : (l.length + ys.length) * bytes ≤ 140737488355328)
    (h : ∀ v' w', Owns B (intRow e k v' (l ++ ys) :: rs) w' → Below B w0 w' → w0.heap.size < w'.heap.size → wpList P ops Q rest (a.put o.dst v') w') : wpList P ops Q (o :: rest) a (w0.alloc (.cells (ints k ys).toArray e)) := by
  refine wpList_ownN w0 hgd s x t ho B e bytes he v l.length (ints k l) rs hs HO (ints k ys) (by rw [ints_length]; exact hx) ints_one (by rw [ints_length]; exact h63) (by rw [ints_length]; exact hbytes) ?_
  intro v' w' h2 h3 h4
  refine h v' w' ?_ h3 h4
  rw [← intRow_append]
  rw [ints_length] at h2
  exact h2
/-- Rows of integers, each behind a value of a list. -/
def SeenRows (w : World) (G : Nat) (k : IntKind) (vs : List Value) (ps : List (List Int)) : Prop :=
  vs.length = ps.length ∧ ∀ (j : Nat) (v : Value) (p : List Int), vs[j]? = some v → ps[j]? = some p → ∃ A c, v = .slice A p.length c ∧ Seen w G A (ints k p) ∧ p.length ≤ maxLen
section
variable {w w' : World} {G : Nat} {k : IntKind} {vs : List Value} {ps : List (List Int)}
theorem SeenRows.nil (w : World) (G : Nat) (k : IntKind) : SeenRows w G k [] [] := ⟨rfl, by simp⟩
theorem SeenRows.snoc (h : SeenRows w G k vs ps) {A : Option Addr} {c : Nat} {p : List Int} (hs : Seen w G A (ints k p)) (hl : p.length ≤ maxLen) : SeenRows w G k (vs ++ [.slice A p.length c]) (ps ++ [p]) := by
  obtain ⟨h1, h2⟩ := h
  refine ⟨by simp [h1], fun j v q hv hq => ?_⟩
  by_cases hj : j < vs.length
  · rw [List.getElem?_append_left hj] at hv
    rw [List.getElem?_append_left (by omega)] at hq
    exact h2 j v q hv hq
  · rw [List.getElem?_append_right (by omega)] at hv hq
    have hz : j - vs.length = 0 := by
      have := (List.getElem?_eq_some_iff.1 hv).1
      simp at this; omega
    rw [hz] at hv
    rw [← h1, hz] at hq
    simp at hv hq
    subst hv hq
    exact ⟨A, c, rfl, hs, hl⟩
theorem SeenRows.of (h : SeenRows w G k vs ps) (hk : ∀ A xs, Seen w G A xs → Seen w' G A xs) : SeenRows w' G k vs ps :=
  ⟨h.1, fun j v p hv hp => by obtain ⟨A, c, h1, h2, h3⟩ := h.2 j v p hv hp; exact ⟨A, c, h1, hk _ _ h2, h3⟩⟩
theorem SeenRows.below {C : Nat} (h : SeenRows w G k vs ps) (hb : Below C w w') (hG : G ≤ C) : SeenRows w' G k vs ps := h.of fun A xs hs => hs.below hb hG
theorem SeenRows.up {G' : Nat} (h : SeenRows w G k vs ps) (hG : G ≤ G') : SeenRows w G' k vs ps :=
  ⟨h.1, fun j v p hv hp => by obtain ⟨A, c, h1, h2, h3⟩ := h.2 j v p hv hp; exact ⟨A, c, h1, h2.up hG, h3⟩⟩
theorem SeenRows.at (h : SeenRows w G k vs ps) {j : Nat} (hj : j < ps.length) : ∃ A c p, vs[j]? = some (.slice A p.length c) ∧ ps[j]? = some p ∧ Seen w G A (ints k p) ∧ p.length ≤ maxLen := by
  obtain ⟨p, hp⟩ := some_at hj
  obtain ⟨v, hv⟩ := some_at (xs := vs) (j := j) (by rw [h.1]; exact hj)
  obtain ⟨A, c, e, hs, hl⟩ := h.2 j v p hv hp
  exact ⟨A, c, p, by rw [hv, e], hp, hs, hl⟩
/-- Out of rows of the call's own. -/
theorem Owns.rows {B : Nat} {e : TypeId} {rs : List Row} (h : Owns B rs w) (hl : vs.length = ps.length) (hr : ∀ (j : Nat) (v : Value) (p : List Int), vs[j]? = some v → ps[j]? = some p → intRow e k v p ∈ rs) : SeenRows w w.heap.size k vs ps := by
  refine ⟨hl, fun j v p hv hp => ?_⟩
  obtain ⟨A, c, h1, h2, h3, h4⟩ := h.seen (hr j v p hv hp)
  exact ⟨A, c, h1, h2, Nat.le_trans h3 h4⟩
end
theorem Seen.cell {w : World} {B : Nat} {A : Option Addr} {xs : List Value} (h : Seen w B A xs) {k : Nat} {u : Value} (hk : xs[k]? = some u) :
    ∃ g o, A = some ⟨g, o, none⟩ ∧ g < B ∧ w.cell? ⟨g, o + k, none⟩ = some u := by
  obtain ⟨g, o, e, hg, hc⟩ := h.at (by have := (List.getElem?_eq_some_iff.1 hk).1; omega)
  exact ⟨g, o, e, hg, hc k u hk⟩
end Go.Proofs.Ytjphfbapekdjmaa
