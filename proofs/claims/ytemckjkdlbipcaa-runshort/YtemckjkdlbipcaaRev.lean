/- slices.Reverse over a row of numbers of the call's own: its contract. -/
import Derived.Test.YtemckjkdlbipcaaBlk
import Derived.Test.YtemckjkdlbipcaaRows
import Derived.BigRegion
namespace Go.Proofs.Ytemckjkdlbipcaa
open Go.RowKit
set_option linter.unusedVariables false
set_option linter.unusedSimpArgs false
set_option maxRecDepth 100000

/-- One cell of a row of the call's own, written. -/
theorem own_set {w : World} {B g : Nat} {e : TypeId} {n c : Nat} {xs : List Value} (h : w.ownsRow B e 1 (.slice (some ⟨g, 0, none⟩) n c) n xs) {i : Nat} (hi : i < n) (v : Value) :
    (w.setCell ⟨g, i, none⟩ v).ownsRow B e 1 (.slice (some ⟨g, 0, none⟩) n c) n (xs.set i v) := by
  obtain ⟨h1, h2⟩ := h
  refine ⟨by simpa using h1, ?_⟩
  rcases h2 with ⟨h2, _⟩ | ⟨g', cap, cur, hv, hg, hh, hn, hc, hs, ht⟩
  · cases h2
  · simp only [Value.slice.injEq, Option.some.injEq, Addr.mk.injEq] at hv
    obtain ⟨⟨rfl, _, _⟩, _, rfl⟩ := hv
    refine .inr ⟨g, c, cur.setIfInBounds i v, rfl, hg, heap_setCell_same w g i cur e v hh, hn, hc, by simpa using hs, ?_⟩
    rw [Array.toList_setIfInBounds, List.take_set, ht]
theorem own_cell {w : World} {B g : Nat} {e : TypeId} {n c : Nat} {xs : List Value} (h : w.ownsRow B e 1 (.slice (some ⟨g, 0, none⟩) n c) n xs) {i : Nat} {v : Value} (hv : xs[i]? = some v) : w.cell? ⟨g, i, none⟩ = some v ∧ w.frozen? ⟨g, i, none⟩ = false ∧ B ≤ g ∧ g < w.heap.size := by
  obtain ⟨h1, h2⟩ := h
  rcases h2 with ⟨h2, _⟩ | ⟨g', cap, cur, hv', hg, hh, hn, hc, hs, ht⟩
  · cases h2
  · simp only [Value.slice.injEq, Option.some.injEq, Addr.mk.injEq] at hv'
    obtain ⟨⟨rfl, _, _⟩, _, rfl⟩ := hv'
    refine ⟨?_, frozen_of_row w g i _ _ hh, hg, (Array.getElem?_eq_some_iff.1 hh).1⟩
    rw [cell_of_row w g i _ _ _ hh]
    have hi : i < n * 1 := by rw [← h1]; exact (List.getElem?_eq_some_iff.1 hv).1
    rw [← ht, List.getElem?_take, if_pos hi] at hv
    simpa using hv
/-- The ends up to i are exchanged. -/
def Turned (l ls : List Int) (i : Nat) : Prop := ls.length = l.length ∧ ∀ k : Nat, k < l.length → ls[k]? = if k < i ∨ l.length - 1 - i < k then l[l.length - 1 - k]? else l[k]?
theorem Turned.start (l : List Int) : Turned l l 0 := ⟨rfl, fun k hk => by rw [if_neg (by omega)]⟩
theorem Turned.next {l ls : List Int} {i : Nat} {x y : Int} (h : Turned l ls i) (hi : i < l.length - 1 - i) (hx : ls[i]? = some x) (hy : ls[l.length - 1 - i]? = some y) : Turned l ((ls.set i y).set (l.length - 1 - i) x) (i + 1) := by
  obtain ⟨h1, h2⟩ := h
  refine ⟨by simpa using h1, fun k hk => ?_⟩
  rw [List.getElem?_set, List.getElem?_set]
  by_cases e1 : l.length - 1 - i = k
  · subst e1
    rw [if_pos rfl, if_pos (by simp; omega), if_pos (by omega), ← hx, h2 i (by omega), if_neg (by omega)]
    congr 1; omega
  · rw [if_neg e1]
    by_cases e2 : i = k
    · subst e2
      rw [if_pos rfl, if_pos (by omega), if_pos (by omega), ← hy, h2 _ (by omega), if_neg (by omega)]
    · rw [if_neg e2, h2 k hk]
      by_cases e3 : k < i ∨ l.length - 1 - i < k
      · rw [if_pos e3, if_pos (by omega)]
      · rw [if_neg e3, if_neg (by omega)]
theorem Turned.done {l ls : List Int} {i : Nat} (h : Turned l ls i) (hi : ¬ (i : Int) < (l.length : Int) - 1 - (i : Int)) : ls = l.reverse := by
  obtain ⟨h1, h2⟩ := h
  apply List.ext_getElem?
  intro k
  by_cases hk : k < l.length
  · rw [h2 k hk, List.getElem?_reverse hk]
    by_cases e : k < i ∨ l.length - 1 - i < k
    · rw [if_pos e]
    · rw [if_neg e]; congr 1; omega
  · rw [List.getElem?_eq_none (by omega), List.getElem?_eq_none (by simp; omega)]
def revRow (g c : Nat) (l : List Int) : Row := intRow 3 .i64 (.slice (some ⟨g, 0, none⟩) l.length c) l
set_option maxHeartbeats 2000000 in
set_option maxRecDepth 100000 in
theorem reverse_any (g c B : Nat) (l : List Int) (w : World) (HO : Owns B [intRow 3 .i64 (.slice (some ⟨g, 0, none⟩) l.length c) l] w) (hl : l.length ≤ 1048576) :
    Calls Try.prog 42 #[.slice (some ⟨g, 0, none⟩) l.length c] w fun e w' => e = .returned (.tuple #[]) ∧ Owns B [intRow 3 .i64 (.slice (some ⟨g, 0, none⟩) l.length c) l.reverse] w' ∧ Below B w w' := by
  have HO0 := veil HO; clear HO
  go_enter Try.func42, Try.ntmps42
  go_wp2
  go_loopg [2, 3] l.length (fun gk s2 s3 wr => ∃ (i : Nat) (ls : List Int), s2 = .int .i64 (i : Int) ∧ s3 = .int .i64 ((l.length : Int) - 1 - (i : Int)) ∧ gk = l.length - i ∧ i ≤ l.length ∧ Hid (Turned l ls i) ∧ Hid (Owns B [intRow 3 .i64 (.slice (some ⟨g, 0, none⟩) l.length c) ls] wr) ∧ Hid (Below B w wr))
  case atStart => exact ⟨0, l, rfl, by go_num, rfl, by omega, Turned.start l, HO0, Below.refl _ _⟩
  case round =>
    clear HO0
    obtain ⟨i, ls, rfl, rfl, rfl, hi, HT, HO, HB⟩ := hrel
    by_cases hlt : (i : Int) < (l.length : Int) - 1 - (i : Int)
    · obtain ⟨j, hj⟩ : ∃ j : Nat, j = l.length - 1 - i := ⟨_, rfl⟩
      have hjz : (l.length : Int) - 1 - (i : Int) = (j : Int) := by omega
      have hll := HT.out.1
      obtain ⟨x, hx⟩ := some_at (xs := ls) (j := i) (by omega)
      obtain ⟨y, hy⟩ := some_at (xs := ls) (j := j) (by omega)
      obtain ⟨cx, fx, hBg, hgs⟩ := own_cell (by have := HO.out.head; simp only [intRow, hll] at this; exact this) (ints_at hx)
      obtain ⟨cy, fy, _, _⟩ := own_cell (by have := HO.out.head; simp only [intRow, hll] at this; exact this) (ints_at hy)
      have HN := veil (hj ▸ HT.out.next (by omega) hx (hj ▸ hy))
      have HO2 : Hid (Owns B [intRow 3 .i64 (.slice (some ⟨g, 0, none⟩) l.length c) ((ls.set i y).set j x)] ((wr.setCell ⟨g, i, none⟩ (.int .i64 y)).setCell ⟨g, j, none⟩ (.int .i64 x))) := by
        have h1 := HO.out.head
        simp only [intRow, hll] at h1
        have h2 := own_set (own_set h1 (i := i) (by omega) (.int .i64 y)) (i := j) (by omega) (.int .i64 x)
        refine Owns.one (by have := HO.out.base; simpa [World.setCell] using this) ?_
        simp only [intRow, List.length_set, hll, ints, List.map_set] at h2 ⊢
        exact h2
      have HB2 : Hid (Below B w ((wr.setCell ⟨g, i, none⟩ (.int .i64 y)).setCell ⟨g, j, none⟩ (.int .i64 x))) := (HB.out.setCell (by simpa using hBg) _).setCell (by simpa using hBg) _
      rw [hjz] at hlt
      have hne : ¬ i = j := by omega
      have hne2 : ¬ j = i := by omega
      have hjl : (j : Int) < (l.length : Int) := by omega
      have hil : (i : Int) < (l.length : Int) := by omega
      have Hj := veil hj
      have Hjz := veil hjz
      rw [hjz]
      clear HT HO HB hx hy hj hjz hll
      go_wp2_with fail
      go_big_region
      go_wp2
      go_roundg (l.length - (i + 1))
      case rel =>
        have := Hjz.out
        exact ⟨i + 1, (ls.set i y).set j x, by go_num, by go_num, rfl, by omega, HN, veil HO2.out.drew, veil HB2.out.drew⟩
      case measure => omega
    · go_wp2
      go_end0
      exact ⟨rfl, by rw [← HT.out.done (by omega)]; exact HO.out, HB.out⟩
end Go.Proofs.Ytemckjkdlbipcaa
