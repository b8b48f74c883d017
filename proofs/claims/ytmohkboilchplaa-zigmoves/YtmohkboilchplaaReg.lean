/- Small laws for two appends in one statement (a region that draws its order): where each source lies, in whatever order. No program is named here. -/
import Derived.Test.YtmohkboilchplaaOwn
namespace Go.Proofs.Ytmohkboilchplaa
open Go.RowKit
set_option linter.unusedVariables false
set_option linter.unusedSimpArgs false

/-- A source that was laid before, behind an append onto another row. -/
theorem reg_grown {w w' : World} {q G : Nat} {xs : List Value} {row : Option Nat} (hs : Seen w G (some ⟨q, 0, none⟩) xs) (hg : w.grownBy w' row) (hr : ∀ g, row = some g → g < q) (hq : q < w.heap.size) : Seen w' G (some ⟨q, 0, none⟩) xs := by
  rcases hs with h | ⟨g, o, h, hlt, hc⟩
  · exact .inl h
  · injection h with h
    injection h with h1 h2
    subst h1 h2
    refine .inr ⟨_, _, rfl, hlt, fun j y hy => ?_⟩
    rw [hg.cell_far _ hq (fun e => by have := hr q e.symm; omega)]
    exact hc j y hy
theorem reg_far {w w' : World} {row : Option Nat} {B i : Nat} {u : Value} (hg : w.grownBy w' row) (hne : some B ≠ row) (hc : w.cell? ⟨B, i, none⟩ = some u) : w'.cell? ⟨B, i, none⟩ = some u :=
  (hg.cell_far _ (World.block_lt_of_cell? w _ hc) hne).trans hc
theorem reg_by0 (W : World) : W.drew.heap.size < W.heap.size + 2 := by show W.heap.size < _; omega
theorem reg_size (W : World) {o : Obj} : (W.drew.alloc o).heap.size = W.heap.size + 1 := by simp
theorem reg_lt0 (W : World) (o p : Obj) : W.heap.size < ((W.drew.alloc o).alloc p).heap.size := by simp; omega
theorem reg_lt1 (W : World) (o p : Obj) : W.heap.size + 1 < ((W.drew.alloc o).alloc p).heap.size := by simp
/-- The one laid second. -/
theorem reg_new1 (W : World) (o : Obj) (xs : List Value) {t : TypeId} : Seen ((W.drew.alloc o).alloc (.cells xs.toArray t)) (W.heap.size + 2) (some ⟨W.heap.size + 1, 0, none⟩) xs := by
  have h := Seen.new (W.drew.alloc o) xs t (W.heap.size + 2) (by simp)
  rw [reg_size] at h
  exact h
/-- The one laid first, another behind it. -/
theorem reg_new0 (W : World) (xs : List Value) {t : TypeId} (o : Obj) : Seen ((W.drew.alloc (.cells xs.toArray t)).alloc o) (W.heap.size + 1) (some ⟨W.heap.size, 0, none⟩) xs :=
  (Seen.new W.drew xs t (W.heap.size + 1) (Nat.lt_succ_self _)).alloc (Nat.le_of_eq (reg_size W).symm) _
theorem reg_below1 {B : Nat} {W w1 w2 : World} {o p : Obj} (h1 : Below B (W.drew.alloc o) w1) (h2 : Below B (w1.alloc p) w2) (hB : B ≤ W.heap.size) : Below B W w2 := by
  have h0 : Below B W (W.drew.alloc o) := ((Below.refl B W).drew).alloc hB o
  have h3 := h0.trans h1
  exact h3.trans (((Below.refl B w1).alloc (Nat.le_trans hB h3.size) p).trans h2)
theorem reg_below2 {B : Nat} {W w1 w2 : World} {o p : Obj} (h1 : Below B ((W.drew.alloc o).alloc p) w1) (h2 : Below B w1 w2) (hB : B ≤ W.heap.size) : Below B W w2 := by
  have h0 : Below B W ((W.drew.alloc o).alloc p) := (((Below.refl B W).drew).alloc hB o).alloc (by simp; omega) p
  exact (h0.trans h1).trans h2
/-- A part of a slice, as the model cuts it. -/
def cutV (A : Option Addr) (f h c : Nat) : Value := .slice (if c = f then A else A.map (·.add f)) (h - f) (c - f)
theorem cutV_seen {w : World} {G c f h : Nat} {A : Option Addr} {k : IntKind} {bs : List Int} (hs : Seen w G A (ints k bs)) (hf : f ≤ h) (hh : h ≤ bs.length) (hc : h ≤ c) :
    ∃ A', cutV A f h c = .slice A' (h - f) (c - f) ∧ Seen w G A' (ints k ((bs.drop f).take (h - f))) := by
  refine ⟨_, rfl, ?_⟩
  by_cases hcf : c = f
  · have : h - f = 0 := by omega
    rw [this]; exact .inl rfl
  · rw [if_neg hcf]
    rcases hs with hs | ⟨g, o, rfl, hg, hcell⟩
    · have : bs = [] := by simpa [ints] using hs
      subst this
      exact .inl (by simp [ints])
    · refine .inr ⟨g, o + f, by simp [addr_add], hg, fun j u hu => ?_⟩
      have hj := (List.getElem?_eq_some_iff.1 hu).1
      rw [ints_length, List.length_take, List.length_drop] at hj
      have e : (ints k bs)[f + j]? = some u := by
        rw [← hu]; simp only [ints, List.getElem?_map, List.getElem?_take, List.getElem?_drop]
        rw [if_pos (by omega)]
      have := hcell _ _ e
      rw [← this]; congr 2; omega
theorem cutV_length {bs : List Int} {f h : Nat} (hh : h ≤ bs.length) : ((bs.drop f).take (h - f)).length = h - f := by simp; omega
end Go.Proofs.Ytmohkboilchplaa
