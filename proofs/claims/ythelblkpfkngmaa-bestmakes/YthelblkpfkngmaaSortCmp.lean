/- The comparison that best.lengths hands to the sort, and the words for the bundles' row. -/
import Derived.Test.YthelblkpfkngmaaSortMath
import Derived.Test.YthelblkpfkngmaaMem
import Derived.Test.YthelblkpfkngmaaRows
import Derived.Shelf.SlSortCmp.KitK
import Derived.Sort.WalkB2
import Derived.Sort.WalkB12
namespace Go.Proofs.Ythelblkpfkngmaa
open Go.Shelf Go.RowKit Go.Lib Go.Sort
set_option linter.unusedVariables false
set_option linter.unusedSimpArgs false

/-- A bundle as it lies in memory: its cost and its slice. -/
abbrev Hd : Type := Int × Option Addr × Nat × Nat
def encH (x : Hd) : List Value := [.int .i64 x.1, .slice x.2.1 x.2.2.1 x.2.2.2]
theorem encH_length (x : Hd) : (encH x).length = 2 := rfl
theorem encH_one (x : Hd) : ∀ v ∈ encH x, v.oneCell' = true := by
  intro v hv; simp [encH] at hv; rcases hv with rfl | rfl <;> rfl
/-- What the comparison says. -/
def cmpN (x y : Int) : Int := if x < y then -1 else if y < x then 1 else 0
def cfH (x y : Hd) : Int := cmpN x.1 y.1
theorem cfH_neg (x y : Hd) : cfH x y < 0 ↔ x.1 < y.1 := by unfold cfH cmpN; split <;> (try split) <;> omega
theorem ltH (x y : Hd) : ltOf cfH x y = decide (x.1 < y.1) := by unfold ltOf; rw [decide_eq_decide]; exact cfH_neg x y
theorem swoH : SWO (ltOf cfH) where
  irrefl x := by rw [ltH]; simp
  trans x y z h1 h2 := by rw [ltH] at *; simp at *; omega
  ntrans x y z h1 h2 := by rw [ltH] at *; simp at *; omega
theorem sortK_of {a b : Nat} {d : Array Hd} (h : SortedIn (ltOf cfH) a b d) : SortK (fun x : Hd => x.1) a b d := fun i j hi hij hj => by
  have := h i j hi hij hj; rw [ltH] at this; simpa using this

theorem isNaN_any (x : Int) (w : World) : Calls Try.prog 53 #[.int .i64 x] w fun e w' => e = .returned (.bool false) ∧ w = w' := by
  go_enter Try.func53, Try.ntmps53
  go_wp2
  go_ret
  exact ⟨by simp, rfl⟩
theorem compare_any (x y : Int) (w : World) : Calls Try.prog 43 #[.int .i64 x, .int .i64 y] w fun e w' => e = .returned (.int .i64 (cmpN x y)) ∧ w = w' := by
  unfold cmpN
  by_cases h1 : x < y
  · rw [if_pos h1]
    go_enter Try.func43, Try.ntmps43
    go_wp2_with (go_at_call 53; refine (isNaN_any _ _).mono ?_; rintro e w' ⟨rfl, rfl⟩)
    go_ret
    exact ⟨rfl, rfl⟩
  · rw [if_neg h1]
    by_cases h2 : y < x
    · rw [if_pos h2]
      go_enter Try.func43, Try.ntmps43
      go_wp2_with (go_at_call 53; refine (isNaN_any _ _).mono ?_; rintro e w' ⟨rfl, rfl⟩)
      go_ret
      exact ⟨rfl, rfl⟩
    · rw [if_neg h2]
      go_enter Try.func43, Try.ntmps43
      go_wp2_with (go_at_call 53; refine (isNaN_any _ _).mono ?_; rintro e w' ⟨rfl, rfl⟩)
      go_ret
      exact ⟨rfl, rfl⟩
theorem cmpFn_any (x y : Hd) (W : World) : Calls Try.prog 42 #[.agg (encH x).toArray, .agg (encH y).toArray] W fun e w' => e = .returned (.int .i64 (cfH x y)) ∧ ∃ q os', w' = grow (W.drewN q) os' := by
  obtain ⟨x1, xA, xn, xc⟩ := x
  obtain ⟨y1, yA, yn, yc⟩ := y
  have hcon := fun W' => compare_any x1 y1 W'
  unfold cfH
  simp only
  generalize cmpN x1 y1 = r at hcon ⊢
  have Hcon := veil hcon; clear hcon
  show Calls Try.prog 42 #[.agg #[.int .i64 x1, .slice xA xn xc], .agg #[.int .i64 y1, .slice yA yn yc]] W _
  go_enter Try.func42, Try.ntmps42
  go_wp2_with (go_at_call 43; refine (Hcon.out _).mono ?_; rintro e w' ⟨rfl, rfl⟩)
  go_ret
  exact ⟨rfl, 0, _, by rw [alloc_eq_grow, alloc_eq_grow, grow_grow]; rfl⟩
theorem cmpLaysH (blk off size : Nat) (w : World) : CmpLays Try.prog 42 #[] encH 2 cfH blk off size w := fun _ _ _ _ x y => cmpFn_any x y _
theorem entersH : ∀ args w, (callFunc 42 args).run Try.prog w = .ok (.enter 42 args) w := enters_of Try.func42 (by kernel_rfl) rfl

section
variable {w0 W : World} {blk off : Nat} {dk d0 : Array Hd}
theorem swk_c0 (h : SWK encH 2 w0 blk off dk W) (R : RowK encH 2 w0 blk off d0) (hs : dk.size = d0.size) {i : Nat} (hi : i < dk.size) {x : Hd} (hx : dk[i]! = x) : W.cell? ⟨blk, off + i * 2, none⟩ = some (.int .i64 x.1) ∧ W.frozen? ⟨blk, off + i * 2, none⟩ = false := by
  have := HoldsK.cell (c := 0) (h.holds R.hblk R.hH hs) hi (by omega)
  rw [hx] at this
  exact this
theorem swk_c1 (h : SWK encH 2 w0 blk off dk W) (R : RowK encH 2 w0 blk off d0) (hs : dk.size = d0.size) {i : Nat} (hi : i < dk.size) {x : Hd} (hx : dk[i]! = x) : W.cell? ⟨blk, off + i * 2 + 1, none⟩ = some (.slice x.2.1 x.2.2.1 x.2.2.2) ∧ W.frozen? ⟨blk, off + i * 2 + 1, none⟩ = false := by
  have := HoldsK.cell (c := 1) (h.holds R.hblk R.hH hs) hi (by omega)
  rw [hx] at this
  exact this
/-- An exchange, behind the region's draw. -/
theorem swk_swap (h : SWK encH 2 w0 blk off dk W) (R : RowK encH 2 w0 blk off d0) (i j : Nat) (hi : i < dk.size) (hj : j < dk.size) (x y : Hd) (hx : dk[i]! = x) (hy : dk[j]! = y) :
    Aside (SWK encH 2 w0 blk off (swp dk i j) ((((W.setCell ⟨blk, off + i * 2, none⟩ (.int .i64 y.1)).setCell ⟨blk, off + i * 2 + 1, none⟩ (.slice y.2.1 y.2.2.1 y.2.2.2)).setCell ⟨blk, off + j * 2, none⟩ (.int .i64 x.1)).setCell ⟨blk, off + j * 2 + 1, none⟩ (.slice x.2.1 x.2.2.1 x.2.2.2)).drew) := by
  have S3 := h.swapped R i j hi hj
  rw [hx, hy] at S3
  exact S3
end
end Go.Proofs.Ythelblkpfkngmaa
