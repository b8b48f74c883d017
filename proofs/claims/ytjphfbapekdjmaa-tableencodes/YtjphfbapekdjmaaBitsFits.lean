/- bits.isWidth and bits.fits. -/
import Derived.Test.YtjphfbapekdjmaaBitMath
import Derived.Test.YtjphfbapekdjmaaRows
namespace Go.Proofs.Ytjphfbapekdjmaa
open Go.RowKit
set_option linter.unusedVariables false
set_option linter.unusedSimpArgs false
set_option maxRecDepth 100000

/-- Is it a width? -/
def okW (x : Int) : Bool := decide (0 ≤ x ∧ x ≤ 24)
theorem isWidth_any (x : Int) (w : World) : Calls Try.prog 35 #[.int .i64 x] w fun e w' => e = .returned (.bool (okW x)) ∧ w = w' := by
  have Hd : Hid (okW x = (decide (0 ≤ x) && decide (x ≤ 24))) := by simp [Hid, okW]
  by_cases h1 : 0 ≤ x <;> by_cases h2 : x ≤ 24 <;>
  · go_enter Try.func35, Try.ntmps35
    go_wp2
    go_ret
    exact ⟨ret_bool (by rw [Hd.out]; symm; simp; omega), rfl⟩
theorem pow_le_24 (n : Nat) (h : n ≤ 24) : (2 : Int) ^ n ≤ 16777216 := by
  have : 2 ^ n ≤ 2 ^ 24 := Nat.pow_le_pow_right (by omega) h
  have h2 : ((2 ^ n : Nat) : Int) ≤ ((2 ^ 24 : Nat) : Int) := by omega
  simpa using h2
theorem pow_pos' (n : Nat) : (0 : Int) < 2 ^ n := Int.pow_pos (by decide)
theorem wrap_pow (n : Nat) (h : n ≤ 24) : IntKind.i64.wrap (2 ^ n) = 2 ^ n := by
  have h1 := pow_le_24 n h
  have h2 := pow_pos' n
  rw [IntKind.wrap_i64]; omega

def fitsB (f : Int × Int) : Bool := decide (okF f)
theorem fitsB_eq (x y : Int) : fitsB (x, y) = (okW x && (decide (0 ≤ y) && decide (y < 2 ^ x.toNat))) := by
  by_cases h1 : 0 ≤ x <;> by_cases h2 : x ≤ 24 <;> simp [fitsB, okF, okW, h1, h2]
set_option maxHeartbeats 400000 in
theorem fits_any (x y : Int) (w : World) :
    Calls Try.prog 37 #[.agg #[.int .i64 x, .int .i64 y]] w fun e w' => e = .returned (.bool (fitsB (x, y))) ∧ Below w.heap.size w w' := by
  by_cases h : okW x = true
  · by_cases h2 : 0 ≤ y
    · have hd : decide (0 ≤ y) = true := by simpa using h2
      go_enter Try.func37, Try.ntmps37
      have hx : 0 ≤ x ∧ x ≤ 24 := by simpa [okW] using h
      obtain ⟨hx0, hx1⟩ := hx
      go_wp2_with fail
      go_quiet ((go_at_call 35; exact Calls.quiet_of_same ((isWidth_any _ _).mono fun _ _ h => ⟨h.1, h.2.symm⟩)))
      go_wp2
      go_ret
      refine ⟨ret_bool ?_, (below1 _ _).drewN _⟩
      rw [wrap_pow _ (by omega)]
      rw [fitsB_eq, h, hd]; simp
    · have hd : decide (0 ≤ y) = false := by simpa using h2
      go_enter Try.func37, Try.ntmps37
      go_wp2_with fail
      go_quiet ((go_at_call 35; exact Calls.quiet_of_same ((isWidth_any _ _).mono fun _ _ h => ⟨h.1, h.2.symm⟩)))
      go_wp2
      go_ret
      refine ⟨ret_bool ?_, (below1 _ _).drewN _⟩
      rw [fitsB_eq, hd]; simp
  · have h' : okW x = false := by simpa using h
    go_enter Try.func37, Try.ntmps37
    clear h
    go_wp2_with fail
    go_quiet ((go_at_call 35; exact Calls.quiet_of_same ((isWidth_any _ _).mono fun _ _ h => ⟨h.1, h.2.symm⟩)))
    go_wp2
    go_ret
    refine ⟨ret_bool ?_, (below1 _ _).drewN _⟩
    rw [fitsB_eq, h']; simp
end Go.Proofs.Ytjphfbapekdjmaa
