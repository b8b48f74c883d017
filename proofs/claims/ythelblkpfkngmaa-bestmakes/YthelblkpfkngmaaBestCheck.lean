/- best.check: its contract. -/
import Derived.Test.YthelblkpfkngmaaOwn
import Derived.Test.YthelblkpfkngmaaRows
namespace Go.Proofs.Ythelblkpfkngmaa
open Go.RowKit
set_option linter.unusedVariables false
set_option linter.unusedSimpArgs false

def outB (x : Int) : Bool := decide (x < 0) || decide (9999 < x)
/-- The error of the counts. -/
def errB (xs : List Int) : Int := if 256 < xs.length then 2 else if xs.any outB then 1 else 0
theorem errB_ok {xs : List Int} (h : errB xs = 0) : xs.length ≤ 256 ∧ ∀ x ∈ xs, 0 ≤ x ∧ x ≤ 9999 := by
  unfold errB at h
  by_cases h1 : 256 < xs.length
  · rw [if_pos h1] at h; omega
  · rw [if_neg h1] at h
    by_cases h2 : xs.any outB = true
    · rw [if_pos h2] at h; omega
    · refine ⟨by omega, fun x hx => ?_⟩
      simp only [List.any_eq_true, not_exists, not_and, outB, Bool.or_eq_true, decide_eq_true_eq] at h2
      have := h2 x hx
      omega
theorem errB_mk {xs : List Int} (h1 : xs.length ≤ 256) (h2 : ∀ x ∈ xs, 0 ≤ x ∧ x ≤ 9999) : errB xs = 0 := by
  unfold errB
  rw [if_neg (by omega), if_neg]
  simp only [List.any_eq_true, not_exists, not_and, outB, Bool.or_eq_true, decide_eq_true_eq]
  intro x hx; have := h2 x hx; omega
theorem errB_cases (xs : List Int) : errB xs = 0 ∨ errB xs = 1 ∨ errB xs = 2 := by
  unfold errB; split <;> (try split) <;> simp
theorem outFn_any (x : Int) (w : World) : Calls Try.prog 36 #[.int .i64 x] w fun e w' => e = .returned (.bool (outB x)) ∧ w = w' := by
  unfold outB
  by_cases h1 : x < 0
  · go_enter Try.func36, Try.ntmps36
    go_wp2
    go_ret
    exact ⟨by simp [h1], rfl⟩
  · by_cases h2 : 9999 < x
    · go_enter Try.func36, Try.ntmps36
      go_wp2
      go_ret
      exact ⟨by simp [h1, h2], rfl⟩
    · go_enter Try.func36, Try.ntmps36
      go_wp2
      go_ret
      exact ⟨by simp [h1, h2], rfl⟩
set_option maxHeartbeats 1000000 in
theorem indexOut_any (A : Option Addr) (c G : Nat) (xs : List Int) (w : World) (hs : Seen w G A (ints .i64 xs)) (hl : xs.length ≤ 1048576) :
    Calls Try.prog 47 #[.slice A xs.length c, .func (.func 36) #[] #[]] w fun e w' => ∃ r : Int, e = .returned (.int .i64 r) ∧ (decide (0 ≤ r) = xs.any outB) ∧ w = w' := by
  go_enter Try.func47, Try.ntmps47
  go_wp2
  go_loopg [5, 8] xs.length (fun gk v5 i wr => ∃ k : Nat, gk = xs.length - k ∧ k ≤ xs.length ∧ i = .int .i64 (k : Int) ∧ w = wr ∧ Hid ((xs.take k).any outB = false))
  case atStart => exact ⟨0, rfl, by omega, rfl, rfl, by simp [Hid]⟩
  case round =>
    obtain ⟨k, rfl, hk, rfl, rfl, H⟩ := hrel
    by_cases hlt : k < xs.length
    · have hltz : (k : Int) < (xs.length : Int) := by omega
      obtain ⟨g, o, x, rfl, hg, hx, hc⟩ := hs.int hlt
      have Hx := veil hx; clear hx
      have HC := veil (outFn_any x w)
      by_cases ho : outB x = true
      · rw [ho] at HC
        go_wp2_with fail
        refine HC.out.mono ?_
        rintro e w' ⟨rfl, rfl⟩
        go_wp2
        go_ret
        refine ⟨_, rfl, ?_, rfl⟩
        have : xs.any outB = true := List.any_eq_true.2 ⟨x, List.mem_of_getElem? Hx.out, ho⟩
        rw [this]; simp
      · have ho : outB x = false := by simpa using ho
        rw [ho] at HC
        go_wp2_with fail
        refine HC.out.mono ?_
        rintro e w' ⟨rfl, rfl⟩
        go_wp2
        go_roundg (xs.length - (k + 1))
        case rel => exact ⟨k + 1, rfl, by omega, by go_num, rfl, by rw [Hid, take_snoc Hx.out, List.any_append, H.out]; simp [ho]⟩
        case measure => omega
    · have hltz : ¬ (k : Int) < (xs.length : Int) := by omega
      go_wp2
      go_ret
      refine ⟨_, rfl, ?_, rfl⟩
      have h1 := H.out
      rw [List.take_of_length_le (by omega)] at h1
      rw [h1]; rfl
set_option maxHeartbeats 1000000 in
theorem containsOut_any (A : Option Addr) (c G : Nat) (xs : List Int) (w : World) (hs : Seen w G A (ints .i64 xs)) (hl : xs.length ≤ 1048576) :
    Calls Try.prog 37 #[.slice A xs.length c, .func (.func 36) #[] #[]] w fun e w' => e = .returned (.bool (xs.any outB)) ∧ w = w' := by
  have HC := veil (indexOut_any A c G xs w hs hl)
  go_enter Try.func37, Try.ntmps37
  go_wp2_with fail
  refine HC.out.mono ?_
  rintro e w' ⟨r, rfl, hr, rfl⟩
  go_wp2
  go_ret
  exact ⟨by simp [← hr], rfl⟩
set_option maxHeartbeats 1000000 in
theorem bcheck_any (A : Option Addr) (c G : Nat) (xs : List Int) (w : World) (hs : Seen w G A (ints .i64 xs)) (hl : xs.length ≤ maxLen) :
    Calls Try.prog 25 #[.slice A xs.length c] w fun e w' => e = .returned (.int .i64 (errB xs)) ∧ w = w' := by
  unfold maxLen at hl
  unfold errB
  by_cases h1 : 256 < xs.length
  · have h1z : (256 : Int) < (xs.length : Int) := by omega
    rw [if_pos h1]
    go_enter Try.func25, Try.ntmps25
    go_wp2
    go_ret
    exact ⟨rfl, rfl⟩
  · have h1z : ¬ (256 : Int) < (xs.length : Int) := by omega
    rw [if_neg h1]
    have HC := veil (containsOut_any A c G xs w hs (by omega))
    by_cases h2 : xs.any outB = true
    · rw [if_pos h2]
      rw [h2] at HC
      clear h2
      go_enter Try.func25, Try.ntmps25
      go_wp2_with fail
      refine HC.out.mono ?_
      rintro e w' ⟨rfl, rfl⟩
      go_wp2
      go_ret
      exact ⟨rfl, rfl⟩
    · rw [if_neg h2]
      have h2 : xs.any outB = false := by simpa using h2
      rw [h2] at HC
      clear h2
      go_enter Try.func25, Try.ntmps25
      go_wp2_with fail
      refine HC.out.mono ?_
      rintro e w' ⟨rfl, rfl⟩
      go_wp2
      go_ret
      exact ⟨rfl, rfl⟩
end Go.Proofs.Ythelblkpfkngmaa
