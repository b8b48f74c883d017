/- BestTwo returns true: of two symbols the less frequent one has a bit more. -/
import Derived.Test.YthelblkpfkngmaaBested
import Derived.Test.YthelblkpfkngmaaBestKeep
import Derived.Test.YthelblkpfkngmaaRest
namespace Go.Proofs.Ythelblkpfkngmaa
open Go.RowKit
set_option linter.unusedVariables false
set_option linter.unusedSimpArgs false

theorem used_two {a b : Int} (ha : 0 < a) (hb : 0 < b) : used [a, b] = [0, 1] := by
  simp [used, enumI, List.zipIdx, ha, hb]
theorem cost_two {a b : Int} (ha : 1 ≤ a) (hb : 1 ≤ b) {L : Int → Nat} (h : BestL [a, b] L) : (costL [a, b] L : Int) = a + b + min a b := by
  have hu := used_two (show 0 < a by omega) (show 0 < b by omega)
  have hc : ∀ L : Int → Nat, costL [a, b] L = a.toNat * L 0 + b.toNat * L 1 := by
    intro L; unfold costL; rw [hu]; simp [sumF, cntZ]
  have hr : ∀ L : Int → Nat, sumF (used [a, b]) (fun i => 2 ^ (16 - L i)) = 2 ^ (16 - L 0) + 2 ^ (16 - L 1) := by
    intro L; rw [hu]; simp [sumF]
  obtain ⟨x, rfl⟩ : ∃ x : Nat, a = (x : Int) := ⟨a.toNat, by omega⟩
  obtain ⟨y, rfl⟩ : ∃ y : Nat, b = (y : Int) := ⟨b.toNat, by omega⟩
  simp only [Int.toNat_natCast] at hc
  have e1 := h.least (fun i => if i = 0 then 1 else 2) ⟨by rw [hu]; decide, by rw [hr]; decide⟩
  have e2 := h.least (fun i => if i = 0 then 2 else 1) ⟨by rw [hu]; decide, by rw [hr]; decide⟩
  rw [hc, hc] at e1 e2
  simp at e1 e2
  rw [hc]
  have h2 := h.code.2
  rw [hr] at h2
  have h3 := h.code.1
  rw [hu] at h3
  have a0 := h3 0 (by simp)
  have a1 := h3 1 (by simp)
  generalize L 0 = p at *
  generalize L 1 = q at *
  have e15 : 2 ^ 15 = 32768 := by decide
  have hpq : 3 ≤ p + q := by
    rcases Nat.lt_or_ge (p + q) 3 with h4 | h4
    · obtain rfl : p = 1 := by omega
      obtain rfl : q = 1 := by omega
      rw [show 16 - 1 = 15 from rfl, e15] at h2; omega
    · exact h4
  obtain ⟨p', rfl⟩ : ∃ p', p = p' + 1 := ⟨p - 1, by omega⟩
  obtain ⟨q', rfl⟩ : ∃ q', q = q' + 1 := ⟨q - 1, by omega⟩
  rw [Nat.mul_add, Nat.mul_add] at e1 e2 ⊢
  have lo : min x y ≤ x * p' + y * q' := by
    rcases Nat.eq_zero_or_pos p' with h5 | h5
    · have : y * 1 ≤ y * q' := Nat.mul_le_mul_left _ (by omega)
      omega
    · have : x * 1 ≤ x * p' := Nat.mul_le_mul_left _ h5
      omega
  generalize x * p' = u at *
  generalize y * q' = v at *
  omega

set_option maxRecDepth 100000 in
set_option maxHeartbeats 4000000 in
theorem bestTwo_walk (a b : Int) (w : World) (ha : -9223372036854775808 ≤ a ∧ a ≤ 9223372036854775807) (hb : -9223372036854775808 ≤ b ∧ b ≤ 9223372036854775807) :
    Calls Try.prog 10 #[.int .i64 a, .int .i64 b] w fun e w' => e = .returned (.bool true) ∧ Below w.heap.size w w' := by
  have h1 := Int.emod_nonneg a (show (9999 : Int) ≠ 0 by decide)
  have h2 := Int.emod_lt_of_pos a (show (0 : Int) < 9999 by decide)
  have h3 := Int.emod_nonneg b (show (9999 : Int) ≠ 0 by decide)
  have h4 := Int.emod_lt_of_pos b (show (0 : Int) < 9999 by decide)
  have R1 := veil (rest_any a 9999 w (by omega) (by omega) ha)
  have R2 := veil (rest_any b 9999 w (by omega) (by omega) hb)
  generalize a % 9999 = x at *
  generalize b % 9999 = y at *
  clear ha hb
  have hok : okB [x + 1, y + 1] = true := by
    unfold okB
    simp only [decide_eq_true_eq]
    refine errB_mk (by simp) ?_
    intro z hz; simp at hz; rcases hz with rfl | rfl <;> omega
  have hs0 := Seen.new w (ints .i64 [x + 1, y + 1]) 3 (w.heap.size + 1) (Nat.lt_succ_self _)
  have HC : Hid (Calls Try.prog 23 #[.slice (some ⟨w.heap.size, 0, none⟩) 2 2] (w.alloc (.cells #[.int .i64 (x + 1), .int .i64 (y + 1)] 3)) _) := made_any (some ⟨w.heap.size, 0, none⟩) 2 (w.heap.size + 1) [x + 1, y + 1] _ hs0 (by simp) (by unfold maxLen; simp)
  rw [hok] at HC
  go_enter Try.func10, Try.ntmps10
  go_wp2_with fail
  refine R1.out.mono ?_
  rintro e w' ⟨rfl, rfl⟩
  go_wp2_with fail
  refine R2.out.mono ?_
  rintro e w' ⟨rfl, rfl⟩
  go_wp2_with fail
  refine HC.out.mono ?_
  rintro e w1 ⟨n, rfl, hn, hb1⟩
  have hn2 : n = (x + 1) + (y + 1) + min (x + 1) (y + 1) := by
    obtain ⟨L, hL, e⟩ := hn (by have := hok; unfold okB at this; simpa using this)
    rw [e, cost_two (by omega) (by omega) hL]
  have hbel1 : Below w.heap.size w w1 := (below1 _ _).trans (hb1.mono (by simp))
  clear HC hn hs0 hok R1 R2
  have Hn := veil hn2; clear hn2
  go_wp2_with fail
  refine (bested_any _).mono ?_
  rintro e w2 ⟨rfl, hb2⟩
  have hbel2 : Below w.heap.size w w2 := hbel1.trans (hb2.mono hbel1.size)
  go_wp2
  go_ret
  exact ⟨ret_bool (by have := Hn.out; simp only [beq_iff_eq]; omega), hbel2⟩
end Go.Proofs.Ythelblkpfkngmaa
