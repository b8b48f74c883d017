/- The law WaveApart, walked: waves are at right angles to one another, but for little. -/
import Derived.Test.YtgnpjejjnhdejaaDoorWLaw
namespace Go.Proofs.YtgnpjejjnhdejaaDoor
open Go.RowKit
set_option linter.unusedVariables false
set_option linter.unusedSimpArgs false

theorem apart_num {u v : Nat} (hu : u < 8) (hv : v < 8) : -16384 < sumN 8 (fun x => cW u x * cW v x) - (if u = v then 67108864 else 0) ∧ sumN 8 (fun x => cW u x * cW v x) - (if u = v then 67108864 else 0) < 16384 := by
  have := cW_apart ⟨u, hu⟩ ⟨v, hv⟩
  unfold absZ at this
  simp only [] at this
  split at this <;> omega
theorem apart_part (u v : Nat) : ∀ n : Nat, -(n * 16777216 : Int) ≤ sumN n (fun x => cW u x * cW v x) ∧ sumN n (fun x => cW u x * cW v x) ≤ n * 16777216
  | 0 => by simp [sumN_zero]
  | n + 1 => by
    have h1 := apart_part u v n
    have h2 := absZ_le.1 (cc_abs (cW_abs u n) (cW_abs v n))
    rw [sumN_succ, show ((n + 1 : Nat) : Int) * 16777216 = (n : Int) * 16777216 + 16777216 by omega]
    omega
set_option maxHeartbeats 4000000 in
set_option maxRecDepth 100000 in
theorem waveApart_walk (a b : Int) (w : World) (Q : Quart w) (ha : -9223372036854775808 ≤ a ∧ a ≤ 9223372036854775807) (hb : -9223372036854775808 ≤ b ∧ b ≤ 9223372036854775807) :
    Calls Tryd.prog 10 #[.int .i64 a, .int .i64 b] w fun e w' => e = .returned (.bool true) ∧ Below w.heap.size w w' := by
  have R1 := veil (rest_any a 8 w (by omega) (by omega) ha)
  have R2 := veil (rest_any b 8 w (by omega) (by omega) hb)
  have HW := veil (waved_any w Q)
  obtain ⟨u, hu⟩ := Int.eq_ofNat_of_zero_le (show 0 ≤ a % 8 by omega)
  obtain ⟨v, hv⟩ := Int.eq_ofNat_of_zero_le (show 0 ≤ b % 8 by omega)
  have hu8 : u < 8 := by omega
  have hv8 : v < 8 := by omega
  rw [hu] at R1
  rw [hv] at R2
  have HA := veil (fun x (hx : x < 8) => basis_in u x w hu8 hx Q)
  have HB := veil (fun x (hx : x < 8) => basis_in v x w hv8 hx Q)
  have HN := veil (apart_num hu8 hv8)
  have HS : Hid (∀ x, x < 8 → ∃ c d : Int, cW u x = c ∧ cW v x = d ∧ wrap64 (c * d) = c * d ∧ wrap64 (sumN x (fun x => cW u x * cW v x) + c * d) = sumN (x + 1) (fun x => cW u x * cW v x)) := by
    intro x hx
    have h2 := absZ_le.1 (cc_abs (cW_abs u x) (cW_abs v x))
    have h1 := apart_part u v x
    refine ⟨_, _, rfl, rfl, ?_, ?_⟩
    · unfold wrap64; omega
    · rw [sumN_succ]; unfold wrap64; omega
  clear ha hb hu hv Q
  go_enter Tryd.func10, Tryd.ntmps10
  go_wp2_with fail
  refine R1.out.mono ?_
  rintro e w1 ⟨rfl, rfl⟩
  go_wp2_with fail
  refine R2.out.mono ?_
  rintro e w2 ⟨rfl, rfl⟩
  go_wp2_with fail
  go_loopg [15, 5] 8 (fun gk i s wr => ∃ x : Nat, gk = 8 - x ∧ x ≤ 8 ∧ i = .int .i64 (x : Int) ∧ s = .int .i64 (sumN x (fun x => cW u x * cW v x)) ∧ wr = w)
  case atStart => exact ⟨0, rfl, by omega, rfl, rfl, rfl⟩
  case round =>
    obtain ⟨x, rfl, hx, rfl, rfl, rfl⟩ := hrel
    by_cases hlt : x < 8
    · have hltz : (x : Int) < 8 := by omega
      have HA' := veil (HA.out x hlt)
      have HB' := veil (HB.out x hlt)
      obtain ⟨c, d, hc, hd, hw1, hw2⟩ := HS.out x hlt
      rw [hc] at HA'
      rw [hd] at HB'
      obtain ⟨s', hs'⟩ : ∃ s', s' = sumN (x + 1) (fun x => cW u x * cW v x) := ⟨_, rfl⟩
      rw [← hs'] at hw2
      have HS' := veil hs'; clear hs' hc hd HA HB HS HN HW
      generalize sumN x (fun x => cW u x * cW v x) = s at *
      go_wp2_with fail
      refine HA'.out.mono ?_
      rintro e w3 ⟨rfl, rfl⟩
      go_wp2_with fail
      refine HB'.out.mono ?_
      rintro e w4 ⟨rfl, rfl⟩
      go_wp2_with fail
      go_roundg (8 - (x + 1))
      case rel => exact ⟨x + 1, rfl, by omega, by go_num, by rw [hw2, HS'.out], rfl⟩
      case measure => omega
    · obtain rfl : x = 8 := by omega
      clear HA HB HS
      generalize sumN 8 (fun x => cW u x * cW v x) = s at *
      by_cases he : u = v
      · subst he
        have h1 := HN.out
        rw [if_pos rfl] at h1
        obtain ⟨q, rfl⟩ : ∃ q, s = q + 67108864 := ⟨s - 67108864, by omega⟩
        rw [Int.add_sub_cancel] at h1
        obtain ⟨h1, h2⟩ := h1
        have hw : wrap64 (q + 67108864 - 67108864) = q := by unfold wrap64; omega
        have hwq : wrap64 q = q := by unfold wrap64; omega
        have hw2 : wrap64 (-q) = -q := by unfold wrap64; omega
        clear HN
        go_wp2_with fail
        refine HW.out.mono ?_
        rintro e w3 ⟨rfl, hb3⟩
        rcases Int.lt_trichotomy q (-q) with h3 | h3 | h3
        · have h4 : -q < 16384 := by omega
          go_wp2
          go_ret
          exact ⟨rfl, hb3⟩
        · obtain rfl : q = 0 := by omega
          clear h3 hw hwq hw2 h1 h2
          go_wp2
          go_ret
          exact ⟨rfl, hb3⟩
        · go_wp2
          go_ret
          exact ⟨rfl, hb3⟩
      · have h1 := HN.out
        rw [if_neg he, Int.sub_zero] at h1
        have hez : ¬ (u : Int) = (v : Int) := by omega
        have hw2 : wrap64 (-s) = -s := by unfold wrap64; omega
        obtain ⟨h1, h2⟩ := h1
        go_wp2_with fail
        refine HW.out.mono ?_
        rintro e w3 ⟨rfl, hb3⟩
        rcases Int.lt_trichotomy s (-s) with h3 | h3 | h3
        · have h4 : -s < 16384 := by omega
          go_wp2
          go_ret
          exact ⟨rfl, hb3⟩
        · obtain rfl : s = 0 := by omega
          clear h3 hw2 h1 h2 HN
          go_wp2
          go_ret
          exact ⟨rfl, hb3⟩
        · go_wp2
          go_ret
          exact ⟨rfl, hb3⟩
end Go.Proofs.YtgnpjejjnhdejaaDoor
