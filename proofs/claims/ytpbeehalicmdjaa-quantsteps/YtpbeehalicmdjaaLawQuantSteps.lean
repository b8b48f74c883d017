/- The law on numbers near a multiple of a step, walked. -/
import Derived.Test.YtpbeehalicmdjaaQNum
import Derived.Test.YtpbeehalicmdjaaRest
import Derived.Deep.Cut
namespace Go.Proofs.Ytpbeehalicmdjaa
open Go.RowKit
set_option linter.unusedVariables false
set_option linter.unusedSimpArgs false

theorem rnd_about {k d off : Int} (hd : 0 < d) (h1 : 2 * off ≤ d) (h2 : -d ≤ 2 * off) : rnd (k * d + off) d = k ∨ rnd (k * d + off) d = k - 1 ∨ rnd (k * d + off) d = k + 1 := by
  obtain ⟨s1, s2⟩ := rnd_spec (k * d + off) d hd
  generalize rnd (k * d + off) d = r at *
  have e1 : ¬ r < k - 1 := fun h => by
    have := mul_step hd h
    rw [Int.sub_mul, Int.one_mul] at this
    by_cases h : 0 ≤ k * d + off
    · have := s1 h; omega
    · have := s2 (by omega); omega
  have e2 : ¬ k + 1 < r := fun h => by
    have := mul_step hd h
    rw [Int.add_mul, Int.one_mul] at this
    by_cases h : 0 ≤ k * d + off
    · have := s1 h; omega
    · have := s2 (by omega); omega
  omega
def oneL (n : Int) : List Int := n :: List.replicate 63 0
theorem oneL_in {n M : Int} (hM : 0 ≤ M) (h1 : -M ≤ n) (h2 : n ≤ M) : inB (-M) M (oneL n) = true := by
  rw [inB_mem]
  intro x hx
  rcases List.mem_cons.1 hx with rfl | hx
  · exact ⟨h1, h2⟩
  · have := List.eq_of_mem_replicate hx; omega
theorem onesL_in {d : Int} (h1 : 1 ≤ d) (h2 : d ≤ 255) : inB 1 255 (onesL d) = true := by
  rw [inB_mem]
  intro x hx
  have := List.eq_of_mem_replicate hx; omega
/-- What Down makes of one number, a multiple of the step and something beside it. -/
theorem steps_fact (K D O : Int) (hK1 : -150 ≤ K) (hK2 : K ≤ 150) (hD1 : 1 ≤ D) (hD2 : D ≤ 255) (hO1 : 2 * O ≤ D) (hO2 : -D ≤ 2 * O) :
    -1000000 ≤ K * D ∧ K * D ≤ 1000000 ∧ eBoth 40000 (oneL (K * D + O)) (onesL D) = 0 ∧ ∃ V : Int, (ints .i64 (oDown (oneL (K * D + O)) (onesL D)))[0]? = some (.int .i64 V) ∧ (V = K ∨ V = K - 1 ∨ V = K + 1) ∧ (¬ 2 * O = D → ¬ 2 * O = -D → V = K) := by
  have h3 := mul_small hK1 hK2 (show 0 ≤ D by omega) hD2
  have hE : eBoth 40000 (oneL (K * D + O)) (onesL D) = 0 := eBoth_of (onesL_in hD1 hD2) (oneL_in (by omega) (by omega) (by omega))
  have hr := rnd_about (k := K) (show 0 < D by omega) hO1 hO2
  have hc : clampZ (rnd (K * D + O) D) (-2047) 2047 = rnd (K * D + O) D := clampZ_of (by omega) (by omega)
  refine ⟨by omega, by omega, hE, rnd (K * D + O) D, ints_at ?_, hr, fun h1 h2 => rnd_near (by omega) (by omega) (by omega)⟩
  rw [oDown_ok hE, mapL_at (by omega) (x := K * D + O) rfl, fDown_at (onesL_at (by omega)), hc]
set_option maxHeartbeats 4000000 in
set_option maxRecDepth 100000 in
theorem quantSteps_walk (a b c : Int) (w : World) (ha : -9223372036854775808 ≤ a ∧ a ≤ 9223372036854775807) (hb : -9223372036854775808 ≤ b ∧ b ≤ 9223372036854775807) (hc : -9223372036854775808 ≤ c ∧ c ≤ 9223372036854775807) :
    Calls Try.prog 12 #[.int .i64 a, .int .i64 b, .int .i64 c] w fun e w' => e = .returned (.bool true) ∧ Below w.heap.size w w' := by
  have HK := veil (coarse_any w)
  have HR1 := veil (fun W => rest_any a 301 W (by omega) (by omega) ha)
  have HR2 := veil (fun W => rest_any b 255 W (by omega) (by omega) hb)
  have hA1 := Int.emod_nonneg a (show (301 : Int) ≠ 0 by omega)
  have hA2 := Int.emod_lt_of_pos a (show (0 : Int) < 301 by omega)
  have hB1 := Int.emod_nonneg b (show (255 : Int) ≠ 0 by omega)
  have hB2 := Int.emod_lt_of_pos b (show (0 : Int) < 255 by omega)
  generalize a % 301 = A at *
  generalize b % 255 = B at *
  have HR3 := veil (fun W => rest_any c (B + 1) W (by omega) (by omega) hc)
  have hC1 := Int.emod_nonneg c (show B + 1 ≠ 0 by omega)
  have hC2 := Int.emod_lt_of_pos c (show 0 < B + 1 by omega)
  generalize c % (B + 1) = C at *
  obtain ⟨hm1, hm2, hE, V, hV, hV1, hV2⟩ := steps_fact (A - 150) (B + 1) (C - (B + 1) / 2) (by omega) (by omega) (by omega) (by omega) (by omega) (by omega)
  have HO := veil (ones_any (B + 1))
  have HD := veil (fun W => down_any (oneL ((A - 150) * (B + 1) + (C - (B + 1) / 2))) (onesL (B + 1)) W (by simp [oneL]) (onesL_length _))
  rw [hE] at HD
  have Hlu : Hid ((ints .i64 (oDown (oneL ((A - 150) * (B + 1) + (C - (B + 1) / 2))) (onesL (B + 1)))).length = 64) := by show _ = _; rw [ints_length, oDown_length]
  have hone := ints_one (k := .i64) (l := oDown (oneL ((A - 150) * (B + 1) + (C - (B + 1) / 2))) (onesL (B + 1)))
  clear hE
  unfold blkV at *
  generalize ints .i64 (oDown (oneL ((A - 150) * (B + 1) + (C - (B + 1) / 2))) (onesL (B + 1))) = us at *
  generalize ints .i64 (onesL (B + 1)) = os at *
  go_enter Try.func12, Try.ntmps12
  go_wp2_with fail
  refine HK.out.mono ?_
  rintro e w0 ⟨rfl, hb0⟩
  clear HK
  go_wp2_with fail
  refine (HR1.out _).mono ?_
  rintro e w1 ⟨rfl, rfl⟩
  go_wp2_with fail
  refine (HR2.out _).mono ?_
  rintro e w1 ⟨rfl, rfl⟩
  go_wp2_with fail
  refine (HR3.out _).mono ?_
  rintro e w1 ⟨rfl, rfl⟩
  go_wp2_with fail
  refine (HO.out _).mono ?_
  rintro e w1 ⟨rfl, hb1⟩
  go_wp2_with fail
  refine (HD.out _).mono ?_
  rintro e w2 ⟨rfl, hb2⟩
  have hbw := ((hb0.trans (hb1.mono hb0.size)).trans (hb2.mono (Nat.le_trans hb0.size hb1.size))).trans ((below1 w2 (.cells us.toArray 23)).mono (Nat.le_trans (Nat.le_trans hb0.size hb1.size) hb2.size))
  have d0 := (Blk.new w2 us 23).cell hV
  clear HR1 HR2 HR3 HO HD hb0 hb1 hb2 hV
  go_upto_region 6 with (first
    | (refine wpList_store_new w2 rfl 23 (.tmp 7) (.tmp 33) rfl zeroB.toArray us rfl rfl (info_blkn Hlu.out) (by rw [Hlu.out]; rfl) hone ?_)
    | fail)
  have hn1 : ¬ 2 * (C - (B + 1) / 2) = B + 1 := by omega
  by_cases hn2 : 2 * (C - (B + 1) / 2) = -(B + 1)
  · clear hV2
    rcases hV1 with rfl | rfl | rfl
    all_goals
      go_wp2
      all_goals
        go_ret
        first
          | exact ⟨rfl, hbw⟩
          | (refine ⟨ret_bool ?_, hbw⟩; simp <;> omega)
  · obtain rfl := hV2 hn1 hn2
    clear hV1 hV2
    go_wp2
    all_goals
      go_ret
      exact ⟨rfl, hbw⟩
end Go.Proofs.Ytpbeehalicmdjaa
