/- The law on numbers there and back, walked. -/
import Derived.Test.YtgnggdiiekhffaaSizeKeep
namespace Go.Proofs.Ytgnggdiiekhffaa
open Go.RowKit
set_option linter.unusedVariables false
set_option linter.unusedSimpArgs false

theorem below_drewN {B : Nat} {a w w' : World} {q : Nat} (h : Below B a w) (e : w' = w.drewN q) : Below B a w' := e ▸ h.drewN q
set_option maxHeartbeats 2000000 in
theorem sizeBack_walk (n c v : Int) (w : World) (hn : -9223372036854775808 ≤ n ∧ n ≤ 9223372036854775807) (hc : -9223372036854775808 ≤ c ∧ c ≤ 9223372036854775807) (hv : -9223372036854775808 ≤ v ∧ v ≤ 9223372036854775807) :
    Calls Try.prog 5 #[.int .i64 n, .int .i64 c, .int .i64 v] w fun e w' => e = .returned (.bool true) ∧ Below w.heap.size w w' := by
  have H0 := veil (sized_any w)
  have HR1 := veil (fun W => rest_any n 8191 W (by omega) (by omega) hn)
  have HR2 := veil (fun W => rest_any c 13 W (by omega) (by omega) hc)
  have hA1 := Int.emod_nonneg n (show (8191 : Int) ≠ 0 by omega)
  have hA2 := Int.emod_lt_of_pos n (show (0 : Int) < 8191 by omega)
  have hB1 := Int.emod_nonneg c (show (13 : Int) ≠ 0 by omega)
  have hB2 := Int.emod_lt_of_pos c (show (0 : Int) < 13 by omega)
  generalize n % 8191 = A at *
  obtain ⟨k, hk⟩ : ∃ k : Nat, c % 13 = k := ⟨(c % 13).toNat, by omega⟩
  rw [hk] at HR2 hB1 hB2
  clear hk
  have hp := pow_pw k (by omega)
  have HR3 := veil (fun W => rest_any v (pw k) W (by omega) (by omega) hv)
  have hC1 := Int.emod_nonneg v (show pw k ≠ 0 by omega)
  have hC2 := Int.emod_lt_of_pos v (show 0 < pw k by omega)
  generalize v % pw k = V at *
  have H1 := veil (fun W => bits_small (A - 4095) W (by omega) (by omega))
  have hvin := vbZ_in (A - 4095)
  have hs := sz_12 (n := A - 4095) (by omega) (by omega)
  have H2 := veil (fun W => back_in (szZ (A - 4095)) (vbZ (A - 4095)) W hs hvin.1 hvin.2)
  rw [bk_vb] at H2
  have HP1 := veil (pow_pw (szZ (A - 4095)) hs)
  have H3 := veil (fun W => back_in k V W (by omega) hC1 hC2)
  have hin := bk_in hC1 hC2
  have H4 := veil (fun W => bits_small (bkZ k V) W (by omega) (by omega))
  rw [sz_bk hC1 hC2, vb_bk hC1 hC2] at H4
  clear hin
  have hv1 := hvin.1
  have HV2 := veil hvin.2
  clear hvin hC2
  generalize bkZ k V = R at *
  generalize szZ (A - 4095) = s at *
  generalize vbZ (A - 4095) = U at *
  have HQ := veil hp.1
  clear hp
  rw [← HQ.out] at HR3
  go_enter Try.func5, Try.ntmps5
  go_wp2_with fail
  refine H0.out.mono ?_
  rintro e w1 ⟨rfl, q, hq⟩
  have hb1 := below_drewN (Below.refl w.heap.size w) hq
  clear hq H0
  go_wp2_with fail
  refine (HR1.out _).mono ?_
  rintro e w2 ⟨rfl, rfl⟩
  go_wp2_with fail
  refine (H1.out _).mono ?_
  rintro e w2 ⟨rfl, q2, hq⟩
  have hb2 := below_drewN hb1 hq
  clear hq hb1
  go_wp2_with fail
  refine (H2.out _).mono ?_
  rintro e w3 ⟨rfl, rfl⟩
  have hlt : U < wrap64 ((2 : Int) ^ s) := by rw [HP1.out.1]; exact HV2.out
  go_wp2_with fail
  refine (HR2.out _).mono ?_
  rintro e w4 ⟨rfl, rfl⟩
  clear hlt
  go_wp2_with fail
  refine (HR3.out _).mono ?_
  rintro e w5 ⟨rfl, rfl⟩
  go_wp2_with fail
  refine (H3.out _).mono ?_
  rintro e w6 ⟨rfl, rfl⟩
  go_wp2_with fail
  refine (H4.out _).mono ?_
  rintro e w7 ⟨rfl, q3, hq⟩
  have hb3 := below_drewN hb2 hq
  clear hq hb2
  go_wp2
  go_ret
  exact ⟨ret_bool (by simp), hb3⟩
end Go.Proofs.Ytgnggdiiekhffaa
