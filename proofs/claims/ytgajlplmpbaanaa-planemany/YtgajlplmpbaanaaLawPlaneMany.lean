/- As many blocks as cover a plane, walked over what Cut and Many are to do. -/
import Derived.Test.YtgajlplmpbaanaaBd1
namespace Go.Proofs.Ytgajlplmpbaanaa
open Go.RowKit
set_option linter.unusedVariables false
set_option linter.unusedSimpArgs false
set_option maxRecDepth 100000

theorem many_all {W H : Nat} (h1 : 1 ≤ W ∧ W ≤ 64) (h2 : 1 ≤ H ∧ H ≤ 64) : manyN W H = manyN H W ∧ W * H ≤ 64 * manyN W H ∧ 64 * manyN W H < (W + 8) * (H + 8) ∧ (W % 8 ≠ 0 ∨ H % 8 ≠ 0 ∨ 64 * manyN W H = W * H) := by
  have := many_facts ⟨W - 1, by omega⟩ ⟨H - 1, by omega⟩
  simp only [show W - 1 + 1 = W by omega, show H - 1 + 1 = H by omega] at this
  exact this
set_option maxRecDepth 100000 in
set_option maxHeartbeats 4000000 in
theorem planeMany_by (HC : PCutSpec) (HM : PManySpec) (x y : Int) (w : World) (hx : In64 x) (hy : In64 y) :
    Calls Try.prog 8 #[.int .i64 x, .int .i64 y] w fun e w' => e = .returned (.bool true) ∧ Below w.heap.size w w' := by
  have HP := veil (planed_any HC HM w)
  have HS := veil (fun W => sides_any x y W hx hy)
  have Hbad := veil (sideN_ok x y)
  have Hbad2 := veil (sideN_ok y x)
  obtain ⟨a1, a2, _⟩ := sideN_in x
  obtain ⟨b1, b2, _⟩ := sideN_in y
  obtain ⟨W, hW⟩ : ∃ W, W = sideN x := ⟨_, rfl⟩
  obtain ⟨H, hH⟩ : ∃ H, H = sideN y := ⟨_, rfl⟩
  rw [← hW] at HS Hbad Hbad2 a1 a2
  rw [← hH] at HS Hbad Hbad2 b1 b2
  obtain ⟨f1, f2, f3, f4⟩ := many_all ⟨a1, a2⟩ ⟨b1, b2⟩
  have hm64 := many_le a2 b2
  have HMa : Hid (∀ u, Calls Try.prog 11 #[.int .i64 (W : Int), .int .i64 (H : Int)] u fun e w' => e = .returned (.tuple #[.int .i64 (manyN W H : Nat), .int .i64 0]) ∧ Below u.heap.size u w') := veil fun u => by
    have h := HM (W : Int) (H : Int) u (by unfold In64; omega) (by unfold In64; omega)
    have e1 : oMany (W : Int) (H : Int) = (manyN W H : Nat) := by unfold oMany; rw [if_neg Hbad.out, Int.toNat_natCast, Int.toNat_natCast]
    have e2 : eSides (W : Int) (H : Int) = 0 := if_neg Hbad.out
    rw [e1, e2] at h
    exact h
  have HMb : Hid (∀ u, Calls Try.prog 11 #[.int .i64 (H : Int), .int .i64 (W : Int)] u fun e w' => e = .returned (.tuple #[.int .i64 (manyN W H : Nat), .int .i64 0]) ∧ Below u.heap.size u w') := veil fun u => by
    have h := HM (H : Int) (W : Int) u (by unfold In64; omega) (by unfold In64; omega)
    have e1 : oMany (H : Int) (W : Int) = (manyN W H : Nat) := by unfold oMany; rw [if_neg Hbad2.out, Int.toNat_natCast, Int.toNat_natCast, f1]
    have e2 : eSides (H : Int) (W : Int) = 0 := if_neg Hbad2.out
    rw [e1, e2] at h
    exact h
  obtain ⟨M, hM⟩ : ∃ M, M = manyN W H := ⟨_, rfl⟩
  rw [← hM] at HMa HMb f2 f3 f4 hm64
  obtain ⟨N, hN⟩ : ∃ N, N = W * H := ⟨_, rfl⟩
  rw [← hN] at f2 f4
  obtain ⟨T, hT⟩ : ∃ T, T = (W + 8) * (H + 8) := ⟨_, rfl⟩
  rw [← hT] at f3
  have hN4 : N ≤ 4096 := by rw [hN]; exact Nat.mul_le_mul a2 b2
  have hT5 : T ≤ 5184 := by rw [hT]; exact Nat.mul_le_mul (show W + 8 ≤ 72 by omega) (show H + 8 ≤ 72 by omega)
  obtain ⟨w8, hw8⟩ : ∃ w8 : Nat, w8 = W + 8 := ⟨_, rfl⟩
  obtain ⟨h8, hh8⟩ : ∃ h8 : Nat, h8 = H + 8 := ⟨_, rfl⟩
  obtain ⟨K, hK⟩ : ∃ K, K = 64 * M := ⟨_, rfl⟩
  rw [← hK] at f2 f3 f4
  obtain ⟨r1, hr1⟩ : ∃ r1 : Nat, r1 = W % 8 := ⟨_, rfl⟩
  obtain ⟨r2, hr2⟩ : ∃ r2 : Nat, r2 = H % 8 := ⟨_, rfl⟩
  rw [← hr1, ← hr2] at f4
  have zN : (W : Int) * (H : Int) = (N : Int) := by rw [hN]; simp
  have z1 : (W : Int) + 8 = (w8 : Int) := by omega
  have z2 : (H : Int) + 8 = (h8 : Int) := by omega
  have z3 : (w8 : Int) * (h8 : Int) = (T : Int) := by rw [hT, ← hw8, ← hh8]; simp
  have z4 : 64 * (M : Int) = (K : Int) := by omega
  have z5 : (W : Int) % 8 = (r1 : Int) := by omega
  have z6 : (H : Int) % 8 = (r2 : Int) := by omega
  have zb : w8 ≤ 72 ∧ h8 ≤ 72 ∧ K ≤ 4096 ∧ r1 < 8 ∧ r2 < 8 := by omega
  have z7 : (N : Int) ≤ (K : Int) := by omega
  have z8 : (K : Int) < (T : Int) := by omega
  have F4 : (((r1 : Int) != 0) = true) ∨ (((r1 : Int) != 0) = false ∧ ((r2 : Int) != 0) = true) ∨ (((r1 : Int) != 0) = false ∧ ((r2 : Int) != 0) = false ∧ K = N) := by
    by_cases h1 : r1 = 0
    · by_cases h2 : r2 = 0
      · exact .inr (.inr ⟨by rw [h1]; rfl, by rw [h2]; rfl, by omega⟩)
      · exact .inr (.inl ⟨by rw [h1]; rfl, by rw [bne_iff_ne]; omega⟩)
    · exact .inl (by rw [bne_iff_ne]; omega)
  clear hW hH hN hx hy HC HM hM hT hw8 hh8 hK hr1 hr2 f1 f2 f3 f4 Hbad Hbad2
  go_enter Try.func8, Try.ntmps8
  go_wp2_with fail
  refine HP.out.mono ?_
  rintro e w1 ⟨rfl, hb1⟩
  have HB1 := veil hb1
  have HS1 := veil (HS.out w1)
  clear HP HS hb1
  go_wp2_with fail
  refine HS1.out.mono ?_
  rintro e wq ⟨rfl, hwq⟩
  subst hwq
  have HMc := veil (HMa.out w1)
  clear HS1 HMa
  go_wp2_with fail
  refine HMc.out.mono ?_
  rintro e w2 ⟨rfl, hb2⟩
  have HB2 := veil (HB1.out.trans (hb2.mono HB1.out.size))
  have HMd := veil (HMb.out w2)
  clear HMc HMb hb2 HB1
  go_wp2_with fail
  refine HMd.out.mono ?_
  rintro e w3 ⟨rfl, hb3⟩
  have HB3 := veil (HB2.out.trans (hb3.mono HB2.out.size))
  clear HMd hb3 HB2
  rcases F4 with g1 | ⟨g1, g2⟩ | ⟨g1, g2, rfl⟩
  all_goals
    go_wp2_with fail
    go_ret
    exact ⟨ret_bool (by first | rfl | simp <;> omega), HB3.out⟩
end Go.Proofs.Ytgajlplmpbaanaa
