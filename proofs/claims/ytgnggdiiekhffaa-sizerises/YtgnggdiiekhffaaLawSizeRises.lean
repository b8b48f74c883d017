/- The law on the sizes of two numbers and on both sides of nought, walked. -/
import Derived.Test.YtgnggdiiekhffaaSizeKeep
namespace Go.Proofs.Ytgnggdiiekhffaa
open Go.RowKit
set_option linter.unusedVariables false
set_option linter.unusedSimpArgs false

theorem below_drewN {B : Nat} {a w w' : World} {q : Nat} (h : Below B a w) (e : w' = w.drewN q) : Below B a w' := e ▸ h.drewN q
theorem szZ_rise {a b : Int} (h0 : 0 ≤ a) (h : a ≤ b) : szZ a ≤ szZ b := szN_mono (by omega)
theorem i64_xor (a b : Nat) (ha : a < 9223372036854775808) (hb : b < 9223372036854775808) : bits .xor .i64 (a : Int) (b : Int) = ((a ^^^ b : Nat) : Int) := by
  have hx : a ^^^ b < 2 ^ 63 := Nat.xor_lt_two_pow (by omega) (by omega)
  have e1 : (BitVec.ofInt 64 (a : Int)).toNat = a := by rw [BitVec.ofInt_natCast, BitVec.toNat_ofNat]; exact Nat.mod_eq_of_lt (by omega)
  have e2 : (BitVec.ofInt 64 (b : Int)).toNat = b := by rw [BitVec.ofInt_natCast, BitVec.toNat_ofNat]; exact Nat.mod_eq_of_lt (by omega)
  show IntKind.i64.wrap ((BitVec.ofInt 64 (a : Int) ^^^ BitVec.ofInt 64 (b : Int)).toNat : Int) = _
  rw [BitVec.toNat_xor, e1, e2, IntKind.wrap_i64]
  omega
theorem flip64 {s : Nat} {A : Int} (hs : s ≤ 12) (h0 : 0 ≤ A) (h : A < pw s) : bits .xor .i64 A (pw s - 1 - A) = wrap64 (wrap64 ((2 : Int) ^ s) - 1) := by
  obtain ⟨e, e1, e2⟩ := pow_pw s hs
  rw [e]
  obtain ⟨a, rfl⟩ : ∃ a : Nat, A = a := ⟨A.toNat, by omega⟩
  have hx := xor_flip (w := s) (v := a) (by unfold pw at h; omega)
  have e3 : pw s - 1 - (a : Int) = ((2 ^ s - 1 - a : Nat) : Int) := by unfold pw at *; omega
  rw [e3, i64_xor _ _ (by unfold pw at *; omega) (by unfold pw at *; omega), hx]
  unfold wrap64 pw at *
  omega
set_option maxHeartbeats 2000000 in
theorem rises_from (n m A B : Int) (w : World) (hA1 : 0 ≤ A) (hA2 : A < 4096) (hB1 : 0 ≤ B) (hB2 : B < 4096)
    (HR1 : Hid (∀ W, Calls Try.prog 14 #[.int .i64 n, .int .i64 4096] W fun e w' => e = .returned (.int .i64 A) ∧ W = w'))
    (HR2 : Hid (∀ W, Calls Try.prog 14 #[.int .i64 m, .int .i64 4096] W fun e w' => e = .returned (.int .i64 B) ∧ W = w')) :
    Calls Try.prog 6 #[.int .i64 n, .int .i64 m] w fun e w' => e = .returned (.bool true) ∧ Below w.heap.size w w' := by
  have H0 := veil (sized_any w)
  have H1 := veil (fun W => of_ok A W (by omega) (by omega))
  have H2 := veil (fun W => of_ok B W (by omega) (by omega))
  have H3 := veil (fun W => bits_small A W (by omega) (by omega))
  have H4 := veil (fun W => bits_small (-A) W (by omega) (by omega))
  rw [szZ_neg] at H4
  have hs := sz_12 (n := A) (by omega) (by omega)
  have ht := sz_12 (n := B) (by omega) (by omega)
  have HP := veil (pow_pw (szZ A) hs)
  have HLT := veil (szZ_lt A).1
  have HRS : Hid (A ≤ B → szZ A ≤ szZ B) := fun h => szZ_rise hA1 h
  have HGE : Hid (A ≠ 0 → pw (szZ A - 1) ≤ A ∧ 0 < szZ A) := fun h => by
    have h1 := szZ_ge h
    have h2 := szZ_pos h
    obtain ⟨k, hk⟩ : ∃ k, szZ A = k + 1 := ⟨szZ A - 1, by omega⟩
    rw [hk] at h1 ⊢
    rw [pw_succ] at h1
    rw [Nat.add_sub_cancel]
    omega
  have HU : Hid (A ≠ 0 → vbZ (-A) = pw (szZ A) - 1 - A ∧ vbZ A = A) := fun h => by
    have e : vbZ A = A := if_pos (by omega)
    rw [vb_neg h, e]
    exact ⟨rfl, rfl⟩
  generalize szZ A = s at *
  generalize szZ B = t at *
  generalize vbZ A = v at *
  generalize vbZ (-A) = u at *
  go_enter Try.func6, Try.ntmps6
  go_wp2_with fail
  refine H0.out.mono ?_
  rintro e w1 ⟨rfl, q, hq⟩
  have hb1 := below_drewN (Below.refl w.heap.size w) hq
  clear hq H0
  go_wp2_with fail
  refine (HR1.out _).mono ?_
  rintro e w2 ⟨rfl, rfl⟩
  go_wp2_with fail
  refine (HR2.out _).mono ?_
  rintro e w2 ⟨rfl, rfl⟩
  go_wp2_with fail
  refine (H1.out _).mono ?_
  rintro e w2 ⟨rfl, rfl⟩
  go_wp2_with fail
  refine (H2.out _).mono ?_
  rintro e w2 ⟨rfl, rfl⟩
  go_wp2_with fail
  refine (H3.out _).mono ?_
  rintro e w2 ⟨rfl, q2, hq⟩
  have hb2 := below_drewN hb1 hq
  clear hq hb1
  go_wp2_with fail
  refine (H4.out _).mono ?_
  rintro e w3 ⟨rfl, q3, hq⟩
  have hb3 := below_drewN hb2 hq
  clear hq hb2
  clear HR1 HR2 H1 H2 H3 H4
  have hlt : A < wrap64 ((2 : Int) ^ s) := by rw [HP.out.1]; exact HLT.out
  by_cases hz : A = 0
  · subst hz
    have h1 := HRS.out hB1
    go_wp2
    go_ret
    exact ⟨ret_bool (by simp), hb3⟩
  · obtain ⟨hg1, hg2⟩ := HGE.out hz
    have h4 : 0 ≤ (s : Int) - 1 := by omega
    obtain ⟨hu, hv⟩ := HU.out hz
    have hx : bits .xor .i64 v u = wrap64 (wrap64 ((2 : Int) ^ s) - 1) := by rw [hu, hv]; exact flip64 hs hA1 HLT.out
    have HE := veil (pow_pw (s - 1) (by omega))
    have HG := veil hg1
    clear hu hv hg1 HU HGE
    by_cases hAB : A ≤ B
    · have h1 := HRS.out hAB
      go_wp2
      go_ret
      refine ⟨ret_bool ?_, hb3⟩
      have h5 := HG.out
      rw [HE.out.1]
      simp [h5]
    · go_wp2
      go_ret
      refine ⟨ret_bool ?_, hb3⟩
      have h5 := HG.out
      rw [HE.out.1]
      simp [h5]
theorem sizeRises_walk (n m : Int) (w : World) (hn : -9223372036854775808 ≤ n ∧ n ≤ 9223372036854775807) (hm : -9223372036854775808 ≤ m ∧ m ≤ 9223372036854775807) :
    Calls Try.prog 6 #[.int .i64 n, .int .i64 m] w fun e w' => e = .returned (.bool true) ∧ Below w.heap.size w w' :=
  rises_from n m (n % 4096) (m % 4096) w (Int.emod_nonneg n (by omega)) (Int.emod_lt_of_pos n (by omega)) (Int.emod_nonneg m (by omega)) (Int.emod_lt_of_pos m (by omega))
    (veil fun W => rest_any n 4096 W (by omega) (by omega) hn) (veil fun W => rest_any m 4096 W (by omega) (by omega) hm)
end Go.Proofs.Ytgnggdiiekhffaa
