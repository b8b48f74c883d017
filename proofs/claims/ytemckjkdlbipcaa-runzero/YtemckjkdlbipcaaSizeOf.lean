/- bits.Len (small numbers) and the package size: Of, Bits, Back; their contracts. -/
import Derived.Test.YtemckjkdlbipcaaSizeMath
import Derived.Test.YtemckjkdlbipcaaSmallMath
import Derived.Test.YtemckjkdlbipcaaRows
import Derived.Lib.Strings
import Derived.Lib.Slices
import Derived.Lib.Small
import Derived.Lib.Walk
import Derived.Lib.BitFns
import Derived.BigQuiet
namespace Go.Proofs.Ytemckjkdlbipcaa
open Go.RowKit
set_option linter.unusedVariables false
set_option linter.unusedSimpArgs false
set_option maxRecDepth 100000

theorem bitLen_sz : ∀ n : Fin 256, Lib.bitLen n.val = szN n.val := by decide +kernel
theorem len8_sz (x : Int) (h0 : 0 ≤ x) (h1 : x ≤ 255) : Lib.len8 x = (szN x.toNat : Nat) := by
  rw [Lib.len8_of x h0 h1, ← bitLen_sz ⟨x.toNat, by omega⟩]
theorem szN_shift {m : Nat} (h : 256 ≤ m) : szN m = 8 + szN (m / 256) := by
  have h1 := szN_ge (m := m / 256) (by omega)
  have h2 := szN_lt (m / 256)
  have h3 := szN_pos (m := m / 256) (by omega)
  obtain ⟨k, hk⟩ : ∃ k, szN (m / 256) = k + 1 := ⟨szN (m / 256) - 1, by omega⟩
  rw [hk] at h1 h2 ⊢
  rw [Nat.add_sub_cancel] at h1
  have e : szN m = (k + 8) + 1 := szN_is (by rw [Nat.pow_add]; omega) (by rw [show k + 8 + 1 = (k + 1) + 8 by omega, Nat.pow_add]; omega)
  rw [e]; omega
theorem szI {x y : Int} (h : x = y) : (Ending.returned (.int .i64 x)) = .returned (.int .i64 y) := by rw [h]
set_option maxHeartbeats 4000000 in
set_option maxRecDepth 100000 in
theorem len64_small (x : Int) (w : World) (h0 : 0 ≤ x) (h : x < 65536) :
    Calls Try.prog 45 #[.int .u64 x] w fun e w' => e = .returned (.int .i64 (szZ x : Nat)) ∧ w' = w := by
  by_cases h2 : x < 256
  · have h3 : x ≤ 255 := by omega
    go_enter Try.func45, Try.ntmps45
    go_wp2
    all_goals (go_ret; refine ⟨szI ?_, rfl⟩)
    rw [len8_sz x h0 h3]
    have e3 : szZ x = szN x.toNat := by unfold szZ; congr 1; omega
    have e4 := szN_le (m := x.toNat) (k := 8) (by omega)
    try unfold wrap64
    omega
  · have h3 : x / 256 ≤ 255 := by omega
    have h4 : 0 ≤ x / 256 := by omega
    go_enter Try.func45, Try.ntmps45
    go_wp2
    all_goals (go_ret; refine ⟨szI ?_, rfl⟩)
    rw [len8_sz (x / 256) h4 h3]
    have e5 : (x / 256).toNat = x.toNat / 256 := by omega
    have e3 : szZ x = 8 + szN (x / 256).toNat := by rw [e5, ← szN_shift (by omega)]; unfold szZ; congr 1; omega
    have e4 := szN_le (m := (x / 256).toNat) (k := 8) (by omega)
    try unfold wrap64
    omega
theorem len_small (x : Int) (w : World) (h0 : 0 ≤ x) (h : x < 65536) :
    Calls Try.prog 43 #[.int .u64 x] w fun e w' => e = .returned (.int .i64 (szZ x : Nat)) ∧ w' = w := by
  have HC := veil (len64_small x w h0 h)
  go_enter Try.func43, Try.ntmps43
  go_wp2_with fail
  refine HC.out.mono ?_
  rintro e w' ⟨rfl, rfl⟩
  go_wp2
  go_ret
  exact ⟨rfl, rfl⟩
/-- What the three functions answer. -/
def eS (n : Int) : Int := if -4095 ≤ n ∧ n ≤ 4095 then 0 else 1
def oS (n : Int) : Int := if -4095 ≤ n ∧ n ≤ 4095 then (szZ n : Nat) else 0
def oV (n : Int) : Int := if -4095 ≤ n ∧ n ≤ 4095 then vbZ n else 0
def eB (w v : Int) : Int := if 0 ≤ w ∧ w ≤ 12 ∧ 0 ≤ v ∧ v < pw w.toNat then 0 else 1
def oB (w v : Int) : Int := if 0 ≤ w ∧ w ≤ 12 ∧ 0 ≤ v ∧ v < pw w.toNat then bkZ w.toNat v else 0
theorem eS_ok {n : Int} (h1 : -4095 ≤ n) (h2 : n ≤ 4095) : eS n = 0 := if_pos ⟨h1, h2⟩
theorem oS_ok {n : Int} (h1 : -4095 ≤ n) (h2 : n ≤ 4095) : oS n = (szZ n : Nat) := if_pos ⟨h1, h2⟩
theorem oV_ok {n : Int} (h1 : -4095 ≤ n) (h2 : n ≤ 4095) : oV n = vbZ n := if_pos ⟨h1, h2⟩
theorem eS_bad {n : Int} (h : ¬ (-4095 ≤ n ∧ n ≤ 4095)) : eS n = 1 := if_neg h
theorem oS_bad {n : Int} (h : ¬ (-4095 ≤ n ∧ n ≤ 4095)) : oS n = 0 := if_neg h
theorem oV_bad {n : Int} (h : ¬ (-4095 ≤ n ∧ n ≤ 4095)) : oV n = 0 := if_neg h
theorem eB_ok {k : Nat} {v : Int} (hk : k ≤ 12) (h1 : 0 ≤ v) (h2 : v < pw k) : eB k v = 0 := if_pos ⟨by omega, by omega, h1, h2⟩
theorem oB_ok {k : Nat} {v : Int} (hk : k ≤ 12) (h1 : 0 ≤ v) (h2 : v < pw k) : oB k v = bkZ k v := if_pos ⟨by omega, by omega, h1, h2⟩
theorem eB_bad {w v : Int} (h : ¬ (0 ≤ w ∧ w ≤ 12 ∧ 0 ≤ v ∧ v < pw w.toNat)) : eB w v = 1 := if_neg h
theorem oB_bad {w v : Int} (h : ¬ (0 ≤ w ∧ w ≤ 12 ∧ 0 ≤ v ∧ v < pw w.toNat)) : oB w v = 0 := if_neg h
theorem eS_two (n : Int) : eS n = 0 ∨ eS n = 1 := by unfold eS; split <;> simp
theorem pow_pw (k : Nat) (h : k ≤ 12) : wrap64 ((2 : Int) ^ k) = pw k ∧ 1 ≤ pw k ∧ pw k ≤ 4096 := by
  have h1 := Nat.pow_le_pow_right (n := 2) (by omega) h
  have h2 := Nat.two_pow_pos k
  have e : ((2 : Int) ^ k) = ((2 ^ k : Nat) : Int) := by simp
  rw [e]
  unfold pw
  exact ⟨wrap64_nat _ (by omega), by omega, by omega⟩
theorem sz_max (n : Int) : szZ (max n (-n)) = szZ n := by
  by_cases h : n ≤ -n
  · rw [Int.max_eq_right h, szZ_neg]
  · rw [Int.max_eq_left (by omega)]
theorem of_ok (n : Int) (w : World) (h1 : -4095 ≤ n) (h2 : n ≤ 4095) :
    Calls Try.prog 39 #[.int .i64 n] w fun e w' => e = .returned (.tuple #[.int .i64 (szZ n : Nat), .int .i64 0]) ∧ w' = w := by
  have HC := veil (len_small (max n (-n)) w (by omega) (by omega))
  rw [sz_max] at HC
  generalize szZ n = s at *
  go_enter Try.func39, Try.ntmps39
  go_wp2_with fail
  refine HC.out.mono ?_
  rintro e w' ⟨rfl, rfl⟩
  go_wp2
  go_ret2
  exact ⟨rfl, rfl⟩
theorem of_lo (n : Int) (w : World) (h : n < -4095) :
    Calls Try.prog 39 #[.int .i64 n] w fun e w' => e = .returned (.tuple #[.int .i64 0, .int .i64 1]) ∧ w' = w := by
  go_enter Try.func39, Try.ntmps39
  go_wp2
  go_ret2
  exact ⟨rfl, rfl⟩
theorem of_hi (n : Int) (w : World) (h : 4095 < n) :
    Calls Try.prog 39 #[.int .i64 n] w fun e w' => e = .returned (.tuple #[.int .i64 0, .int .i64 1]) ∧ w' = w := by
  have h2 : ¬ n < -4095 := by omega
  go_enter Try.func39, Try.ntmps39
  go_wp2
  go_ret2
  exact ⟨rfl, rfl⟩
theorem of_any (n : Int) (w : World) :
    Calls Try.prog 39 #[.int .i64 n] w fun e w' => e = .returned (.tuple #[.int .i64 (oS n), .int .i64 (eS n)]) ∧ w' = w := by
  by_cases h : -4095 ≤ n ∧ n ≤ 4095
  · rw [oS_ok h.1 h.2, eS_ok h.1 h.2]; exact of_ok n w h.1 h.2
  · rw [oS_bad h, eS_bad h]
    by_cases h2 : n < -4095
    · exact of_lo n w h2
    · exact of_hi n w (by omega)
set_option maxHeartbeats 1000000 in
theorem bits_any (n : Int) (w : World) :
    Calls Try.prog 30 #[.int .i64 n] w fun e w' => e = .returned (.tuple #[.int .i64 (oS n), .int .i64 (oV n), .int .i64 (eS n)]) ∧ ∃ q, w' = w.drewN q := by
  have HC := veil (of_any n w)
  by_cases h : -4095 ≤ n ∧ n ≤ 4095
  · obtain ⟨h1, h2⟩ := h
    rw [oS_ok h1 h2, eS_ok h1 h2] at HC
    rw [oS_ok h1 h2, eS_ok h1 h2, oV_ok h1 h2]
    by_cases hn : 0 < n
    · have e : vbZ n = n := if_pos hn
      rw [e]
      generalize szZ n = s at *
      go_enter Try.func30, Try.ntmps30
      go_wp2_with fail
      refine HC.out.mono ?_
      rintro e w' ⟨rfl, rfl⟩
      go_wp2
      go_ret3
      exact ⟨rfl, 0, rfl⟩
    · have e : vbZ n = n + pw (szZ n) - 1 := if_neg hn
      rw [e]
      have hs := sz_12 h1 h2
      have HP := veil (pow_pw (szZ n) hs)
      generalize szZ n = s at *
      go_enter Try.func30, Try.ntmps30
      go_wp2_with fail
      refine HC.out.mono ?_
      rintro e w' ⟨rfl, rfl⟩
      go_wp2
      go_quiet (fail)
      go_wp2
      go_ret3
      refine ⟨ret_three rfl (congrArg (Value.int .i64) ?_) rfl, _, rfl⟩
      rw [HP.out.1]
      have := HP.out.2
      unfold wrap64
      omega
  · rw [oS_bad h, eS_bad h] at HC
    rw [oS_bad h, eS_bad h, oV_bad h]
    go_enter Try.func30, Try.ntmps30
    go_wp2_with fail
    refine HC.out.mono ?_
    rintro e w' ⟨rfl, rfl⟩
    go_wp2
    go_ret3
    exact ⟨rfl, 0, rfl⟩
set_option maxHeartbeats 1000000 in
theorem szBack_in (k : Nat) (v : Int) (w : World) (hk : k ≤ 12) (h1 : 0 ≤ v) (h2 : v < pw k) :
    Calls Try.prog 41 #[.int .i64 (k : Int), .int .i64 v] w fun e w' => e = .returned (.tuple #[.int .i64 (bkZ k v), .int .i64 0]) ∧ w' = w := by
  have HP := veil (pow_pw k hk)
  have h2' := veil h2
  have HB : Hid (bkZ k v = _) := bkZ.eq_1 k v
  have hkz : (k : Int) ≤ 12 := by omega
  clear h2
  generalize bkZ k v = R at *
  go_enter Try.func41, Try.ntmps41
  go_wp2
  all_goals (have e := HP.out.1; have e1 := HP.out.2; have e2 := h2'.out; have e3 := HB.out; clear HP h2' HB)
  all_goals (have e4 : wrap64 (2 * v) = 2 * v := by unfold wrap64; omega)
  all_goals (generalize hq : wrap64 ((2 : Int) ^ k) = P at *)
  all_goals (subst e; rw [e4] at *)
  all_goals first
    | (exfalso; omega)
    | (rw [if_pos (by omega)] at e3; clear hq; go_ret2; exact ⟨ret_two (congrArg (Value.int .i64) e3.symm) rfl, rfl⟩)
    | (rw [if_neg (by omega)] at e3; clear hq; go_ret2; refine ⟨ret_two (congrArg (Value.int .i64) ?_) rfl, rfl⟩; unfold wrap64; omega)
theorem back_lo (n v : Int) (w : World) (h : n < 0) :
    Calls Try.prog 41 #[.int .i64 n, .int .i64 v] w fun e w' => e = .returned (.tuple #[.int .i64 0, .int .i64 1]) ∧ w' = w := by
  go_enter Try.func41, Try.ntmps41
  go_wp2
  go_ret2
  exact ⟨rfl, rfl⟩
theorem back_hi (n v : Int) (w : World) (h : 12 < n) :
    Calls Try.prog 41 #[.int .i64 n, .int .i64 v] w fun e w' => e = .returned (.tuple #[.int .i64 0, .int .i64 1]) ∧ w' = w := by
  have h2 : ¬ n < 0 := by omega
  go_enter Try.func41, Try.ntmps41
  go_wp2
  go_ret2
  exact ⟨rfl, rfl⟩
theorem back_neg (n v : Int) (w : World) (h0 : 0 ≤ n) (h1 : n ≤ 12) (h : v < 0) :
    Calls Try.prog 41 #[.int .i64 n, .int .i64 v] w fun e w' => e = .returned (.tuple #[.int .i64 0, .int .i64 1]) ∧ w' = w := by
  go_enter Try.func41, Try.ntmps41
  go_wp2
  go_ret2
  exact ⟨rfl, rfl⟩
theorem back_big (k : Nat) (v : Int) (w : World) (hk : k ≤ 12) (h1 : 0 ≤ v) (h2 : pw k ≤ v) :
    Calls Try.prog 41 #[.int .i64 (k : Int), .int .i64 v] w fun e w' => e = .returned (.tuple #[.int .i64 0, .int .i64 1]) ∧ w' = w := by
  have HP := veil (pow_pw k hk)
  have h2' := veil h2
  have hkz : (k : Int) ≤ 12 := by omega
  clear h2
  go_enter Try.func41, Try.ntmps41
  go_wp2
  all_goals (have e := HP.out.1; have e1 := HP.out.2; have e2 := h2'.out; clear HP h2')
  all_goals (generalize hq : wrap64 ((2 : Int) ^ k) = P at *)
  all_goals (subst e)
  all_goals first
    | (exfalso; omega)
    | (go_ret2; exact ⟨rfl, rfl⟩)
theorem back_any (n v : Int) (w : World) :
    Calls Try.prog 41 #[.int .i64 n, .int .i64 v] w fun e w' => e = .returned (.tuple #[.int .i64 (oB n v), .int .i64 (eB n v)]) ∧ w' = w := by
  by_cases h0 : n < 0
  · rw [oB_bad (by omega), eB_bad (by omega)]; exact back_lo n v w h0
  · by_cases h1 : 12 < n
    · rw [oB_bad (by omega), eB_bad (by omega)]; exact back_hi n v w h1
    · by_cases h2 : v < 0
      · rw [oB_bad (by omega), eB_bad (by omega)]; exact back_neg n v w (by omega) (by omega) h2
      · obtain ⟨k, rfl⟩ : ∃ k : Nat, n = k := ⟨n.toNat, by omega⟩
        by_cases h3 : v < pw k
        · rw [oB_ok (by omega) (by omega) h3, eB_ok (by omega) (by omega) h3]; exact szBack_in k v w (by omega) (by omega) h3
        · rw [oB_bad (by rw [Int.toNat_natCast]; omega), eB_bad (by rw [Int.toNat_natCast]; omega)]; exact back_big k v w (by omega) (by omega) (by omega)
end Go.Proofs.Ytemckjkdlbipcaa
