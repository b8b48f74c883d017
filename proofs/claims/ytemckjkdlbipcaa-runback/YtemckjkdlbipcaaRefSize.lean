/- The reference's power, SizeBits and SizeBack: their contracts. -/
import Derived.Test.YtemckjkdlbipcaaSizeOf
import Derived.Test.YtemckjkdlbipcaaOutside
import Derived.Deep.LoopGhost
namespace Go.Proofs.Ytemckjkdlbipcaa
open Go.RowKit
set_option linter.unusedVariables false
set_option linter.unusedSimpArgs false
set_option maxRecDepth 100000

theorem powr_any (k : Nat) (w : World) (h : k ≤ 24) : Calls Try.prog 40 #[.int .i64 k] w fun e w' => e = .returned (.int .i64 (pw k)) ∧ w' = w := by
  go_enter Try.func40, Try.ntmps40
  go_wp2
  go_ret
  refine ⟨?_, rfl⟩
  have h1 : 2 ^ k ≤ 2 ^ 24 := two_pow_lt _ _ h
  have e : wrap64 ((2 : Int) ^ k) = ((2 ^ k : Nat) : Int) := by rw [show ((2 : Int) ^ k) = ((2 ^ k : Nat) : Int) by simp]; exact wrap64_nat _ (by omega)
  exact congrArg (fun x => Ending.returned (.int .i64 x)) e
theorem pw_le_of {n : Int} {k : Nat} (h : k < szZ n) : pw k ≤ max n (-n) := by
  have h0 : n ≠ 0 := by intro e; subst e; rw [szZ_zero] at h; omega
  have h1 := szZ_ge h0
  have h2 := pw_mono (a := k + 1) (b := szZ n) (by omega)
  rw [pw_succ] at h2
  omega
theorem vb_ref (n : Int) : vbZ n = if n < 0 then n + pw (szZ n) - 1 else n := by
  unfold vbZ
  rcases Int.lt_trichotomy n 0 with h | h | h
  · rw [if_neg (by omega), if_pos h]
  · subst h; rfl
  · rw [if_pos h, if_neg (by omega)]
set_option maxHeartbeats 1000000 in
theorem refBits_ok (n : Int) (w : World) (h1 : -4095 ≤ n) (h2 : n ≤ 4095) :
    Calls Try.prog 32 #[.int .i64 n] w fun e w' => e = .returned (.tuple #[.int .i64 (szZ n : Nat), .int .i64 (vbZ n), .int .i64 0]) ∧ w' = w := by
  have HO := veil (out_no n (-4095) 4095 ⟨h1, h2⟩ w)
  have HV := veil (vb_ref n)
  have hs := sz_12 h1 h2
  have HL : Hid (∀ k, k < szZ n → pw k ≤ max n (-n)) := fun k h => pw_le_of h
  have HG : Hid (max n (-n) < pw (szZ n)) := by show _ < _; have := szZ_lt n; omega
  have HP : Hid (∀ k W, k ≤ 12 → _) := fun k W (h : k ≤ 12) => powr_any k W (by omega)
  have HB := veil (pow_pw (szZ n) hs).2
  generalize vbZ n = V at *
  generalize szZ n = s at *
  go_enter Try.func32, Try.ntmps32
  go_wp2_with fail
  refine HO.out.mono ?_
  rintro e w' ⟨rfl, rfl⟩
  go_wp2_with fail
  go_loopg [5] s (fun gk i wr => ∃ k : Nat, gk = s - k ∧ k ≤ s ∧ i = .int .i64 (k : Int) ∧ wr = w')
  case atStart => exact ⟨0, rfl, by omega, rfl, rfl⟩
  case round =>
    obtain ⟨k, rfl, hk, rfl, rfl⟩ := hrel
    have HQ := veil (HP.out k wr (by omega))
    by_cases hlt : k < s
    · have h3 := HL.out k hlt
      go_wp2_with fail
      refine HQ.out.mono ?_
      rintro e w1 ⟨rfl, rfl⟩
      go_wp2
      go_roundg (s - (k + 1))
      case rel => exact ⟨k + 1, rfl, by omega, by go_num, rfl⟩
      case measure => omega
    · obtain rfl : k = s := by omega
      have h3 := HG.out
      go_wp2_with fail
      refine HQ.out.mono ?_
      rintro e w1 ⟨rfl, rfl⟩
      by_cases hn : n < 0
      · go_wp2_with fail
        refine HQ.out.mono ?_
        rintro e w2 ⟨rfl, rfl⟩
        go_wp2
        go_ret3
        refine ⟨ret_three rfl (congrArg (Value.int .i64) ?_) rfl, rfl⟩
        rw [HV.out, if_pos hn]
        have := HB.out
        unfold wrap64
        omega
      · go_wp2
        go_ret3
        refine ⟨ret_three rfl (congrArg (Value.int .i64) ?_) rfl, rfl⟩
        rw [HV.out, if_neg (by omega)]
theorem refBits_bad (n : Int) (w : World) (h : ¬ (-4095 ≤ n ∧ n ≤ 4095)) :
    Calls Try.prog 32 #[.int .i64 n] w fun e w' => e = .returned (.tuple #[.int .i64 0, .int .i64 0, .int .i64 1]) ∧ w' = w := by
  have HO := veil (out_yes n (-4095) 4095 (by omega) w)
  go_enter Try.func32, Try.ntmps32
  go_wp2_with fail
  refine HO.out.mono ?_
  rintro e w' ⟨rfl, rfl⟩
  go_wp2
  go_ret3
  exact ⟨rfl, rfl⟩
theorem refBits_any (n : Int) (w : World) :
    Calls Try.prog 32 #[.int .i64 n] w fun e w' => e = .returned (.tuple #[.int .i64 (oS n), .int .i64 (oV n), .int .i64 (eS n)]) ∧ w' = w := by
  by_cases h : -4095 ≤ n ∧ n ≤ 4095
  · rw [oS_ok h.1 h.2, eS_ok h.1 h.2, oV_ok h.1 h.2]; exact refBits_ok n w h.1 h.2
  · rw [oS_bad h, eS_bad h, oV_bad h]; exact refBits_bad n w h
/-- Which of the two numbers is told. -/
theorem two_first {k : Nat} {v : Int} (h0 : 0 ≤ v) (h1 : v < pw k) (h : szZ v = k) : bkZ k v = v := by
  have e : vbZ v = v := by rw [vb_ref, if_neg (by omega)]
  have := bk_vb v
  rw [e, h] at this
  exact this
theorem two_second {k : Nat} {v : Int} (h0 : 0 ≤ v) (h1 : v < pw k) (h : szZ v ≠ k) : bkZ k v = v - pw k + 1 := by
  unfold bkZ
  rw [if_neg]
  intro h2
  have e := sz_bk h0 h1
  unfold bkZ at e
  rw [if_pos h2] at e
  exact h e
theorem two_cells (w : World) (a b : Value) (t : TypeId) : (w.alloc (.cells #[a, b] t)).cell? ⟨w.heap.size, 0, none⟩ = some a ∧ (w.alloc (.cells #[a, b] t)).cell? ⟨w.heap.size, 1, none⟩ = some b := by
  rcases Seen.new w [a, b] t (w.heap.size + 1) (by omega) with h | ⟨g, o, e, _, h⟩
  · cases h
  · obtain ⟨rfl, rfl⟩ : w.heap.size = g ∧ 0 = o := by simpa using e
    exact ⟨h 0 a rfl, h 1 b rfl⟩
set_option maxHeartbeats 2000000 in
set_option maxRecDepth 100000 in
theorem refBack_in (k : Nat) (v : Int) (w : World) (hk : k ≤ 12) (h1 : 0 ≤ v) (h2 : v < pw k) :
    Calls Try.prog 36 #[.int .i64 (k : Int), .int .i64 v] w fun e w' => e = .returned (.tuple #[.int .i64 (bkZ k v), .int .i64 0]) ∧ Below w.heap.size w w' := by
  have hp := (pow_pw k hk).2
  have HO1 := veil (out_no (k : Int) 0 12 ⟨by omega, by omega⟩ w)
  have HP := veil (fun W => powr_any k W (by omega))
  have HO2 := veil (out_no v 0 (pw k - 1) ⟨h1, by omega⟩ w)
  have H1 := veil (fun W => refBits_ok v W (by omega) (by omega))
  have H2 := veil (fun W => refBits_ok (v - pw k + 1) W (by omega) (by omega))
  have HE1 : Hid (szZ v = k → v = bkZ k v) := fun h => (two_first h1 h2 h).symm
  have HE2 : Hid (szZ v ≠ k → v - pw k + 1 = bkZ k v) := fun h => (two_second h1 h2 h).symm
  have HE3 : Hid (szZ (bkZ k v) = k ∧ vbZ (bkZ k v) = v) := ⟨sz_bk h1 h2, vb_bk h1 h2⟩
  have HV1 : Hid (vbZ v = v) := by show _ = _; rw [vb_ref, if_neg (by omega)]
  have hb := below1 w (.cells (ints .i64 [v, v - pw k + 1]).toArray 3)
  have hc : (w.alloc (.cells (ints .i64 [v, v - pw k + 1]).toArray 3)).cell? ⟨w.heap.size, 0, none⟩ = some (.int .i64 v) ∧ (w.alloc (.cells (ints .i64 [v, v - pw k + 1]).toArray 3)).cell? ⟨w.heap.size, 1, none⟩ = some (.int .i64 (v - pw k + 1)) := two_cells w _ _ _
  generalize bkZ k v = R at *
  go_enter Try.func36, Try.ntmps36
  go_wp2_with fail
  refine HO1.out.mono ?_
  rintro e w' ⟨rfl, rfl⟩
  go_wp2_with fail
  refine (HP.out _).mono ?_
  rintro e w1 ⟨rfl, rfl⟩
  go_wp2_with fail
  refine HO2.out.mono ?_
  rintro e w2 ⟨rfl, rfl⟩
  go_wp2_with fail
  refine (HP.out _).mono ?_
  rintro e w3 ⟨rfl, rfl⟩
  clear HO1 HO2 HP
  go_wp2_with fail
  go_loopg [28] 2 (fun gk i wr => ((gk = 2 ∧ i = .int .i64 0) ∨ (gk = 1 ∧ i = .int .i64 1 ∧ Hid (szZ v ≠ k))) ∧ wr.cell? ⟨w3.heap.size, 0, none⟩ = some (.int .i64 v) ∧ wr.cell? ⟨w3.heap.size, 1, none⟩ = some (.int .i64 (v - pw k + 1)) ∧ Below w3.heap.size w3 wr)
  case atStart => exact ⟨.inl ⟨rfl, rfl⟩, hc.1, hc.2, hb⟩
  case round =>
    obtain ⟨hi, hc0, hc1, hbw⟩ := hrel
    clear hb hc
    rcases hi with ⟨rfl, rfl⟩ | ⟨rfl, rfl, Hne⟩
    · go_wp2_with fail
      refine (H1.out _).mono ?_
      rintro e w4 ⟨rfl, rfl⟩
      by_cases hz : szZ v = k
      · have hR := HE1.out hz
        have hv := HV1.out
        rw [hv, hz]
        clear hz hv HE2 HE3 HV1 H1 H2
        subst hR
        go_wp2
        go_ret2
        exact ⟨rfl, hbw⟩
      · have hzz : ¬ ((szZ v : Nat) : Int) = (k : Int) := by omega
        have HZ := veil hz
        clear hz
        go_wp2
        go_roundg 1
        case rel => exact ⟨.inr ⟨rfl, rfl, HZ⟩, hc0, hc1, hbw⟩
        case measure => omega
    · have hR := HE2.out Hne.out
      obtain ⟨h3, h4⟩ := HE3.out
      rw [hR] at hc1 H2
      rw [h3, h4] at H2
      clear hc0 HE2 hR
      go_wp2_with fail
      refine (H2.out _).mono ?_
      rintro e w4 ⟨rfl, rfl⟩
      go_wp2
      go_ret2
      exact ⟨rfl, hbw⟩
theorem refBack_bad1 (n v : Int) (w : World) (h : n < 0 ∨ 12 < n) :
    Calls Try.prog 36 #[.int .i64 n, .int .i64 v] w fun e w' => e = .returned (.tuple #[.int .i64 0, .int .i64 1]) ∧ Below w.heap.size w w' := by
  have HO1 := veil (out_yes n 0 12 h w)
  clear h
  go_enter Try.func36, Try.ntmps36
  go_wp2_with fail
  refine HO1.out.mono ?_
  rintro e w' ⟨rfl, rfl⟩
  go_wp2
  go_ret2
  exact ⟨rfl, Below.refl _ _⟩
theorem refBack_bad2 (k : Nat) (v : Int) (w : World) (hk : k ≤ 12) (h : v < 0 ∨ pw k ≤ v) :
    Calls Try.prog 36 #[.int .i64 (k : Int), .int .i64 v] w fun e w' => e = .returned (.tuple #[.int .i64 0, .int .i64 1]) ∧ Below w.heap.size w w' := by
  have hp := (pow_pw k hk).2
  have HO1 := veil (out_no (k : Int) 0 12 ⟨by omega, by omega⟩ w)
  have HP := veil (fun W => powr_any k W (by omega))
  have HO2 := veil (out_yes v 0 (pw k - 1) (by omega) w)
  clear h
  go_enter Try.func36, Try.ntmps36
  go_wp2_with fail
  refine HO1.out.mono ?_
  rintro e w' ⟨rfl, rfl⟩
  go_wp2_with fail
  refine (HP.out _).mono ?_
  rintro e w1 ⟨rfl, rfl⟩
  go_wp2_with fail
  refine HO2.out.mono ?_
  rintro e w2 ⟨rfl, rfl⟩
  go_wp2
  go_ret2
  exact ⟨rfl, Below.refl _ _⟩
theorem refBack_any (n v : Int) (w : World) :
    Calls Try.prog 36 #[.int .i64 n, .int .i64 v] w fun e w' => e = .returned (.tuple #[.int .i64 (oB n v), .int .i64 (eB n v)]) ∧ Below w.heap.size w w' := by
  by_cases h0 : n < 0 ∨ 12 < n
  · rw [oB_bad (by omega), eB_bad (by omega)]; exact refBack_bad1 n v w h0
  · obtain ⟨k, rfl⟩ : ∃ k : Nat, n = k := ⟨n.toNat, by omega⟩
    by_cases h3 : 0 ≤ v ∧ v < pw k
    · rw [oB_ok (by omega) h3.1 h3.2, eB_ok (by omega) h3.1 h3.2]; exact refBack_in k v w (by omega) h3.1 h3.2
    · rw [oB_bad (by rw [Int.toNat_natCast]; omega), eB_bad (by rw [Int.toNat_natCast]; omega)]; exact refBack_bad2 k v w (by omega) (by omega)
end Go.Proofs.Ytemckjkdlbipcaa
