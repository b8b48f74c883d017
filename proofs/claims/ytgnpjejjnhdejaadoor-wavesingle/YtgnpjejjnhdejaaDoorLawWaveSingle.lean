/- The law WaveSingle, walked: one wave alone is as both its sides say. -/
import Derived.Test.YtgnpjejjnhdejaaDoorWLaw
import Derived.Test.YtgnpjejjnhdejaaDoorRefQ
namespace Go.Proofs.YtgnpjejjnhdejaaDoor
open Go.RowKit
set_option linter.unusedVariables false
set_option linter.unusedSimpArgs false

/-- One number alone. -/
def oneAt (p : Nat) (m : Int) : List Int := zero64.set p m
theorem oneAt_length (p : Nat) (m : Int) : (oneAt p m).length = 64 := by rw [oneAt, List.length_set, zero64_length]
theorem oneAt_same {p : Nat} (hp : p < 64) (m : Int) : (oneAt p m).getD p 0 = m := by
  rw [List.getD_eq_getElem?_getD, oneAt, List.getElem?_set_self (by rw [zero64_length]; exact hp)]; rfl
theorem oneAt_other {p k : Nat} (m : Int) (hk : k < 64) (h : k ≠ p) : (oneAt p m).getD k 0 = 0 := by
  rw [List.getD_eq_getElem?_getD, oneAt, List.getElem?_set_ne (fun e => h e.symm), zero64, List.getElem?_replicate, if_pos hk]; rfl
theorem oneAt_bad {p : Nat} (hp : p < 64) {m : Int} (h1 : -40000 ≤ m) (h2 : m ≤ 40000) : badB (-40000) 40000 (oneAt p m) = 0 := by
  unfold badB
  rw [if_pos]
  rw [getD_mem (oneAt_length p m)]
  intro k hk
  by_cases e : k = p
  · rw [e, oneAt_same hp]; exact ⟨h1, h2⟩
  · rw [oneAt_other m hk e]; omega
theorem oneAt_fr {p : Nat} (hp : p < 64) {m : Int} (h1 : -40000 ≤ m) (h2 : m ≤ 40000) {i : Nat} (hi : i < 64) : (oFr (oneAt p m))[i]? = some (rnd (m * cW (p % 8) (i % 8) * cW (p / 8) (i / 8)) 67108864) := by
  rw [oFr_ok (oneAt_bad hp h1 h2), wFr_at _ hi, frN_one hp (fun k hk h => oneAt_other m hk h), oneAt_same hp, Int.mul_assoc]
set_option maxHeartbeats 4000000 in
set_option maxRecDepth 100000 in
theorem waveSingle_walk (a b : Int) (w : World) (Q : Quart w) (ha : -9223372036854775808 ≤ a ∧ a ≤ 9223372036854775807) (hb : -9223372036854775808 ≤ b ∧ b ≤ 9223372036854775807) :
    Calls Tryd.prog 14 #[.int .i64 a, .int .i64 b] w fun e w' => e = .returned (.bool true) ∧ Below w.heap.size w w' := by
  have hn0 := Nat.le_refl w.heap.size
  have HK := veil (waved_any w Q)
  have R1 := veil (fun W => rest_any a 64 W (by omega) (by omega) ha)
  have R2 := veil (fun W => rest_any b 80001 W (by omega) (by omega) hb)
  obtain ⟨p, hp⟩ := Int.eq_ofNat_of_zero_le (show 0 ≤ a % 64 by omega)
  have hp64 : p < 64 := by omega
  obtain ⟨m, hm⟩ : ∃ m, m = b % 80001 - 40000 := ⟨_, rfl⟩
  have hm1 : -40000 ≤ m := by omega
  have hm2 : m ≤ 40000 := by omega
  rw [hp] at R1
  rw [show b % 80001 = m + 40000 by omega] at R2
  clear hp hm ha hb
  have hwm : wrap64 (m + 40000 - 40000) = m := by unfold wrap64; omega
  have hwm2 : wrap64 m = m := by unfold wrap64; omega
  have L1 : Hid ((ints .i64 (oFr (oneAt p m))).length = 64) := by show _ = _; rw [ints_length, oFr_length]
  have O1 := ints_one (k := .i64) (l := oFr (oneAt p m))
  have Hlm : Hid ((ints .i64 (oneAt p m)).length = 64) := by show _ = _; rw [ints_length, oneAt_length]
  have C1 := veil (fun W hQ => from_any (oneAt p m) W (oneAt_length p m) hQ)
  rw [oneAt_bad hp64 hm1 hm2] at C1
  have HB : Hid (∀ (i : Nat) (W : World), i < 64 → Quart W → (Calls Tryd.prog 15 #[.int .i64 ((p % 8 : Nat) : Int), .int .i64 ((i % 8 : Nat) : Int)] W fun e w' => e = .returned (.tuple #[.int .i64 (cW (p % 8) (i % 8)), .int .i64 0]) ∧ w' = W) ∧ (Calls Tryd.prog 15 #[.int .i64 ((p / 8 : Nat) : Int), .int .i64 ((i / 8 : Nat) : Int)] W fun e w' => e = .returned (.tuple #[.int .i64 (cW (p / 8) (i / 8)), .int .i64 0]) ∧ w' = W)) := fun i W hi hQ => ⟨basis_in _ _ W (by omega) (by omega) hQ, basis_in _ _ W (by omega) (by omega) hQ⟩
  have HF : Hid (∀ i, i < 64 → ∃ c d r : Int, cW (p % 8) (i % 8) = c ∧ cW (p / 8) (i / 8) = d ∧ (ints .i64 (oFr (oneAt p m)))[i]? = some (.int .i64 r) ∧ IntKind.i64.wrap (m * c) = m * c ∧ IntKind.i64.wrap (m * c * d) = m * c * d ∧ ∀ W, Calls Tryd.prog 24 #[.int .i64 (m * c * d), .int .i64 67108864] W fun e w' => e = .returned (.int .i64 r) ∧ w' = W) := by
    intro i hi
    have h1 := cW_abs (p % 8) (i % 8)
    have q1 : absZ (m * cW (p % 8) (i % 8)) ≤ 40000 * 4096 := by
      rw [absZ_mul]; exact mul_le_mulZ (absZ_le.2 ⟨hm2, hm1⟩) (absZ_le.2 ⟨h1.2, h1.1⟩) (absZ_nonneg _) (by omega)
    have q2 : absZ (m * cW (p % 8) (i % 8) * cW (p / 8) (i / 8)) ≤ 40000 * 16777216 := by
      rw [Int.mul_assoc, absZ_mul]; exact mul_le_mulZ (absZ_le.2 ⟨hm2, hm1⟩) (cc_abs (cW_abs _ _) (cW_abs _ _)) (absZ_nonneg _) (by omega)
    have q3 := absZ_le.1 q1
    have q4 := absZ_le.1 q2
    exact ⟨_, _, _, rfl, rfl, ints_at (oneAt_fr hp64 hm1 hm2 hi), wrapK (by omega) (by omega), wrapK (by omega) (by omega), fun W => refRound_any _ _ W (by omega) (by omega) (by omega) (by omega)⟩
  have HS : Hid (zeroB.set p (.int .i64 m) = ints .i64 (oneAt p m)) := by show _ = _; unfold oneAt; simp [ints, List.map_set, zeroB, zero64]
  have hz0 : zeroB[p]? = some (.int .i64 0) := by
    rw [zeroB]; exact ints_at (by rw [List.getElem?_replicate, if_pos hp64])
  have hpz : (p : Int) < 64 := by omega
  unfold blkV at *
  generalize ints .i64 (oFr (oneAt p m)) = m1 at *
  generalize ints .i64 (oneAt p m) = xs at *
  go_enter Tryd.func14, Tryd.ntmps14
  go_wp2_with fail
  refine HK.out.mono ?_
  rintro e w0 ⟨rfl, hb0⟩
  go_wp2_with fail
  refine (R1.out _).mono ?_
  rintro e w1 ⟨rfl, rfl⟩
  go_wp2_with fail
  refine (R2.out _).mono ?_
  rintro e w1 ⟨rfl, rfl⟩
  clear R1 R2 HK
  have hbA := hb0.trans ((below1 w0 (.cells (zeroB.set p (.int .i64 m)).toArray 28)).mono hb0.size)
  have hB := Blk.new w0 zeroB 28
  have hc0 := hB.cell hz0
  have hf0 := hB.frozen p
  have HB2 : Hid (Blk (w0.alloc (.cells (zeroB.set p (.int .i64 m)).toArray 28)) w0.heap.size xs 28) := by
    have := Blk.new w0 (zeroB.set p (.int .i64 m)) 28
    rw [HS.out] at this ⊢
    exact this
  have HbA := veil hbA
  have C1' := veil (C1.out _ (Q.after hbA))
  clear C1 hB hz0 HS hbA
  go_wp2_with (first
    | (refine wpList_load_mid rfl 28 (.tmp 5) rfl (w0.heap.size) 0 rfl xs _ HB2.out.range Tryd.underlying28 rfl (info_blkn Hlm.out) ?_)
    | fail)
  refine C1'.out.mono ?_
  rintro e w2 ⟨rfl, hb2⟩
  have K3 := veil (Blk.new w2 m1 28)
  have hbv := below_step HbA.out hn0 hb2 (.cells m1.toArray 28)
  clear C1' HbA hb0 hb2 hc0 hf0 HB2
  go_upto_region 7 with (first
    | (refine wpList_store_new w2 rfl 28 (.tmp 6) (.tmp 26) rfl _ m1 rfl rfl (info_blkn L1.out) (by rw [L1.out]; rfl) O1 ?_)
    | fail)
  go_wp2_with fail
  go_loopg [30] 64 (fun gk i wr => ∃ k : Nat, gk = 64 - k ∧ k ≤ 64 ∧ i = .int .i64 (k : Int) ∧ Hid (Blk wr w2.heap.size m1 28) ∧ Below w.heap.size w wr)
  case atStart => exact ⟨0, rfl, by omega, rfl, K3, hbv⟩
  case round =>
    clear K3 hbv
    obtain ⟨k, rfl, hk, rfl, G1, hbr⟩ := hrel
    by_cases hlt : k < 64
    · have hltz : (k : Int) < 64 := by omega
      obtain ⟨c, d, r, hc, hd, h1, hw1, hw2, HR⟩ := HF.out k hlt
      obtain ⟨HB1, HB2⟩ := HB.out k wr hlt (Q.after hbr)
      rw [hc] at HB1
      rw [hd] at HB2
      have HB1' := veil HB1
      have HB2' := veil HB2
      have HR' := veil HR
      have hc1 := G1.out.cell h1
      have t1 : (k : Int).tmod 8 = ((k % 8 : Nat) : Int) := by rw [Int.tmod_eq_emod_of_nonneg (by omega)]; omega
      have t2 : (k : Int).tdiv 8 = ((k / 8 : Nat) : Int) := by rw [Int.tdiv_eq_ediv_of_nonneg (by omega)]; omega
      have t3 : (p : Int).tmod 8 = ((p % 8 : Nat) : Int) := by rw [Int.tmod_eq_emod_of_nonneg (by omega)]; omega
      have t4 : (p : Int).tdiv 8 = ((p / 8 : Nat) : Int) := by rw [Int.tdiv_eq_ediv_of_nonneg (by omega)]; omega
      have s1 : (k : Int) % 8 = ((k % 8 : Nat) : Int) := by omega
      have s2 : (k : Int) / 8 = ((k / 8 : Nat) : Int) := by omega
      have s3 : (p : Int) % 8 = ((p % 8 : Nat) : Int) := by omega
      have s4 : (p : Int) / 8 = ((p / 8 : Nat) : Int) := by omega
      clear HF HB h1 HB1 HB2 HR hc hd
      generalize k % 8 = k1 at *
      generalize k / 8 = k2 at *
      generalize p % 8 = p1 at *
      generalize p / 8 = p2 at *
      go_wp2_with fail
      refine HB1'.out.mono ?_
      rintro e w5 ⟨rfl, rfl⟩
      go_wp2_with fail
      refine HB2'.out.mono ?_
      rintro e w5 ⟨rfl, rfl⟩
      go_wp2_with fail
      go_quiet (first | (go_at_call 24; with_reducible exact Calls.quiet_of_same (HR'.out _)) | fail)
      go_wp2_with fail
      go_roundg (64 - (k + 1))
      case rel => exact ⟨k + 1, rfl, by omega, by go_num, veil (G1.out.drewN _), hbr.drewN _⟩
      case measure => omega
    · obtain rfl : k = 64 := by omega
      go_wp2
      go_ret
      exact ⟨rfl, hbr⟩
end Go.Proofs.YtgnpjejjnhdejaaDoor
