/- The law on two percentages, walked. -/
import Derived.Test.YtpbeehalicmdjaaQNum
import Derived.Test.YtpbeehalicmdjaaQScale
import Derived.Test.YtpbeehalicmdjaaRest
import Derived.Deep.Cut
namespace Go.Proofs.Ytpbeehalicmdjaa
open Go.RowKit
set_option linter.unusedVariables false
set_option linter.unusedSimpArgs false

theorem scale_Ep {qs : List Int} {p : Int} (h1 : 1 ≤ p) (h2 : p ≤ 1000) : eScale qs p = badB 1 255 qs := by
  unfold eScale badB
  by_cases h : inB 1 255 qs = true <;> simp [h, h1, h2]
theorem bad_ok {lo hi : Int} {cs : List Int} (h : badB lo hi cs = 0) : inB lo hi cs = true := by unfold badB at h; split at h; assumption; cases h
theorem bad_of {lo hi : Int} {cs : List Int} (h : inB lo hi cs = true) : badB lo hi cs = 0 := by unfold badB; rw [if_pos h]
/-- Two percentages of one block, number by number. -/
theorem scaled_at {qs : List Int} (hq : qs.length = 64) {p r : Int} (h1 : 1 ≤ p) (h2 : p ≤ r) (h3 : r ≤ 1000) (h : badB 1 255 qs = 0) (k : Nat) (hk : k < 64) :
    ∃ x y : Int, (ints .i64 (oScale qs p))[k]? = some (.int .i64 x) ∧ (ints .i64 (oScale qs r))[k]? = some (.int .i64 y) ∧ 1 ≤ x ∧ x ≤ y ∧ y ≤ 255 := by
  obtain ⟨n, hn⟩ := some_at (xs := qs) (j := k) (by omega)
  have hb := inB_at (bad_ok h) hn
  refine ⟨fScale p k n, fScale r k n, ints_at ?_, ints_at ?_, (clampZ_in (by omega)).1, clampZ_mono (rnd_mono (by omega) ?_) (by omega), (clampZ_in (by omega)).2⟩
  · rw [oScale_ok (by rw [scale_Ep h1 (by omega)]; exact h), mapL_at hk hn]
  · rw [oScale_ok (by rw [scale_Ep (by omega) h3]; exact h), mapL_at hk hn]
  · exact Int.mul_le_mul_of_nonneg_left h2 (by omega)
theorem scaled_check {qs : List Int} {p : Int} (h1 : 1 ≤ p) (h2 : p ≤ 1000) (h : badB 1 255 qs = 0) : badB 1 255 (oScale qs p) = 0 := by
  rw [oScale_ok (by rw [scale_Ep h1 h2]; exact h)]; exact bad_of scale_in
set_option maxHeartbeats 4000000 in
set_option maxRecDepth 100000 in
theorem quantScaled_lt (qs : List Int) (a b : Int) (w : World) (hq : qs.length = 64) (ha : -9223372036854775808 ≤ a ∧ a ≤ 9223372036854775807) (hb : -9223372036854775808 ≤ b ∧ b ≤ 9223372036854775807) (hab : a % 1000 < b % 1000) :
    Calls Try.prog 11 #[blkV qs, .int .i64 a, .int .i64 b] w fun e w' => e = .returned (.bool true) ∧ Below w.heap.size w w' := by
  have HB0 := Blk.new w (ints .i64 qs) 23
  have hb3 := below1 w (.cells (ints .i64 qs).toArray 23)
  have hz3 : (w.alloc (.cells (ints .i64 qs).toArray 23)).heap.size = w.heap.size + 1 := by simp
  have Hlq : Hid ((ints .i64 qs).length = 64) := by show _ = _; rw [ints_length, hq]
  have HK := veil (coarse_any (w.alloc (.cells (ints .i64 qs).toArray 23)))
  have HR1 := veil (fun W => rest_any a 1000 W (by omega) (by omega) ha)
  have HR2 := veil (fun W => rest_any b 1000 W (by omega) (by omega) hb)
  have hA1 := Int.emod_nonneg a (show (1000 : Int) ≠ 0 by omega)
  have hA2 := Int.emod_lt_of_pos a (show (0 : Int) < 1000 by omega)
  have hB1 := Int.emod_nonneg b (show (1000 : Int) ≠ 0 by omega)
  have hB2 := Int.emod_lt_of_pos b (show (0 : Int) < 1000 by omega)
  generalize a % 1000 = A at *
  generalize b % 1000 = B at *
  have HS1 := veil (fun W => scale_any qs (A + 1) W hq)
  have HS2 := veil (fun W => scale_any qs (B + 1) W hq)
  rw [scale_Ep (by omega) (by omega)] at HS1 HS2
  have Hl1 : Hid ((ints .i64 (oScale qs (A + 1))).length = 64) := by show _ = _; rw [ints_length, oScale_length]
  have Hl2 : Hid ((ints .i64 (oScale qs (B + 1))).length = 64) := by show _ = _; rw [ints_length, oScale_length]
  have hone1 := ints_one (k := .i64) (l := oScale qs (A + 1))
  have hone2 := ints_one (k := .i64) (l := oScale qs (B + 1))
  have HF : Hid (badB 1 255 qs = 0 → ∀ k, k < 64 → _) := fun h => scaled_at hq (p := A + 1) (r := B + 1) (by omega) (by omega) (by omega) h
  have HC := veil (fun W => qcheck_any (oScale qs (A + 1)) W (oScale_length _ _))
  have HC0 : Hid (badB 1 255 qs = 0 → badB 1 255 (oScale qs (A + 1)) = 0) := scaled_check (by omega) (by omega)
  have HE2 : Hid (badB 1 255 qs = 0 ∨ badB 1 255 qs = 1) := by show _ ∨ _; unfold badB; split <;> simp
  have HZ1 : Hid (badB 1 255 qs = 1 → ints .i64 (oScale qs (A + 1)) = zeroB) := fun h => oScale_err (by rw [scale_Ep (by omega) (by omega), h]; omega)
  have HZ2 : Hid (badB 1 255 qs = 1 → ints .i64 (oScale qs (B + 1)) = zeroB) := fun h => oScale_err (by rw [scale_Ep (by omega) (by omega), h]; omega)
  have heq : ∀ u, (binOp .eql 23 (.agg zeroB.toArray) (.agg zeroB.toArray)).run Try.prog u = .ok (.bool true) u := fun u => blk_same zero64 zero64_length u
  generalize badB 1 255 (oScale qs (A + 1)) = e3 at *
  unfold blkV at *
  generalize ints .i64 (oScale qs (A + 1)) = us at *
  generalize ints .i64 (oScale qs (B + 1)) = vs at *
  generalize badB 1 255 qs = e2 at *
  generalize ints .i64 qs = ys at *
  go_enter Try.func11, Try.ntmps11
  go_wp2_with fail
  refine HK.out.mono ?_
  rintro e w0 ⟨rfl, hb0⟩
  have hz0 := hb0.size
  rw [hz3] at hz0
  have B0 := HB0.below hb0 (by rw [hz3]; omega)
  have hbw := hb3.trans (hb0.mono (by rw [hz3]; omega))
  have r0 := B0.range
  clear HK HB0 hb3 hz3 hb0
  go_wp2_with fail
  refine (HR1.out _).mono ?_
  rintro e w1 ⟨rfl, rfl⟩
  go_wp2_with fail
  refine (HR2.out _).mono ?_
  rintro e w1 ⟨rfl, rfl⟩
  clear HR1 HR2
  go_wp2_with (first
    | (refine wpList_load_mid rfl 23 (.tmp 3) rfl w.heap.size 0 rfl ys _ r0 Try.underlying23 rfl (info_blkn Hlq.out) ?_)
    | fail)
  refine (HS1.out _).mono ?_
  rintro e w1 ⟨rfl, hb1⟩
  have hz1 := hb1.size
  have B0' := (B0.below hb1 (by omega)).below (below1 w1 (.cells us.toArray 23)) (by omega)
  have B1' := Blk.new w1 us 23
  have r0' := B0'.range
  have hbw1 := (hbw.trans (hb1.mono hbw.size)).trans ((below1 w1 (.cells us.toArray 23)).mono (show w.heap.size ≤ w1.heap.size by omega))
  have hzw : (w1.alloc (.cells us.toArray 23)).heap.size = w1.heap.size + 1 := by simp
  clear r0 B0 hb1 hbw HS1 B0'
  go_wp2_with (first
    | (refine wpList_store_new w1 rfl 23 (.tmp 7) (.tmp 26) rfl zeroB.toArray us rfl rfl (info_blkn Hl1.out) (by rw [Hl1.out]; rfl) hone1 ?_)
    | (refine wpList_load_mid rfl 23 (.tmp 3) rfl w.heap.size 0 rfl ys _ r0' Try.underlying23 rfl (info_blkn Hlq.out) ?_)
    | fail)
  refine (HS2.out _).mono ?_
  rintro e w2 ⟨rfl, hb2⟩
  have hz2 := hb2.size
  rw [hzw] at hz2
  have C1 := veil ((B1'.below hb2 (by omega)).below (below1 w2 (.cells vs.toArray 23)) (by omega))
  have C2 := veil (Blk.new w2 vs 23)
  have hbw2 := (hbw1.trans (hb2.mono hbw1.size)).trans ((below1 w2 (.cells vs.toArray 23)).mono (show w.heap.size ≤ w2.heap.size by omega))
  clear r0' B1' hb2 hbw1 hzw HS2
  go_upto_region 6 with (first
    | (refine wpList_store_new w2 rfl 23 (.tmp 9) (.tmp 34) rfl zeroB.toArray vs rfl rfl (info_blkn Hl2.out) (by rw [Hl2.out]; rfl) hone2 ?_)
    | fail)
  rcases HE2.out with h2 | h2
  · subst h2
    have HF' := veil (HF.out rfl)
    have h3 := HC0.out rfl
    subst h3
    clear HF HC0 HZ1 HZ2 HE2
    go_wp2_with fail
    go_loopg [50] 64 (fun gk i wr => ∃ k : Nat, gk = 64 - k ∧ k ≤ 64 ∧ i = .int .i64 (k : Int) ∧ Hid (Blk wr w1.heap.size us 23) ∧ Hid (Blk wr w2.heap.size vs 23) ∧ Below w.heap.size w wr)
    case atStart => exact ⟨0, rfl, by omega, rfl, C1, C2, hbw2⟩
    case round =>
      clear C1 C2 hbw2
      obtain ⟨k, rfl, hk, rfl, G1, G2, hbr⟩ := hrel
      by_cases hlt : k < 64
      · have hltz : (k : Int) < 64 := by omega
        obtain ⟨x, y, h1, h2, hx, hxy, hy⟩ := HF'.out k hlt
        have hc1 := G1.out.cell h1
        have hc2 := G2.out.cell h2
        have hd1 : decide (y < x) = false := by simp; omega
        have hd2 : decide (x < 1) = false := by simp; omega
        have hd3 : decide (255 < y) = false := by simp; omega
        clear HF' h1 h2
        go_wp2_with fail
        go_quiet (fail)
        go_wp2_with fail
        go_roundg (64 - (k + 1))
        case rel => exact ⟨k + 1, rfl, by omega, by go_num, veil (G1.out.drewN _), veil (G2.out.drewN _), hbr.drewN _⟩
        case measure => omega
      · obtain rfl : k = 64 := by omega
        have r1 := G1.out.range
        go_wp2_with (first
          | (refine wpList_load_mid rfl 23 (.tmp 7) rfl w1.heap.size 0 rfl us _ r1 Try.underlying23 rfl (info_blkn Hl1.out) ?_)
          | fail)
        refine (HC.out _).mono ?_
        rintro e w3 ⟨rfl, hb3⟩
        have hf := hbr.trans (hb3.mono hbr.size)
        go_wp2
        go_ret
        exact ⟨rfl, hf⟩
  · have r1 := C1.out.range
    have r2 := C2.out.range
    have h4 := HZ1.out h2
    have h5 := HZ2.out h2
    rw [← h4] at heq
    have h6 : vs = us := h5.trans h4.symm
    subst h6
    subst h2
    clear HF HC0 HZ1 HZ2 HE2 h4 h5 C1 C2
    go_wp2_with (first
      | (refine wpList_load_long rfl 23 (.tmp 7) rfl w1.heap.size 0 rfl vs _ r1 Try.underlying23 rfl (info_blkn Hl1.out) ?_)
      | (refine wpList_load_long rfl 23 (.tmp 9) rfl w2.heap.size 0 rfl vs _ r2 Try.underlying23 rfl (info_blkn Hl1.out) ?_)
      | fail)
    go_ret
    exact ⟨rfl, hbw2⟩
set_option maxHeartbeats 4000000 in
set_option maxRecDepth 100000 in
theorem quantScaled_gt (qs : List Int) (a b : Int) (w : World) (hq : qs.length = 64) (ha : -9223372036854775808 ≤ a ∧ a ≤ 9223372036854775807) (hb : -9223372036854775808 ≤ b ∧ b ≤ 9223372036854775807) (hab : b % 1000 < a % 1000) :
    Calls Try.prog 11 #[blkV qs, .int .i64 a, .int .i64 b] w fun e w' => e = .returned (.bool true) ∧ Below w.heap.size w w' := by
  have HB0 := Blk.new w (ints .i64 qs) 23
  have hb3 := below1 w (.cells (ints .i64 qs).toArray 23)
  have hz3 : (w.alloc (.cells (ints .i64 qs).toArray 23)).heap.size = w.heap.size + 1 := by simp
  have Hlq : Hid ((ints .i64 qs).length = 64) := by show _ = _; rw [ints_length, hq]
  have HK := veil (coarse_any (w.alloc (.cells (ints .i64 qs).toArray 23)))
  have HR1 := veil (fun W => rest_any a 1000 W (by omega) (by omega) ha)
  have HR2 := veil (fun W => rest_any b 1000 W (by omega) (by omega) hb)
  have hA1 := Int.emod_nonneg a (show (1000 : Int) ≠ 0 by omega)
  have hA2 := Int.emod_lt_of_pos a (show (0 : Int) < 1000 by omega)
  have hB1 := Int.emod_nonneg b (show (1000 : Int) ≠ 0 by omega)
  have hB2 := Int.emod_lt_of_pos b (show (0 : Int) < 1000 by omega)
  generalize a % 1000 = A at *
  generalize b % 1000 = B at *
  have HS1 := veil (fun W => scale_any qs (B + 1) W hq)
  have HS2 := veil (fun W => scale_any qs (A + 1) W hq)
  rw [scale_Ep (by omega) (by omega)] at HS1 HS2
  have Hl1 : Hid ((ints .i64 (oScale qs (B + 1))).length = 64) := by show _ = _; rw [ints_length, oScale_length]
  have Hl2 : Hid ((ints .i64 (oScale qs (A + 1))).length = 64) := by show _ = _; rw [ints_length, oScale_length]
  have hone1 := ints_one (k := .i64) (l := oScale qs (B + 1))
  have hone2 := ints_one (k := .i64) (l := oScale qs (A + 1))
  have HF : Hid (badB 1 255 qs = 0 → ∀ k, k < 64 → _) := fun h => scaled_at hq (p := B + 1) (r := A + 1) (by omega) (by omega) (by omega) h
  have HC := veil (fun W => qcheck_any (oScale qs (B + 1)) W (oScale_length _ _))
  have HC0 : Hid (badB 1 255 qs = 0 → badB 1 255 (oScale qs (B + 1)) = 0) := scaled_check (by omega) (by omega)
  have HE2 : Hid (badB 1 255 qs = 0 ∨ badB 1 255 qs = 1) := by show _ ∨ _; unfold badB; split <;> simp
  have HZ1 : Hid (badB 1 255 qs = 1 → ints .i64 (oScale qs (B + 1)) = zeroB) := fun h => oScale_err (by rw [scale_Ep (by omega) (by omega), h]; omega)
  have HZ2 : Hid (badB 1 255 qs = 1 → ints .i64 (oScale qs (A + 1)) = zeroB) := fun h => oScale_err (by rw [scale_Ep (by omega) (by omega), h]; omega)
  have heq : ∀ u, (binOp .eql 23 (.agg zeroB.toArray) (.agg zeroB.toArray)).run Try.prog u = .ok (.bool true) u := fun u => blk_same zero64 zero64_length u
  generalize badB 1 255 (oScale qs (B + 1)) = e3 at *
  unfold blkV at *
  generalize ints .i64 (oScale qs (B + 1)) = us at *
  generalize ints .i64 (oScale qs (A + 1)) = vs at *
  generalize badB 1 255 qs = e2 at *
  generalize ints .i64 qs = ys at *
  go_enter Try.func11, Try.ntmps11
  go_wp2_with fail
  refine HK.out.mono ?_
  rintro e w0 ⟨rfl, hb0⟩
  have hz0 := hb0.size
  rw [hz3] at hz0
  have B0 := HB0.below hb0 (by rw [hz3]; omega)
  have hbw := hb3.trans (hb0.mono (by rw [hz3]; omega))
  have r0 := B0.range
  clear HK HB0 hb3 hz3 hb0
  go_wp2_with fail
  refine (HR1.out _).mono ?_
  rintro e w1 ⟨rfl, rfl⟩
  go_wp2_with fail
  refine (HR2.out _).mono ?_
  rintro e w1 ⟨rfl, rfl⟩
  clear HR1 HR2
  go_wp2_with (first
    | (refine wpList_load_mid rfl 23 (.tmp 3) rfl w.heap.size 0 rfl ys _ r0 Try.underlying23 rfl (info_blkn Hlq.out) ?_)
    | fail)
  refine (HS1.out _).mono ?_
  rintro e w1 ⟨rfl, hb1⟩
  have hz1 := hb1.size
  have B0' := (B0.below hb1 (by omega)).below (below1 w1 (.cells us.toArray 23)) (by omega)
  have B1' := Blk.new w1 us 23
  have r0' := B0'.range
  have hbw1 := (hbw.trans (hb1.mono hbw.size)).trans ((below1 w1 (.cells us.toArray 23)).mono (show w.heap.size ≤ w1.heap.size by omega))
  have hzw : (w1.alloc (.cells us.toArray 23)).heap.size = w1.heap.size + 1 := by simp
  clear r0 B0 hb1 hbw HS1 B0'
  go_wp2_with (first
    | (refine wpList_store_new w1 rfl 23 (.tmp 7) (.tmp 26) rfl zeroB.toArray us rfl rfl (info_blkn Hl1.out) (by rw [Hl1.out]; rfl) hone1 ?_)
    | (refine wpList_load_mid rfl 23 (.tmp 3) rfl w.heap.size 0 rfl ys _ r0' Try.underlying23 rfl (info_blkn Hlq.out) ?_)
    | fail)
  refine (HS2.out _).mono ?_
  rintro e w2 ⟨rfl, hb2⟩
  have hz2 := hb2.size
  rw [hzw] at hz2
  have C1 := veil ((B1'.below hb2 (by omega)).below (below1 w2 (.cells vs.toArray 23)) (by omega))
  have C2 := veil (Blk.new w2 vs 23)
  have hbw2 := (hbw1.trans (hb2.mono hbw1.size)).trans ((below1 w2 (.cells vs.toArray 23)).mono (show w.heap.size ≤ w2.heap.size by omega))
  clear r0' B1' hb2 hbw1 hzw HS2
  go_upto_region 6 with (first
    | (refine wpList_store_new w2 rfl 23 (.tmp 9) (.tmp 34) rfl zeroB.toArray vs rfl rfl (info_blkn Hl2.out) (by rw [Hl2.out]; rfl) hone2 ?_)
    | fail)
  rcases HE2.out with h2 | h2
  · subst h2
    have HF' := veil (HF.out rfl)
    have h3 := HC0.out rfl
    subst h3
    clear HF HC0 HZ1 HZ2 HE2
    go_wp2_with fail
    go_loopg [50] 64 (fun gk i wr => ∃ k : Nat, gk = 64 - k ∧ k ≤ 64 ∧ i = .int .i64 (k : Int) ∧ Hid (Blk wr w1.heap.size us 23) ∧ Hid (Blk wr w2.heap.size vs 23) ∧ Below w.heap.size w wr)
    case atStart => exact ⟨0, rfl, by omega, rfl, C1, C2, hbw2⟩
    case round =>
      clear C1 C2 hbw2
      obtain ⟨k, rfl, hk, rfl, G1, G2, hbr⟩ := hrel
      by_cases hlt : k < 64
      · have hltz : (k : Int) < 64 := by omega
        obtain ⟨x, y, h1, h2, hx, hxy, hy⟩ := HF'.out k hlt
        have hc1 := G1.out.cell h1
        have hc2 := G2.out.cell h2
        have hd1 : decide (y < x) = false := by simp; omega
        have hd2 : decide (x < 1) = false := by simp; omega
        have hd3 : decide (255 < y) = false := by simp; omega
        clear HF' h1 h2
        go_wp2_with fail
        go_quiet (fail)
        go_wp2_with fail
        go_roundg (64 - (k + 1))
        case rel => exact ⟨k + 1, rfl, by omega, by go_num, veil (G1.out.drewN _), veil (G2.out.drewN _), hbr.drewN _⟩
        case measure => omega
      · obtain rfl : k = 64 := by omega
        have r1 := G1.out.range
        go_wp2_with (first
          | (refine wpList_load_mid rfl 23 (.tmp 7) rfl w1.heap.size 0 rfl us _ r1 Try.underlying23 rfl (info_blkn Hl1.out) ?_)
          | fail)
        refine (HC.out _).mono ?_
        rintro e w3 ⟨rfl, hb3⟩
        have hf := hbr.trans (hb3.mono hbr.size)
        go_wp2
        go_ret
        exact ⟨rfl, hf⟩
  · have r1 := C1.out.range
    have r2 := C2.out.range
    have h4 := HZ1.out h2
    have h5 := HZ2.out h2
    rw [← h4] at heq
    have h6 : vs = us := h5.trans h4.symm
    subst h6
    subst h2
    clear HF HC0 HZ1 HZ2 HE2 h4 h5 C1 C2
    go_wp2_with (first
      | (refine wpList_load_long rfl 23 (.tmp 7) rfl w1.heap.size 0 rfl vs _ r1 Try.underlying23 rfl (info_blkn Hl1.out) ?_)
      | (refine wpList_load_long rfl 23 (.tmp 9) rfl w2.heap.size 0 rfl vs _ r2 Try.underlying23 rfl (info_blkn Hl1.out) ?_)
      | fail)
    go_ret
    exact ⟨rfl, hbw2⟩
set_option maxHeartbeats 4000000 in
set_option maxRecDepth 100000 in
theorem quantScaled_eq (qs : List Int) (a b : Int) (w : World) (hq : qs.length = 64) (ha : -9223372036854775808 ≤ a ∧ a ≤ 9223372036854775807) (hb : -9223372036854775808 ≤ b ∧ b ≤ 9223372036854775807) (hab : b % 1000 = a % 1000) :
    Calls Try.prog 11 #[blkV qs, .int .i64 a, .int .i64 b] w fun e w' => e = .returned (.bool true) ∧ Below w.heap.size w w' := by
  have HB0 := Blk.new w (ints .i64 qs) 23
  have hb3 := below1 w (.cells (ints .i64 qs).toArray 23)
  have hz3 : (w.alloc (.cells (ints .i64 qs).toArray 23)).heap.size = w.heap.size + 1 := by simp
  have Hlq : Hid ((ints .i64 qs).length = 64) := by show _ = _; rw [ints_length, hq]
  have HK := veil (coarse_any (w.alloc (.cells (ints .i64 qs).toArray 23)))
  have HR1 := veil (fun W => rest_any a 1000 W (by omega) (by omega) ha)
  have HR2 := veil (fun W => rest_any b 1000 W (by omega) (by omega) hb)
  have hA1 := Int.emod_nonneg a (show (1000 : Int) ≠ 0 by omega)
  have hA2 := Int.emod_lt_of_pos a (show (0 : Int) < 1000 by omega)
  rw [hab] at HR2
  clear hab
  generalize a % 1000 = A at *
  have HS1 := veil (fun W => scale_any qs (A + 1) W hq)
  have HS2 := veil (fun W => scale_any qs (A + 1) W hq)
  rw [scale_Ep (by omega) (by omega)] at HS1 HS2
  have Hl1 : Hid ((ints .i64 (oScale qs (A + 1))).length = 64) := by show _ = _; rw [ints_length, oScale_length]
  have Hl2 : Hid ((ints .i64 (oScale qs (A + 1))).length = 64) := by show _ = _; rw [ints_length, oScale_length]
  have hone1 := ints_one (k := .i64) (l := oScale qs (A + 1))
  have hone2 := ints_one (k := .i64) (l := oScale qs (A + 1))
  have HF : Hid (badB 1 255 qs = 0 → ∀ k, k < 64 → _) := fun h => scaled_at hq (p := A + 1) (r := A + 1) (by omega) (by omega) (by omega) h
  have HC := veil (fun W => qcheck_any (oScale qs (A + 1)) W (oScale_length _ _))
  have HC0 : Hid (badB 1 255 qs = 0 → badB 1 255 (oScale qs (A + 1)) = 0) := scaled_check (by omega) (by omega)
  have HE2 : Hid (badB 1 255 qs = 0 ∨ badB 1 255 qs = 1) := by show _ ∨ _; unfold badB; split <;> simp
  have HZ1 : Hid (badB 1 255 qs = 1 → ints .i64 (oScale qs (A + 1)) = zeroB) := fun h => oScale_err (by rw [scale_Ep (by omega) (by omega), h]; omega)
  have HZ2 : Hid (badB 1 255 qs = 1 → ints .i64 (oScale qs (A + 1)) = zeroB) := fun h => oScale_err (by rw [scale_Ep (by omega) (by omega), h]; omega)
  have heq : ∀ u, (binOp .eql 23 (.agg zeroB.toArray) (.agg zeroB.toArray)).run Try.prog u = .ok (.bool true) u := fun u => blk_same zero64 zero64_length u
  generalize badB 1 255 (oScale qs (A + 1)) = e3 at *
  unfold blkV at *
  generalize ints .i64 (oScale qs (A + 1)) = us at *
  generalize badB 1 255 qs = e2 at *
  generalize ints .i64 qs = ys at *
  go_enter Try.func11, Try.ntmps11
  go_wp2_with fail
  refine HK.out.mono ?_
  rintro e w0 ⟨rfl, hb0⟩
  have hz0 := hb0.size
  rw [hz3] at hz0
  have B0 := HB0.below hb0 (by rw [hz3]; omega)
  have hbw := hb3.trans (hb0.mono (by rw [hz3]; omega))
  have r0 := B0.range
  clear HK HB0 hb3 hz3 hb0
  go_wp2_with fail
  refine (HR1.out _).mono ?_
  rintro e w1 ⟨rfl, rfl⟩
  go_wp2_with fail
  refine (HR2.out _).mono ?_
  rintro e w1 ⟨rfl, rfl⟩
  clear HR1 HR2
  go_wp2_with (first
    | (refine wpList_load_mid rfl 23 (.tmp 3) rfl w.heap.size 0 rfl ys _ r0 Try.underlying23 rfl (info_blkn Hlq.out) ?_)
    | fail)
  refine (HS1.out _).mono ?_
  rintro e w1 ⟨rfl, hb1⟩
  have hz1 := hb1.size
  have B0' := (B0.below hb1 (by omega)).below (below1 w1 (.cells us.toArray 23)) (by omega)
  have B1' := Blk.new w1 us 23
  have r0' := B0'.range
  have hbw1 := (hbw.trans (hb1.mono hbw.size)).trans ((below1 w1 (.cells us.toArray 23)).mono (show w.heap.size ≤ w1.heap.size by omega))
  have hzw : (w1.alloc (.cells us.toArray 23)).heap.size = w1.heap.size + 1 := by simp
  clear r0 B0 hb1 hbw HS1 B0'
  go_wp2_with (first
    | (refine wpList_store_new w1 rfl 23 (.tmp 7) (.tmp 26) rfl zeroB.toArray us rfl rfl (info_blkn Hl1.out) (by rw [Hl1.out]; rfl) hone1 ?_)
    | (refine wpList_load_mid rfl 23 (.tmp 3) rfl w.heap.size 0 rfl ys _ r0' Try.underlying23 rfl (info_blkn Hlq.out) ?_)
    | fail)
  refine (HS2.out _).mono ?_
  rintro e w2 ⟨rfl, hb2⟩
  have hz2 := hb2.size
  rw [hzw] at hz2
  have C1 := veil ((B1'.below hb2 (by omega)).below (below1 w2 (.cells us.toArray 23)) (by omega))
  have C2 := veil (Blk.new w2 us 23)
  have hbw2 := (hbw1.trans (hb2.mono hbw1.size)).trans ((below1 w2 (.cells us.toArray 23)).mono (show w.heap.size ≤ w2.heap.size by omega))
  clear r0' B1' hb2 hbw1 hzw HS2
  go_upto_region 6 with (first
    | (refine wpList_store_new w2 rfl 23 (.tmp 9) (.tmp 34) rfl zeroB.toArray us rfl rfl (info_blkn Hl2.out) (by rw [Hl2.out]; rfl) hone2 ?_)
    | fail)
  rcases HE2.out with h2 | h2
  · subst h2
    have HF' := veil (HF.out rfl)
    have h3 := HC0.out rfl
    subst h3
    clear HF HC0 HZ1 HZ2 HE2
    go_wp2_with fail
    go_loopg [50] 64 (fun gk i wr => ∃ k : Nat, gk = 64 - k ∧ k ≤ 64 ∧ i = .int .i64 (k : Int) ∧ Hid (Blk wr w1.heap.size us 23) ∧ Hid (Blk wr w2.heap.size us 23) ∧ Below w.heap.size w wr)
    case atStart => exact ⟨0, rfl, by omega, rfl, C1, C2, hbw2⟩
    case round =>
      clear C1 C2 hbw2
      obtain ⟨k, rfl, hk, rfl, G1, G2, hbr⟩ := hrel
      by_cases hlt : k < 64
      · have hltz : (k : Int) < 64 := by omega
        obtain ⟨x, y, h1, h2, hx, hxy, hy⟩ := HF'.out k hlt
        have hc1 := G1.out.cell h1
        have hc2 := G2.out.cell h2
        have hd1 : decide (y < x) = false := by simp; omega
        have hd2 : decide (x < 1) = false := by simp; omega
        have hd3 : decide (255 < y) = false := by simp; omega
        clear HF' h1 h2
        go_wp2_with fail
        go_quiet (fail)
        go_wp2_with fail
        go_roundg (64 - (k + 1))
        case rel => exact ⟨k + 1, rfl, by omega, by go_num, veil (G1.out.drewN _), veil (G2.out.drewN _), hbr.drewN _⟩
        case measure => omega
      · obtain rfl : k = 64 := by omega
        have r1 := G1.out.range
        go_wp2_with (first
          | (refine wpList_load_mid rfl 23 (.tmp 7) rfl w1.heap.size 0 rfl us _ r1 Try.underlying23 rfl (info_blkn Hl1.out) ?_)
          | fail)
        refine (HC.out _).mono ?_
        rintro e w3 ⟨rfl, hb3⟩
        have hf := hbr.trans (hb3.mono hbr.size)
        go_wp2
        go_ret
        exact ⟨rfl, hf⟩
  · have r1 := C1.out.range
    have r2 := C2.out.range
    have h4 := HZ1.out h2
    have h5 := HZ2.out h2
    rw [← h4] at heq
    subst h2
    clear HF HC0 HZ1 HZ2 HE2 h4 h5 C1 C2
    go_wp2_with (first
      | (refine wpList_load_long rfl 23 (.tmp 7) rfl w1.heap.size 0 rfl us _ r1 Try.underlying23 rfl (info_blkn Hl1.out) ?_)
      | (refine wpList_load_long rfl 23 (.tmp 9) rfl w2.heap.size 0 rfl us _ r2 Try.underlying23 rfl (info_blkn Hl1.out) ?_)
      | fail)
    go_ret
    exact ⟨rfl, hbw2⟩
theorem quantScaled_walk (qs : List Int) (a b : Int) (w : World) (hq : qs.length = 64) (ha : -9223372036854775808 ≤ a ∧ a ≤ 9223372036854775807) (hb : -9223372036854775808 ≤ b ∧ b ≤ 9223372036854775807) :
    Calls Try.prog 11 #[blkV qs, .int .i64 a, .int .i64 b] w fun e w' => e = .returned (.bool true) ∧ Below w.heap.size w w' := by
  rcases Int.lt_trichotomy (b % 1000) (a % 1000) with h | h | h
  · exact quantScaled_gt qs a b w hq ha hb h
  · exact quantScaled_eq qs a b w hq ha hb h
  · exact quantScaled_lt qs a b w hq ha hb h
end Go.Proofs.Ytpbeehalicmdjaa
