/- The law on Up and then Down, walked. -/
import Derived.Test.YtpbeehalicmdjaaQNum
namespace Go.Proofs.Ytpbeehalicmdjaa
open Go.RowKit
set_option linter.unusedVariables false
set_option linter.unusedSimpArgs false

set_option maxHeartbeats 4000000 in
set_option maxRecDepth 100000 in
theorem quantBack_walk (bs qs : List Int) (w : World) (hb : bs.length = 64) (hq : qs.length = 64) :
    Calls Try.prog 8 #[blkV bs, blkV qs] w fun e w' => e = .returned (.bool true) ∧ Below w.heap.size w w' := by
  obtain ⟨hb3, HB0, HB1, hz3⟩ := boxU_is (ints .i64 bs) (ints .i64 qs) w
  have Hlb : Hid ((ints .i64 bs).length = 64) := by show _ = _; rw [ints_length, hb]
  have Hlq : Hid ((ints .i64 qs).length = 64) := by show _ = _; rw [ints_length, hq]
  have Hlu : Hid ((ints .i64 (oUp bs qs)).length = 64) := by show _ = _; rw [ints_length, oUp_length]
  have hone := ints_one (k := .i64) (l := oUp bs qs)
  have HK := veil (coarse_any (boxU (ints .i64 bs) (ints .i64 qs) w))
  have HU := veil (fun W => up_any bs qs W hb hq)
  by_cases hE : eBoth 2047 bs qs = 0
  · obtain ⟨hi1, hi2⟩ := eBoth_ok hE
    have hE2 : eBoth 40000 (oUp bs qs) qs = 0 := by rw [oUp_ok hE]; exact eBoth_of hi1 up_in
    have HD := veil (fun W => down_any (oUp bs qs) qs W (oUp_length bs qs) hq)
    have Hld : Hid ((ints .i64 (oDown (oUp bs qs) qs)).length = 64) := by show _ = _; rw [ints_length, oDown_length]
    have hone2 := ints_one (k := .i64) (l := oDown (oUp bs qs) qs)
    have HF : Hid (∀ k, k < 64 → ∃ x d v : Int, (ints .i64 bs)[k]? = some (.int .i64 x) ∧ (ints .i64 qs)[k]? = some (.int .i64 d) ∧ (ints .i64 (oDown (oUp bs qs) qs))[k]? = some (.int .i64 v) ∧
        (-2047 ≤ x ∧ x ≤ 2047) ∧ (1 ≤ d ∧ d ≤ 255) ∧ (-1000000 ≤ x * d ∧ x * d ≤ 1000000) ∧ (-1000000 ≤ -x * d ∧ -x * d ≤ 1000000) ∧ (0 ≤ x → x * d ≤ 40000 → v = x) ∧ (x ≤ 0 → -x * d ≤ 40000 → v = x)) := by
      intro k hk
      obtain ⟨x, hx⟩ := some_at (xs := bs) (j := k) (by omega)
      obtain ⟨d, hd⟩ := some_at (xs := qs) (j := k) (by omega)
      have h1 := inB_at hi2 hx
      have h2 := inB_at hi1 hd
      have h3 := mul_small h1.1 h1.2 (show 0 ≤ d by omega) h2.2
      have h4 : -x * d = -(x * d) := Int.neg_mul x d
      refine ⟨x, d, clampZ (rnd (clampZ (x * d) (-40000) 40000) d) (-2047) 2047, ints_at hx, ints_at hd, ints_at ?_, h1, h2, ⟨by omega, by omega⟩, ⟨by omega, by omega⟩, fun h5 h6 => back_num h2.1 h1.1 h1.2 ?_ h6, fun h5 h6 => back_num h2.1 h1.1 h1.2 (by omega) ?_⟩
      · rw [oDown_ok hE2, oUp_ok hE, mapL_at hk (mapL_at hk hx), fDown_at hd, fUp_at hd]
      · have := Int.mul_nonneg h5 (show 0 ≤ d by omega); omega
      · have := Int.mul_nonneg (show 0 ≤ -x by omega) (show 0 ≤ d by omega); omega
    rw [hE] at HU
    rw [hE2] at HD
    clear hE hE2 hi1 hi2
    unfold blkV at *
    generalize ints .i64 (oDown (oUp bs qs) qs) = ds at *
    generalize ints .i64 (oUp bs qs) = us at *
    generalize ints .i64 bs = xs at *
    generalize ints .i64 qs = ys at *
    unfold boxU at *
    go_enter Try.func8, Try.ntmps8
    go_wp2_with fail
    refine HK.out.mono ?_
    rintro e w0 ⟨rfl, hb0⟩
    have hz0 := hb0.size
    rw [hz3] at hz0
    have B0 := HB0.below hb0 (by rw [hz3]; omega)
    have B1 := HB1.below hb0 (by rw [hz3]; omega)
    have hbw := hb3.trans (hb0.mono (by rw [hz3]; omega))
    have r0 := B0.range
    have r1 := B1.range
    clear HB0 HB1 hb3 hz3 hb0 HK
    go_wp2_with (first
      | (refine wpList_load_mid rfl 23 (.tmp 2) rfl w.heap.size 0 rfl xs _ r0 Try.underlying23 rfl (info_blkn Hlb.out) ?_)
      | (refine wpList_load_mid rfl 23 (.tmp 3) rfl (w.heap.size + 1) 0 rfl ys _ r1 Try.underlying23 rfl (info_blkn Hlq.out) ?_)
      | fail)
    refine (HU.out _).mono ?_
    rintro e w1 ⟨rfl, hb1⟩
    have hz1 := hb1.size
    have B0' := (B0.below hb1 (by omega)).below (below1 w1 (.cells us.toArray 23)) (by omega)
    have B1' := (B1.below hb1 (by omega)).below (below1 w1 (.cells us.toArray 23)) (by omega)
    have r1' := B1'.range
    have r2' := (Blk.new w1 us 23).range
    have hbw1 := (hbw.trans (hb1.mono hbw.size)).trans ((below1 w1 (.cells us.toArray 23)).mono (show w.heap.size ≤ w1.heap.size by omega))
    have hzw : (w1.alloc (.cells us.toArray 23)).heap.size = w1.heap.size + 1 := by simp
    clear r0 r1 B0 B1 hb1 HU hbw
    go_wp2_with (first
      | (refine wpList_store_new w1 rfl 23 (.tmp 5) (.tmp 17) rfl zeroB.toArray us rfl rfl (info_blkn Hlu.out) (by rw [Hlu.out]; rfl) hone ?_)
      | (refine wpList_load_mid rfl 23 (.tmp 5) rfl w1.heap.size 0 rfl us _ r2' Try.underlying23 rfl (info_blkn Hlu.out) ?_)
      | (refine wpList_load_mid rfl 23 (.tmp 3) rfl (w.heap.size + 1) 0 rfl ys _ r1' Try.underlying23 rfl (info_blkn Hlq.out) ?_)
      | fail)
    refine (HD.out _).mono ?_
    rintro e w2 ⟨rfl, hb2⟩
    have hz2 := hb2.size
    rw [hzw] at hz2
    have r0 := ((B0'.below hb2 (by rw [hzw]; omega)).below (below1 w2 (.cells ds.toArray 23)) (by omega)).range
    have C1 := veil ((B1'.below hb2 (by rw [hzw]; omega)).below (below1 w2 (.cells ds.toArray 23)) (by omega))
    have C2 := veil (Blk.new w2 ds 23)
    have hbw2 := (hbw1.trans (hb2.mono hbw1.size)).trans ((below1 w2 (.cells ds.toArray 23)).mono (show w.heap.size ≤ w2.heap.size by omega))
    clear r1' r2' B0' B1' hb2 HD hbw1 hzw
    go_wp2_with (first
      | (refine wpList_store_new w2 rfl 23 (.tmp 7) (.tmp 28) rfl zeroB.toArray ds rfl rfl (info_blkn Hld.out) (by rw [Hld.out]; rfl) hone2 ?_)
      | (refine wpList_load_mid rfl 23 (.tmp 2) rfl w.heap.size 0 rfl xs _ r0 Try.underlying23 rfl (info_blkn Hlb.out) ?_)
      | fail)
    go_loopg [33] 64 (fun gk i wr => ∃ k : Nat, gk = 64 - k ∧ k ≤ 64 ∧ i = .int .i64 (k : Int) ∧ Hid (Blk wr (w.heap.size + 1) ys 23) ∧ Hid (Blk wr w2.heap.size ds 23) ∧ Below w.heap.size w wr)
    case atStart => exact ⟨0, rfl, by omega, rfl, C1, C2, hbw2⟩
    case round =>
      clear C1 C2 hbw2 r0
      obtain ⟨k, rfl, hk, rfl, D1, D2, hbr⟩ := hrel
      by_cases hlt : k < 64
      · have hltz : (k : Int) < 64 := by omega
        obtain ⟨x, d, v, hx, hd, hv, ⟨hx1, hx2⟩, ⟨hd1, hd2⟩, ⟨hm1, hm2⟩, ⟨hn1, hn2⟩, hA, hB⟩ := HF.out k hlt
        have hcd := D1.out.cell hd
        have hcv := D2.out.cell hv
        clear HF hd hv
        by_cases h0 : 0 ≤ x
        · by_cases hM : x * d ≤ 40000
          · obtain rfl := hA h0 hM
            clear hB
            go_wp2_with (first
              | (refine wpList_index_arr rfl 23 (.tmp 32) (.tmp 33) rfl 64 3 .i64 Try.underlying23 Try.underlying3 (by kernel_rfl) xs rfl .i64 k rfl (.int .i64 v) hlt hx ?_)
              | fail)
            go_roundg (64 - (k + 1))
            case rel => exact ⟨k + 1, rfl, by omega, by go_num, D1, D2, hbr⟩
            case measure => omega
          · clear hA hB
            go_wp2_with (first
              | (refine wpList_index_arr rfl 23 (.tmp 32) (.tmp 33) rfl 64 3 .i64 Try.underlying23 Try.underlying3 (by kernel_rfl) xs rfl .i64 k rfl (.int .i64 x) hlt hx ?_)
              | fail)
            go_roundg (64 - (k + 1))
            case rel => exact ⟨k + 1, rfl, by omega, by go_num, D1, D2, hbr⟩
            case measure => omega
        · by_cases hM : -x * d ≤ 40000
          · obtain rfl := hB (by omega) hM
            clear hA
            go_wp2_with (first
              | (refine wpList_index_arr rfl 23 (.tmp 32) (.tmp 33) rfl 64 3 .i64 Try.underlying23 Try.underlying3 (by kernel_rfl) xs rfl .i64 k rfl (.int .i64 v) hlt hx ?_)
              | fail)
            go_roundg (64 - (k + 1))
            case rel => exact ⟨k + 1, rfl, by omega, by go_num, D1, D2, hbr⟩
            case measure => omega
          · clear hA hB
            go_wp2_with (first
              | (refine wpList_index_arr rfl 23 (.tmp 32) (.tmp 33) rfl 64 3 .i64 Try.underlying23 Try.underlying3 (by kernel_rfl) xs rfl .i64 k rfl (.int .i64 x) hlt hx ?_)
              | fail)
            go_roundg (64 - (k + 1))
            case rel => exact ⟨k + 1, rfl, by omega, by go_num, D1, D2, hbr⟩
            case measure => omega
      · obtain rfl : k = 64 := by omega
        go_wp2
        go_ret
        exact ⟨rfl, hbr⟩
  · have hE1 := eBoth_bad hE
    have HZ := veil (oUp_err hE)
    rw [hE1] at HU
    clear hE hE1
    unfold blkV at *
    rw [HZ.out] at HU Hlu hone
    clear HZ
    generalize ints .i64 bs = xs at *
    generalize ints .i64 qs = ys at *
    unfold boxU at *
    have heq := zero_eql
    go_enter Try.func8, Try.ntmps8
    go_wp2_with fail
    refine HK.out.mono ?_
    rintro e w0 ⟨rfl, hb0⟩
    have hz0 := hb0.size
    rw [hz3] at hz0
    have r0 := (HB0.below hb0 (by rw [hz3]; omega)).range
    have r1 := (HB1.below hb0 (by rw [hz3]; omega)).range
    have hbw := hb3.trans (hb0.mono (by rw [hz3]; omega))
    clear HB0 HB1 hb3 hz3 hb0 HK
    go_wp2_with (first
      | (refine wpList_load_mid rfl 23 (.tmp 2) rfl w.heap.size 0 rfl xs _ r0 Try.underlying23 rfl (info_blkn Hlb.out) ?_)
      | (refine wpList_load_mid rfl 23 (.tmp 3) rfl (w.heap.size + 1) 0 rfl ys _ r1 Try.underlying23 rfl (info_blkn Hlq.out) ?_)
      | fail)
    refine (HU.out _).mono ?_
    rintro e w1 ⟨rfl, hb1⟩
    have hz1 := hb1.size
    obtain ⟨us, hus⟩ : ∃ us, us = zeroB := ⟨_, rfl⟩
    rw [← hus] at heq hone Hlu ⊢
    clear hus
    have r2' := (Blk.new w1 us 23).range
    have hbw1 := (hbw.trans (hb1.mono hbw.size)).trans ((below1 w1 (.cells us.toArray 23)).mono (show w.heap.size ≤ w1.heap.size by omega))
    clear r0 r1 hb1 HU hbw
    go_wp2_with (first
      | (refine wpList_store_new w1 rfl 23 (.tmp 5) (.tmp 17) rfl zeroB.toArray us rfl rfl (info_blkn Hlu.out) (by rw [Hlu.out]; rfl) hone ?_)
      | (refine wpList_load_mid rfl 23 (.tmp 5) rfl w1.heap.size 0 rfl us _ r2' Try.underlying23 rfl (info_blkn Hlu.out) ?_)
      | fail)
    go_ret
    exact ⟨rfl, hbw1⟩
end Go.Proofs.Ytpbeehalicmdjaa
