/- quant.Scale: its contract. -/
import Derived.Test.YtpbeehalicmdjaaQDown
namespace Go.Proofs.Ytpbeehalicmdjaa
open Go.RowKit
set_option linter.unusedVariables false
set_option linter.unusedSimpArgs false

/-- A block and a number boxed and a result's block. -/
def boxS (xs : List Value) (p : Int) (w : World) : World := ((w.alloc (.cells xs.toArray 23)).alloc (.cells #[.int .i64 p] 3)).alloc (.cells zeroB.toArray 23)
theorem boxS_is (xs : List Value) (p : Int) (w : World) : Below w.heap.size w (boxS xs p w) ∧ Blk (boxS xs p w) w.heap.size xs 23 ∧ Blk (boxS xs p w) (w.heap.size + 1) [.int .i64 p] 3 ∧ Blk (boxS xs p w) (w.heap.size + 1 + 1) zeroB 23 ∧ (boxS xs p w).heap.size = w.heap.size + 3 := by
  have e1 := World.size_alloc w (.cells xs.toArray 23)
  have e2 := World.size_alloc (w.alloc (.cells xs.toArray 23)) (.cells #[.int .i64 p] 3)
  have h0 := Blk.new w xs 23
  have h1 := Blk.new (w.alloc (.cells xs.toArray 23)) [.int .i64 p] 3
  have h2 := Blk.new ((w.alloc (.cells xs.toArray 23)).alloc (.cells #[.int .i64 p] 3)) zeroB 23
  have b1 := below1 ((w.alloc (.cells xs.toArray 23)).alloc (.cells #[.int .i64 p] 3)) (.cells zeroB.toArray 23)
  have b2 := below2 (w.alloc (.cells xs.toArray 23)) (.cells #[.int .i64 p] 3) (.cells zeroB.toArray 23)
  refine ⟨below3 _ _ _ _, h0.below b2 (by omega), ?_, ?_, by simp [boxS]⟩
  · have := h1.below b1 (by omega)
    rw [e1] at this; exact this
  · rw [e2, e1] at h2; exact h2
set_option maxHeartbeats 4000000 in
set_option maxRecDepth 100000 in
theorem scale_any (qs : List Int) (p : Int) (w : World) (hq : qs.length = 64) :
    Calls Try.prog 19 #[blkV qs, .int .i64 p] w fun e w' => e = .returned (.tuple #[blkV (oScale qs p), .int .i64 (eScale qs p)]) ∧ Below w.heap.size w w' := by
  obtain ⟨hb3, HB0, HB1, HB2, hz3⟩ := boxS_is (ints .i64 qs) p w
  have Hlq : Hid ((ints .i64 qs).length = 64) := by show _ = _; rw [ints_length, hq]
  have HC := veil (qcheck_any qs (boxS (ints .i64 qs) p w) hq)
  have Hz := veil zeroB_length
  have hzo := ints_one (k := .i64) (l := zero64)
  rw [zero_blk] at hzo
  by_cases hE : eScale qs p = 0
  · obtain ⟨hi1, hp1, hp2⟩ := eScale_ok hE
    have HEach : Hid (∀ W, Blk W (w.heap.size + 1) [.int .i64 p] 3 → Calls Try.prog 25 #[blkV qs, .func (.func 34) #[] #[.pointer (some ⟨w.heap.size + 1, 0, none⟩)]] W fun e w' => e = .returned (blkV (mapL (fScale p) qs)) ∧ Below W.heap.size W w') := by
      intro W hB
      refine eachScale_any _ (fScale p) qs W hq fun i x W' hi hx hbl => ?_
      have h1 := inB_at hi1 hx
      have h3 := mul_small (A := 255) (by omega) h1.2 (show 0 ≤ p by omega) hp2
      exact scaleF_any i x p _ W' ((hB.below hbl hB.lt).cell rfl) (wrap_small (by omega) (by omega)) (by omega) (by omega)
    have HO : Hid (ints .i64 (oScale qs p) = ints .i64 (mapL (fScale p) qs)) := by show _ = _; rw [oScale, if_pos hE]
    have Hlm : Hid ((ints .i64 (mapL (fScale p) qs)).length = 64) := by show _ = _; rw [ints_length, mapL_length]
    have hone := ints_one (k := .i64) (l := mapL (fScale p) qs)
    rw [show badB 1 255 qs = 0 by unfold badB; rw [if_pos hi1]] at HC
    rw [hE]
    clear hE hi1
    unfold blkV at *
    rw [HO.out]
    clear HO
    generalize ints .i64 (mapL (fScale p) qs) = ms at *
    generalize ints .i64 qs = ys at *
    have r0 := HB0.range
    unfold boxS at *
    go_enter Try.func19, Try.ntmps19
    go_wp2_with (first
      | (refine wpList_load_mid rfl 23 (.tmp 2) rfl w.heap.size 0 rfl ys _ r0 Try.underlying23 rfl (info_blkn Hlq.out) ?_)
      | fail)
    refine HC.out.mono ?_
    rintro e w1 ⟨rfl, hb1⟩
    have r0' := range_below r0 hb1 (by rw [hz3]; omega)
    have B1 := HB1.below hb1 (by rw [hz3]; omega)
    have c1 := B1.cell (i := 0) rfl
    have B2 := HB2.below hb1 (by rw [hz3]; omega)
    have hbw := hb3.trans (hb1.mono (by rw [hz3]; omega))
    have hz1 := hb1.size
    rw [hz3] at hz1
    have HE := veil (HEach.out w1 B1)
    clear r0 HB0 HB1 HB2 hb3 hz3 hb1 HC HEach B1
    go_wp2_with (first
      | (refine wpList_load_mid rfl 23 (.tmp 2) rfl w.heap.size 0 rfl ys _ r0' Try.underlying23 rfl (info_blkn Hlq.out) ?_)
      | fail)
    refine HE.out.mono ?_
    rintro e w2 ⟨rfl, hb2⟩
    have B2' := B2.below hb2 (by omega)
    have hbw2 := hbw.trans (hb2.mono hbw.size)
    clear B2 HE r0'
    generalize zeroB = x0 at *
    go_wp2_with (first
      | (refine wpList_store_blk w2 rfl 23 (.tmp 4) (.tmp 22) rfl (w.heap.size + 1 + 1) x0 ms 23 B2' rfl rfl (info_blkn Hlm.out) (by rw [Hlm.out, Hz.out]) hone ?_; intro w5 HB5 hg5)
      | fail)
    refine bodyPost_ret (v := .tuple #[.agg ms.toArray, .int .i64 0]) (results_row_tmp rfl _ _ (w.heap.size + 1 + 1) 23 ms.toArray (0, 0) _ _ rfl rfl HB5 Try.underlying23 rfl (by simp only [List.size_toArray]; exact info_blkn Hlm.out)) rfl ⟨rfl, hbw2.grown hg5 hbw2.size (fun j hj => by injection hj with hj; omega)⟩
  · have hE1 := eScale_bad hE
    have HO : Hid (ints .i64 (oScale qs p) = zeroB) := by show _ = _; rw [oScale, if_neg hE]; rfl
    have hcase : (badB 1 255 qs = 0 ∧ ¬ (1 ≤ p ∧ p ≤ 1000)) ∨ badB 1 255 qs = 1 := by
      by_cases h1 : inB 1 255 qs = true
      · left
        refine ⟨by unfold badB; rw [if_pos h1], fun h2 => hE ?_⟩
        unfold eScale
        rw [if_pos ⟨h1, h2⟩]
      · right; unfold badB; rw [if_neg h1]
    rw [hE1]
    clear hE hE1
    unfold blkV at *
    rw [HO.out]
    clear HO
    generalize badB 1 255 qs = e1 at *
    generalize ints .i64 qs = ys at *
    have r0 := HB0.range
    unfold boxS at *
    go_enter Try.func19, Try.ntmps19
    go_wp2_with (first
      | (refine wpList_load_mid rfl 23 (.tmp 2) rfl w.heap.size 0 rfl ys _ r0 Try.underlying23 rfl (info_blkn Hlq.out) ?_)
      | fail)
    refine HC.out.mono ?_
    rintro e w1 ⟨rfl, hb1⟩
    have B1 := HB1.below hb1 (by rw [hz3]; omega)
    have c1 := B1.cell (i := 0) rfl
    have B2 := HB2.below hb1 (by rw [hz3]; omega)
    have hbw := hb3.trans (hb1.mono (by rw [hz3]; omega))
    have hz1 := hb1.size
    rw [hz3] at hz1
    clear r0 HB0 HB1 HB2 hb3 hz3 hb1 HC B1
    rcases hcase with ⟨rfl, h2⟩ | rfl
    · by_cases h3 : p < 1
      · go_wp2_with (first
          | (refine wpList_store_blk w1 rfl 23 (.tmp 4) (.tmp 19) rfl (w.heap.size + 1 + 1) zeroB zeroB 23 B2 rfl rfl (info_blkn Hz.out) rfl hzo ?_; intro w5 HB5 hg5)
          | fail)
        refine bodyPost_ret (v := .tuple #[.agg zeroB.toArray, .int .i64 1]) (results_row_tmp rfl _ _ (w.heap.size + 1 + 1) 23 zeroB.toArray (0, 0) _ _ rfl rfl HB5 Try.underlying23 rfl (by simp only [List.size_toArray]; exact info_blkn Hz.out)) rfl ⟨rfl, hbw.grown hg5 hbw.size (fun j hj => by injection hj with hj; omega)⟩
      · have h4 : 1000 < p := by omega
        go_wp2_with (first
          | (refine wpList_store_blk w1 rfl 23 (.tmp 4) (.tmp 19) rfl (w.heap.size + 1 + 1) zeroB zeroB 23 B2 rfl rfl (info_blkn Hz.out) rfl hzo ?_; intro w5 HB5 hg5)
          | fail)
        refine bodyPost_ret (v := .tuple #[.agg zeroB.toArray, .int .i64 1]) (results_row_tmp rfl _ _ (w.heap.size + 1 + 1) 23 zeroB.toArray (0, 0) _ _ rfl rfl HB5 Try.underlying23 rfl (by simp only [List.size_toArray]; exact info_blkn Hz.out)) rfl ⟨rfl, hbw.grown hg5 hbw.size (fun j hj => by injection hj with hj; omega)⟩
    · go_wp2_with (first
        | (refine wpList_store_blk w1 rfl 23 (.tmp 4) (.tmp 11) rfl (w.heap.size + 1 + 1) zeroB zeroB 23 B2 rfl rfl (info_blkn Hz.out) rfl hzo ?_; intro w5 HB5 hg5)
        | fail)
      refine bodyPost_ret (v := .tuple #[.agg zeroB.toArray, .int .i64 1]) (results_row_tmp rfl _ _ (w.heap.size + 1 + 1) 23 zeroB.toArray (0, 0) _ _ rfl rfl HB5 Try.underlying23 rfl (by simp only [List.size_toArray]; exact info_blkn Hz.out)) rfl ⟨rfl, hbw.grown hg5 hbw.size (fun j hj => by injection hj with hj; omega)⟩
end Go.Proofs.Ytpbeehalicmdjaa
