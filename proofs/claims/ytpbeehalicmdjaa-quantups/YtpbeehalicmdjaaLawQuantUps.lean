/- The law on Up against the reference, walked. -/
import Derived.Test.YtpbeehalicmdjaaQLaw
import Derived.Test.YtpbeehalicmdjaaRefQDown
import Derived.Deep.Cut
namespace Go.Proofs.Ytpbeehalicmdjaa
open Go.RowKit
set_option linter.unusedVariables false
set_option linter.unusedSimpArgs false

set_option maxHeartbeats 4000000 in
set_option maxRecDepth 100000 in
theorem quantUps_walk (bs qs : List Int) (w : World) (hb : bs.length = 64) (hq : qs.length = 64) :
    Calls Try.prog 4 #[blkV bs, blkV qs] w fun e w' => e = .returned (.bool true) ∧ Below w.heap.size w w' := by
  obtain ⟨hb3, HB0, HB1, hz3⟩ := boxU_is (ints .i64 bs) (ints .i64 qs) w
  have Hlb : Hid ((ints .i64 bs).length = 64) := by show _ = _; rw [ints_length, hb]
  have Hlq : Hid ((ints .i64 qs).length = 64) := by show _ = _; rw [ints_length, hq]
  have Hlm : Hid ((ints .i64 (oUp bs qs)).length = 64) := by show _ = _; rw [ints_length, oUp_length]
  have hone := ints_one (k := .i64) (l := oUp bs qs)
  have Hz := veil zeroB_length
  have HU := veil (up_any bs qs (boxU (ints .i64 bs) (ints .i64 qs) w) hb hq)
  have HR := veil (fun W => refUp_any bs qs W hb hq)
  have HC := veil (fun W => qcheck_any zero64 W zero64_length)
  rw [zero_bad] at HC
  have heq := blk_same (oUp bs qs) (oUp_length bs qs)
  unfold blkV at *
  rw [zero_blk] at HC
  generalize eBoth 2047 bs qs = E at *
  generalize ints .i64 (oUp bs qs) = ms at *
  generalize ints .i64 bs = xs at *
  generalize ints .i64 qs = ys at *
  have r0 := HB0.range
  have r1 := HB1.range
  unfold boxU at *
  go_enter Try.func4, Try.ntmps4
  go_wp2_with (first
    | (refine wpList_load_mid rfl 23 (.tmp 2) rfl w.heap.size 0 rfl xs _ r0 Try.underlying23 rfl (info_blkn Hlb.out) ?_)
    | (refine wpList_load_mid rfl 23 (.tmp 3) rfl (w.heap.size + 1) 0 rfl ys _ r1 Try.underlying23 rfl (info_blkn Hlq.out) ?_)
    | fail)
  refine HU.out.mono ?_
  rintro e w1 ⟨rfl, hb1⟩
  have hz1 := hb1.size
  rw [hz3] at hz1
  have B0 := (HB0.below hb1 (by rw [hz3]; omega)).below (below1 w1 (.cells ms.toArray 23)) (by omega)
  have B1 := (HB1.below hb1 (by rw [hz3]; omega)).below (below1 w1 (.cells ms.toArray 23)) (by omega)
  have B2 := Blk.new w1 ms 23
  have hbw := (hb3.trans (hb1.mono (by rw [hz3]; omega))).trans ((below1 w1 (.cells ms.toArray 23)).mono (show w.heap.size ≤ w1.heap.size by omega))
  have r0' := B0.range
  have r1' := B1.range
  clear r0 r1 HB0 HB1 hb3 hz3 hb1 HU B0 B1
  have HW := veil (HR.out (w1.alloc (.cells ms.toArray 23)))
  have hzw : (w1.alloc (.cells ms.toArray 23)).heap.size = w1.heap.size + 1 := by simp
  clear HR
  go_wp2_with (first
    | (refine wpList_store_new w1 rfl 23 (.tmp 5) (.tmp 13) rfl zeroB.toArray ms rfl rfl (info_blkn Hlm.out) (by rw [Hlm.out]; rfl) hone ?_)
    | (refine wpList_load_mid rfl 23 (.tmp 2) rfl w.heap.size 0 rfl xs _ r0' Try.underlying23 rfl (info_blkn Hlb.out) ?_)
    | (refine wpList_load_mid rfl 23 (.tmp 3) rfl (w.heap.size + 1) 0 rfl ys _ r1' Try.underlying23 rfl (info_blkn Hlq.out) ?_)
    | fail)
  refine HW.out.mono ?_
  rintro e w2 ⟨rfl, hb2⟩
  have hz2 := hb2.size
  rw [hzw] at hz2
  have r2 := ((B2.below hb2 (by rw [hzw]; omega)).below (below1 w2 (.cells ms.toArray 23)) (by omega)).range
  have r3 := (Blk.new w2 ms 23).range
  have hbw2 := (hbw.trans (hb2.mono (by rw [hzw]; omega))).trans ((below1 w2 (.cells ms.toArray 23)).mono (show w.heap.size ≤ w2.heap.size by omega))
  clear B2 hb2 hbw r0' r1' HW hzw
  go_upto_region 3 with (first
    | (refine wpList_store_new w2 rfl 23 (.tmp 7) (.tmp 19) rfl zeroB.toArray ms rfl rfl (info_blkn Hlm.out) (by rw [Hlm.out]; rfl) hone ?_)
    | fail)
  go_wp2_with (first
    | (refine wpList_load_mid rfl 23 (.tmp 5) rfl w1.heap.size 0 rfl ms _ r2 Try.underlying23 rfl (info_blkn Hlm.out) ?_)
    | (refine wpList_load_mid rfl 23 (.tmp 7) rfl w2.heap.size 0 rfl ms _ r3 Try.underlying23 rfl (info_blkn Hlm.out) ?_)
    | fail)
  refine (HC.out _).mono ?_
  rintro e w3 ⟨rfl, hb3⟩
  have hf := hbw2.trans (hb3.mono hbw2.size)
  go_wp2
  go_ret
  exact ⟨rfl, hf⟩
end Go.Proofs.Ytpbeehalicmdjaa
