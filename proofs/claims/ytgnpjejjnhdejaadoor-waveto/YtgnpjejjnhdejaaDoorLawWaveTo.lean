/- The law WaveTo against the reference, walked. -/
import Derived.Test.YtgnpjejjnhdejaaDoorWTrans
import Derived.Test.YtgnpjejjnhdejaaDoorRefWave
import Derived.Deep.Cut
namespace Go.Proofs.YtgnpjejjnhdejaaDoor
open Go.RowKit
set_option linter.unusedVariables false
set_option linter.unusedSimpArgs false

set_option maxHeartbeats 4000000 in
set_option maxRecDepth 100000 in
theorem waveTo_walk (bs : List Int) (w : World) (Q : Quart w) (hb : bs.length = 64) :
    Calls Tryd.prog 4 #[blkV bs] w fun e w' => e = .returned (.bool true) ∧ Below w.heap.size w w' := by
  have HB0 := Blk.new w (ints .i64 bs) 28
  have hb0 := below1 w (.cells (ints .i64 bs).toArray 28)
  have Hlb : Hid ((ints .i64 bs).length = 64) := by show _ = _; rw [ints_length, hb]
  have Hlm : Hid ((ints .i64 (oTo bs)).length = 64) := by show _ = _; rw [ints_length, oTo_length]
  have hone := ints_one (k := .i64) (l := oTo bs)
  have HU := veil (to_any bs (w.alloc (.cells (ints .i64 bs).toArray 28)) hb (Q.after hb0))
  have HR := veil (fun W => refTo_any bs W hb)
  have HK := veil (fun W => basis_out 8 0 W (by omega))
  have heq := blk_same (oTo bs) (oTo_length bs)
  have hsz : (w.alloc (.cells (ints .i64 bs).toArray 28)).heap.size = w.heap.size + 1 := by simp
  unfold blkV at *
  generalize badB (-40000) 40000 bs = E at *
  generalize ints .i64 (oTo bs) = ms at *
  generalize ints .i64 bs = xs at *
  have r0 := HB0.range
  clear Q
  go_enter Tryd.func4, Tryd.ntmps4
  go_wp2_with (first
    | (refine wpList_load_mid rfl 28 (.tmp 1) rfl w.heap.size 0 rfl xs _ r0 Tryd.underlying28 rfl (info_blkn Hlb.out) ?_)
    | fail)
  refine HU.out.mono ?_
  rintro e w1 ⟨rfl, hb1⟩
  have hz1 := hb1.size
  rw [hsz] at hz1
  have hn1 := below1 w1 (.cells ms.toArray 28)
  have B0 := (HB0.below hb1 (by rw [hsz]; omega)).below hn1 (by omega)
  have B2 := Blk.new w1 ms 28
  have hbw := (hb0.trans (hb1.mono (by rw [hsz]; omega))).trans (hn1.mono (show w.heap.size ≤ w1.heap.size by omega))
  have r0' := B0.range
  have hzw : (w1.alloc (.cells ms.toArray 28)).heap.size = w1.heap.size + 1 := by simp
  have HW := veil (HR.out (w1.alloc (.cells ms.toArray 28)))
  clear r0 HB0 hb0 hb1 HU B0 HR hsz hn1
  go_upto_region 2 with (first
    | (refine wpList_store_new w1 rfl 28 (.tmp 3) (.tmp 12) rfl _ ms rfl rfl (info_blkn Hlm.out) (by rw [Hlm.out]; rfl) hone ?_)
    | fail)
  go_wp2_with (first
    | (refine wpList_load_mid rfl 28 (.tmp 1) rfl w.heap.size 0 rfl xs _ r0' Tryd.underlying28 rfl (info_blkn Hlb.out) ?_)
    | fail)
  refine HW.out.mono ?_
  rintro e w2 ⟨rfl, hb2⟩
  have hz2 := hb2.size
  rw [hzw] at hz2
  have hn2 := below1 w2 (.cells ms.toArray 28)
  have r2 := ((B2.below hb2 (by rw [hzw]; omega)).below hn2 (by omega)).range
  have r3 := (Blk.new w2 ms 28).range
  have hbw2 := (hbw.trans (hb2.mono (by rw [hzw]; omega))).trans (hn2.mono (show w.heap.size ≤ w2.heap.size by omega))
  clear B2 hb2 hbw r0' HW hzw hn2
  go_upto_region 3 with (first
    | (refine wpList_store_new w2 rfl 28 (.tmp 5) (.tmp 17) rfl _ ms rfl rfl (info_blkn Hlm.out) (by rw [Hlm.out]; rfl) hone ?_)
    | fail)
  go_wp2_with fail
  refine (HK.out _).mono ?_
  rintro e w3 ⟨rfl, rfl⟩
  go_wp2_with (first
    | (refine wpList_load_mid rfl 28 (.tmp 3) rfl w1.heap.size 0 rfl ms _ r2 Tryd.underlying28 rfl (info_blkn Hlm.out) ?_)
    | (refine wpList_load_mid rfl 28 (.tmp 5) rfl w2.heap.size 0 rfl ms _ r3 Tryd.underlying28 rfl (info_blkn Hlm.out) ?_)
    | fail)
  go_ret
  exact ⟨rfl, hbw2⟩
end Go.Proofs.YtgnpjejjnhdejaaDoor
