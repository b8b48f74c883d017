/- The law WaveAcross, walked: it is no matter which of rows and columns comes first. -/
import Derived.Test.YtgnpjejjnhdejaaDoorWLaw
import Derived.Test.YtgnpjejjnhdejaaDoorDrive
namespace Go.Proofs.YtgnpjejjnhdejaaDoor
open Go.RowKit
set_option linter.unusedVariables false
set_option linter.unusedSimpArgs false

set_option maxHeartbeats 4000000 in
set_option maxRecDepth 100000 in
theorem waveAcross_walk (bs : List Int) (w : World) (Q : Quart w) (hb : bs.length = 64) :
    Calls Tryd.prog 8 #[blkV bs] w fun e w' => e = .returned (.bool true) ∧ Below w.heap.size w w' := by
  have hn0 := Nat.le_refl w.heap.size
  have HB0 := Blk.new w (ints .i64 bs) 28
  have hb0 := below1 w (.cells (ints .i64 bs).toArray 28)
  have Hlb : Hid ((ints .i64 bs).length = 64) := by show _ = _; rw [ints_length, hb]
  have L1 : Hid ((ints .i64 (oTo bs)).length = 64) := by show _ = _; rw [ints_length, oTo_length]
  have L2 : Hid ((ints .i64 (oTo (acL bs))).length = 64) := by show _ = _; rw [ints_length, oTo_length]
  have L3 : Hid ((ints .i64 (oFr bs)).length = 64) := by show _ = _; rw [ints_length, oFr_length]
  have L4 : Hid ((ints .i64 (oFr (acL bs))).length = 64) := by show _ = _; rw [ints_length, oFr_length]
  have O1 := ints_one (k := .i64) (l := oTo bs)
  have O2 := ints_one (k := .i64) (l := oTo (acL bs))
  have O3 := ints_one (k := .i64) (l := oFr bs)
  have O4 := ints_one (k := .i64) (l := oFr (acL bs))
  have HK := veil (waved_any (w.alloc (.cells (ints .i64 bs).toArray 28)) (Q.after hb0))
  have HA := veil (fun W => across_any bs W hb)
  have A2 := veil (fun W => across_any (oTo bs) W (oTo_length bs))
  have A3 := veil (fun W => across_any (oFr bs) W (oFr_length bs))
  rw [ac_to hb] at A2
  rw [ac_fr hb] at A3
  have C1 := veil (fun W hQ => to_any bs W hb hQ)
  have C2 := veil (fun W hQ => to_any (acL bs) W (acL_length bs) hQ)
  have C3 := veil (fun W hQ => from_any bs W hb hQ)
  have C4 := veil (fun W hQ => from_any (acL bs) W (acL_length bs) hQ)
  rw [ac_bad hb] at C2 C4
  have heq2 := blk_same (oTo (acL bs)) (oTo_length _)
  have heq4 := blk_same (oFr (acL bs)) (oFr_length _)
  unfold blkV at *
  generalize badB (-40000) 40000 bs = E at *
  generalize ints .i64 (oTo (acL bs)) = m2 at *
  generalize ints .i64 (oTo bs) = m1 at *
  generalize ints .i64 (oFr (acL bs)) = m4 at *
  generalize ints .i64 (oFr bs) = m3 at *
  generalize ints .i64 (acL bs) = ys at *
  generalize ints .i64 bs = xs at *
  go_enter Tryd.func8, Tryd.ntmps8
  go_wp2_with fail
  refine HK.out.mono ?_
  rintro e W0 ⟨rfl, hb1⟩
  have B0 := HB0.below hb1 HB0.lt
  have hbr := hb0.trans (hb1.mono hb0.size)
  have r0 := B0.range
  have C1' := veil (C1.out W0 (Q.after hbr))
  clear HB0 hb0 hb1 HK C1
  go_wp2_with (first
    | (refine wpList_load_mid rfl 28 (.tmp 1) rfl (w.heap.size) 0 rfl xs _ r0 Tryd.underlying28 rfl (info_blkn Hlb.out) ?_)
    | fail)
  refine C1'.out.mono ?_
  rintro e w1 ⟨rfl, hb1⟩
  have E0 := B0.step hb1 (.cells m1.toArray 28)
  have E1 := Blk.new w1 m1 28
  have hbs := below_step hbr hn0 hb1 (.cells m1.toArray 28)
  have HA1 := veil (HA.out (w1.alloc (.cells m1.toArray 28)))
  have r0 := E0.range
  clear B0 hbr hb1 C1'
  go_upto_region 4 with (first
    | (refine wpList_store_new w1 rfl 28 (.tmp 3) (.tmp 16) rfl _ m1 rfl rfl (info_blkn L1.out) (by rw [L1.out]; rfl) O1 ?_)
    | fail)
  go_wp2_with (first
    | (refine wpList_load_mid rfl 28 (.tmp 1) rfl (w.heap.size) 0 rfl xs _ r0 Tryd.underlying28 rfl (info_blkn Hlb.out) ?_)
    | fail)
  refine HA1.out.mono ?_
  rintro e v1 ⟨rfl, hc1⟩
  have E0' := E0.below hc1 E0.lt
  have E1' := E1.below hc1 E1.lt
  have hbs' := hbs.trans (hc1.mono hbs.size)
  have C2' := veil (C2.out v1 (Q.after hbs'))
  clear E0 E1 hbs hc1 HA1 C2 r0
  go_wp2_with fail
  refine C2'.out.mono ?_
  rintro e w2 ⟨rfl, hb2⟩
  have F0 := E0'.step hb2 (.cells m2.toArray 28)
  have F1 := E1'.step hb2 (.cells m2.toArray 28)
  have F2 := Blk.new w2 m2 28
  have hbt := below_step hbs' hn0 hb2 (.cells m2.toArray 28)
  have C3' := veil (C3.out _ (Q.after hbt))
  have r0 := F0.range
  clear E0' E1' hbs' hb2 C2' C3
  go_upto_region 5 with (first
    | (refine wpList_store_new w2 rfl 28 (.tmp 5) (.tmp 22) rfl _ m2 rfl rfl (info_blkn L2.out) (by rw [L2.out]; rfl) O2 ?_)
    | fail)
  go_wp2_with (first
    | (refine wpList_load_mid rfl 28 (.tmp 1) rfl (w.heap.size) 0 rfl xs _ r0 Tryd.underlying28 rfl (info_blkn Hlb.out) ?_)
    | fail)
  refine C3'.out.mono ?_
  rintro e w3 ⟨rfl, hb3⟩
  have G0 := F0.step hb3 (.cells m3.toArray 28)
  have G1 := F1.step hb3 (.cells m3.toArray 28)
  have G2 := F2.step hb3 (.cells m3.toArray 28)
  have G3 := Blk.new w3 m3 28
  have hbu := below_step hbt hn0 hb3 (.cells m3.toArray 28)
  have HA2 := veil (HA.out (w3.alloc (.cells m3.toArray 28)))
  clear r0
  have r0 := G0.range
  clear F0 F1 F2 hbt hb3 C3' HA
  go_upto_region 6 with (first
    | (refine wpList_store_new w3 rfl 28 (.tmp 7) (.tmp 27) rfl _ m3 rfl rfl (info_blkn L3.out) (by rw [L3.out]; rfl) O3 ?_)
    | fail)
  go_wp2_with (first
    | (refine wpList_load_mid rfl 28 (.tmp 1) rfl (w.heap.size) 0 rfl xs _ r0 Tryd.underlying28 rfl (info_blkn Hlb.out) ?_)
    | fail)
  refine HA2.out.mono ?_
  rintro e v3 ⟨rfl, hc3⟩
  have G1' := G1.below hc3 G1.lt
  have G2' := G2.below hc3 G2.lt
  have G3' := G3.below hc3 G3.lt
  have hbu' := hbu.trans (hc3.mono hbu.size)
  have C4' := veil (C4.out v3 (Q.after hbu'))
  clear G0 G1 G2 G3 hbu hc3 HA2 C4 r0
  go_wp2_with fail
  refine C4'.out.mono ?_
  rintro e w4 ⟨rfl, hb4⟩
  have K1 := G1'.step hb4 (.cells m4.toArray 28)
  have K2 := G2'.step hb4 (.cells m4.toArray 28)
  have K3 := G3'.step hb4 (.cells m4.toArray 28)
  have K4 := Blk.new w4 m4 28
  have hbv := below_step hbu' hn0 hb4 (.cells m4.toArray 28)
  have r1 := K1.range
  have r2 := K2.range
  have r3 := K3.range
  have r4 := K4.range
  have n1 := K1.lt
  have n2 := K2.lt
  have n3 := K3.lt
  have n4 := K4.lt
  clear G1' G2' G3' hbu' hb4 C4' K1 K2 K3 K4
  go_upto_region 7 with (first
    | (refine wpList_store_new w4 rfl 28 (.tmp 9) (.tmp 33) rfl _ m4 rfl rfl (info_blkn L4.out) (by rw [L4.out]; rfl) O4 ?_)
    | fail)
  generalize w4.alloc (.cells m4.toArray 28) = W at *
  generalize w1.heap.size = g1 at *
  generalize w2.heap.size = g2 at *
  generalize w3.heap.size = g3 at *
  generalize w4.heap.size = g4 at *
  have i1 := info_blkn L1.out
  have i2 := info_blkn L2.out
  have i3 := info_blkn L3.out
  have i4 := info_blkn L4.out
  have n1' : g1 < W.drew.heap.size := n1
  have n2' : g2 < W.drew.heap.size := n2
  have n3' : g3 < W.drew.heap.size := n3
  have n4' : g4 < W.drew.heap.size := n4
  go_wp2_with fail
  refine wp_region_held_drew (S := fun w' => (w'.rangeAt g1 0 m1 ∧ w'.rangeAt g2 0 m2) ∧ (w'.rangeAt g3 0 m3 ∧ w'.rangeAt g4 0 m4)) (by kernel_rfl) ⟨⟨r1, r2⟩, ⟨r3, r4⟩⟩ (fun hHeld0 => ?_)
  refine take_pure 0 35 (.int .i64 E) _ rfl rfl (by kernel_rfl) (by kernel_rfl) (by kernel_rfl) (fun _ _ _ h => h) rfl (fun w' hS => by go_simp) hHeld0 rfl ?_
  refine take_pure 1 36 (.int .i64 E) _ rfl rfl (by kernel_rfl) (by kernel_rfl) (by kernel_rfl) (fun _ _ _ h => h) rfl (fun w' hS => by go_simp) hHeld0 rfl ?_
  refine take_pure 2 37 (.bool true) _ rfl rfl (by kernel_rfl) (by kernel_rfl) (by kernel_rfl) (fun _ _ _ h => h) rfl (fun w' hS => by go_simp) hHeld0 rfl ?_
  refine take_pure 3 38 (.bool true) _ rfl rfl (by kernel_rfl) (by kernel_rfl) (by kernel_rfl) (fun _ _ _ h => h) rfl (fun w' hS => by go_simp) hHeld0 rfl ?_
  refine take_pure 4 39 (.int .i64 E) _ rfl rfl (by kernel_rfl) (by kernel_rfl) (by kernel_rfl) (fun _ _ _ h => h) rfl (fun w' hS => by go_simp) hHeld0 rfl ?_
  refine take_pure 5 40 (.int .i64 E) _ rfl rfl (by kernel_rfl) (by kernel_rfl) (by kernel_rfl) (fun _ _ _ h => h) rfl (fun w' hS => by go_simp) hHeld0 rfl ?_
  refine take_pure 6 41 (.bool true) _ rfl rfl (by kernel_rfl) (by kernel_rfl) (by kernel_rfl) (fun _ _ _ h => h) rfl (fun w' hS => by go_simp) hHeld0 rfl ?_
  refine take_pure 7 42 (.bool true) _ rfl rfl (by kernel_rfl) (by kernel_rfl) (by kernel_rfl) (fun _ _ _ h => h) rfl (fun w' hS => by go_simp) hHeld0 rfl ?_
  refine take_pure 8 43 (.bool true) _ rfl rfl (by kernel_rfl) (by kernel_rfl) (by kernel_rfl) (fun _ _ _ h => h) rfl (fun w' hS => by go_simp) hHeld0 rfl ?_
  refine take_load 9 44 28 (.tmp 3) (g1) 0 m1 _ rfl rfl (by kernel_rfl) (by kernel_rfl) (by kernel_rfl) (fun _ _ _ h => h) rfl rfl rfl (fun w' h => h.1.1) Tryd.underlying28 rfl i1 hHeld0 rfl ?_
  refine take_load 11 46 28 (.tmp 5) (g2) 0 m2 _ rfl rfl (by kernel_rfl) (by kernel_rfl) (by kernel_rfl) (fun _ _ _ h => h) rfl rfl rfl (fun w' h => h.1.2) Tryd.underlying28 rfl i2 hHeld0 rfl ?_
  refine wpAnyH_ready (rs := [10]) (by kernel_rfl) (by simp) ?_
  refine AllReadyH.cons rfl (fun K hK => ?_) AllReadyH.nil
  go_simp
  refine (A2.out _).mono ?_
  rintro e w5 ⟨rfl, hb5⟩
  have z5 := hb5.size
  refine hK.out _ _ (⟨⟨range_below hHeld0.1.1 hb5 n1', range_below hHeld0.1.2 hb5 n2'⟩, ⟨range_below hHeld0.2.1 hb5 n3', range_below hHeld0.2.2 hb5 n4'⟩⟩) (fun hHeld1 => ?_)
  clear hK K hHeld0
  refine take_pure 12 47 (.bool true) _ rfl rfl (by kernel_rfl) (by kernel_rfl) (by kernel_rfl) (fun _ _ _ h => h) rfl (fun w' hS => by go_simp) hHeld1 rfl ?_
  refine take_pure 13 48 (.bool true) _ rfl rfl (by kernel_rfl) (by kernel_rfl) (by kernel_rfl) (fun _ _ _ h => h) rfl (fun w' hS => by go_simp) hHeld1 rfl ?_
  refine take_pure 14 49 (.bool true) _ rfl rfl (by kernel_rfl) (by kernel_rfl) (by kernel_rfl) (fun _ _ _ h => h) rfl (fun w' hS => by go_simp) hHeld1 rfl ?_
  refine take_load 15 50 28 (.tmp 7) (g3) 0 m3 _ rfl rfl (by kernel_rfl) (by kernel_rfl) (by kernel_rfl) (fun _ _ _ h => h) rfl rfl rfl (fun w' h => h.2.1) Tryd.underlying28 rfl i3 hHeld1 rfl ?_
  refine take_load 17 52 28 (.tmp 9) (g4) 0 m4 _ rfl rfl (by kernel_rfl) (by kernel_rfl) (by kernel_rfl) (fun _ _ _ h => h) rfl rfl rfl (fun w' h => h.2.2) Tryd.underlying28 rfl i4 hHeld1 rfl ?_
  refine wpAnyH_ready (rs := [16]) (by kernel_rfl) (by simp) ?_
  refine AllReadyH.cons rfl (fun K hK => ?_) AllReadyH.nil
  go_simp
  refine (A3.out _).mono ?_
  rintro e w6 ⟨rfl, hb6⟩
  refine hK.out _ _ (⟨⟨range_below hHeld1.1.1 hb6 (Nat.lt_of_lt_of_le n1' z5), range_below hHeld1.1.2 hb6 (Nat.lt_of_lt_of_le n2' z5)⟩, ⟨range_below hHeld1.2.1 hb6 (Nat.lt_of_lt_of_le n3' z5), range_below hHeld1.2.2 hb6 (Nat.lt_of_lt_of_le n4' z5)⟩⟩) (fun hHeld2 => ?_)
  clear hK K hHeld1
  refine take_pure 18 53 (.bool true) _ rfl rfl (by kernel_rfl) (by kernel_rfl) (by kernel_rfl) (fun _ _ _ h => h) rfl (fun w' hS => by go_simp) hHeld2 rfl ?_
  refine take_pure 19 54 (.bool true) _ rfl rfl (by kernel_rfl) (by kernel_rfl) (by kernel_rfl) (fun _ _ _ h => h) rfl (fun w' hS => by go_simp) hHeld2 rfl ?_
  refine take_pure 20 2 (.bool true) _ rfl rfl (by kernel_rfl) (by kernel_rfl) (by kernel_rfl) (fun _ _ _ h => h) rfl (fun w' hS => by go_simp) hHeld2 rfl ?_
  refine wpAnyH_done (by kernel_rfl) ?_ _
  have hf : Below w.heap.size w w6 := (hbv.trans ((below_of_drew hb5).mono hbv.size)).trans (hb6.mono (Nat.le_trans hbv.size z5))
  go_wp2
  go_ret
  exact ⟨rfl, hf⟩
end Go.Proofs.YtgnpjejjnhdejaaDoor
