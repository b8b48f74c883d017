/- The law on To and From, there and back, walked. -/
import Derived.Test.YtmohkboilchplaaZigTo
import Derived.Test.YtmohkboilchplaaDrive
namespace Go.Proofs.Ytmohkboilchplaa
open Go.RowKit
set_option linter.unusedVariables false
set_option linter.unusedSimpArgs false

set_option maxRecDepth 100000 in
set_option maxHeartbeats 4000000 in
theorem zigBack_walk (cs : List Int) (w : World) (hc : cs.length = 64) :
    Calls Try.prog 5 #[blkV cs] w fun e w' => e = .returned (.bool true) ∧ Below w.heap.size w w' := by
  have HZ := veil zigged_any
  have H1 := veil (fun w1 => to_any cs w1 hc)
  have H2 := veil (fun w1 => from_any (toL cs) w1 (by rw [toL, toK_length]))
  have H3 := veil (fun w1 => from_any cs w1 hc)
  have H4 := veil (fun w1 => to_any (fromL cs) w1 (by rw [fromL, fromK_length]))
  have heq := blk_same cs hc
  rw [from_to hc] at H2
  rw [to_from hc] at H4
  have Hl : Hid ((ints .i64 cs).length = 64) := by show _ = _; rw [ints_length, hc]
  unfold blkV at *
  generalize ints .i64 (toL cs) = ys at *
  generalize ints .i64 (fromL cs) = zs at *
  generalize ints .i64 cs = xs at *
  clear hc
  have hrW := range_new w xs 27
  have hbW := below1 w (.cells xs.toArray 27)
  have hzW : w.heap.size < (w.alloc (.cells xs.toArray 27)).heap.size := by simp
  have hu := Try.underlying27
  have hi := info_blkn Hl.out
  go_enter Try.func5, Try.ntmps5
  go_wp2_with fail
  generalize w.alloc (.cells xs.toArray 27) = W at *
  have hzD : w.heap.size < W.drew.heap.size := hzW
  refine wp_region_held_drew (S := fun w' => w'.rangeAt w.heap.size 0 xs) (by kernel_rfl) hrW (fun hHeld0 => ?_)
  refine wpAnyH_ready (rs := [0]) (by kernel_rfl) (by simp) ?_
  refine AllReadyH.cons rfl (fun K hK => ?_) AllReadyH.nil
  go_simp
  refine (HZ.out _).mono ?_
  rintro e w1 ⟨rfl, hb1⟩
  have hz1 := Nat.lt_of_lt_of_le hzD hb1.size
  refine hK.out _ _ (range_below hHeld0 hb1 hzD) (fun hHeld1 => ?_)
  clear hK K hHeld0
  refine take_pure 1 4 (.bool true) _ rfl rfl (by kernel_rfl) (by kernel_rfl) (by kernel_rfl) (fun _ _ _ h => h) rfl (fun w' hS => by go_simp) hHeld1 rfl ?_
  refine take_load 2 5 27 (.tmp 1) (w.heap.size) 0 xs _ rfl rfl (by kernel_rfl) (by kernel_rfl) (by kernel_rfl) (fun _ _ _ h => h) rfl rfl rfl (fun w' h => h) Try.underlying27 rfl hi hHeld1 rfl ?_
  refine take_load 5 8 27 (.tmp 1) (w.heap.size) 0 xs _ rfl rfl (by kernel_rfl) (by kernel_rfl) (by kernel_rfl) (fun _ _ _ h => h) rfl rfl rfl (fun w' h => h) Try.underlying27 rfl hi hHeld1 rfl ?_
  refine wpAnyH_ready (rs := [3]) (by kernel_rfl) (by simp) ?_
  refine AllReadyH.cons rfl (fun K hK => ?_) AllReadyH.nil
  go_simp
  refine (H1.out _).mono ?_
  rintro e w2 ⟨rfl, hb2⟩
  have hz2 := Nat.lt_of_lt_of_le hz1 hb2.size
  refine hK.out _ _ (range_below hHeld1 hb2 hz1) (fun hHeld2 => ?_)
  clear hK K hHeld1
  refine wpAnyH_ready (rs := [4]) (by kernel_rfl) (by simp) ?_
  refine AllReadyH.cons rfl (fun K hK => ?_) AllReadyH.nil
  go_simp
  refine (H2.out _).mono ?_
  rintro e w3 ⟨rfl, hb3⟩
  have hz3 := Nat.lt_of_lt_of_le hz2 hb3.size
  refine hK.out _ _ (range_below hHeld2 hb3 hz2) (fun hHeld3 => ?_)
  clear hK K hHeld2
  refine take_pure 6 9 (.bool true) _ rfl rfl (by kernel_rfl) (by kernel_rfl) (by kernel_rfl) (fun _ _ _ h => h) rfl (fun w' hS => by go_simp) hHeld3 rfl ?_
  refine take_pure 7 10 (.bool true) _ rfl rfl (by kernel_rfl) (by kernel_rfl) (by kernel_rfl) (fun _ _ _ h => h) rfl (fun w' hS => by go_simp) hHeld3 rfl ?_
  refine take_pure 8 11 (.bool true) _ rfl rfl (by kernel_rfl) (by kernel_rfl) (by kernel_rfl) (fun _ _ _ h => h) rfl (fun w' hS => by go_simp) hHeld3 rfl ?_
  refine take_load 9 12 27 (.tmp 1) (w.heap.size) 0 xs _ rfl rfl (by kernel_rfl) (by kernel_rfl) (by kernel_rfl) (fun _ _ _ h => h) rfl rfl rfl (fun w' h => h) Try.underlying27 rfl hi hHeld3 rfl ?_
  refine take_load 12 15 27 (.tmp 1) (w.heap.size) 0 xs _ rfl rfl (by kernel_rfl) (by kernel_rfl) (by kernel_rfl) (fun _ _ _ h => h) rfl rfl rfl (fun w' h => h) Try.underlying27 rfl hi hHeld3 rfl ?_
  refine wpAnyH_ready (rs := [10]) (by kernel_rfl) (by simp) ?_
  refine AllReadyH.cons rfl (fun K hK => ?_) AllReadyH.nil
  go_simp
  refine (H3.out _).mono ?_
  rintro e w4 ⟨rfl, hb4⟩
  have hz4 := Nat.lt_of_lt_of_le hz3 hb4.size
  refine hK.out _ _ (range_below hHeld3 hb4 hz3) (fun hHeld4 => ?_)
  clear hK K hHeld3
  refine wpAnyH_ready (rs := [11]) (by kernel_rfl) (by simp) ?_
  refine AllReadyH.cons rfl (fun K hK => ?_) AllReadyH.nil
  go_simp
  refine (H4.out _).mono ?_
  rintro e w5 ⟨rfl, hb5⟩
  have hz5 := Nat.lt_of_lt_of_le hz4 hb5.size
  refine hK.out _ _ (range_below hHeld4 hb5 hz4) (fun hHeld5 => ?_)
  clear hK K hHeld4
  refine take_pure 13 16 (.bool true) _ rfl rfl (by kernel_rfl) (by kernel_rfl) (by kernel_rfl) (fun _ _ _ h => h) rfl (fun w' hS => by go_simp) hHeld5 rfl ?_
  refine take_pure 14 17 (.bool true) _ rfl rfl (by kernel_rfl) (by kernel_rfl) (by kernel_rfl) (fun _ _ _ h => h) rfl (fun w' hS => by go_simp) hHeld5 rfl ?_
  refine take_pure 15 2 (.bool true) _ rfl rfl (by kernel_rfl) (by kernel_rfl) (by kernel_rfl) (fun _ _ _ h => h) rfl (fun w' hS => by go_simp) hHeld5 rfl ?_
  refine wpAnyH_done (by kernel_rfl) ?_ _
  have hf : Below w.heap.size w w5 := ((((hbW.trans ((below_of_drew hb1).mono (Nat.le_of_lt hzW))).trans (hb2.mono (Nat.le_of_lt hz1))).trans (hb3.mono (Nat.le_of_lt hz2))).trans (hb4.mono (Nat.le_of_lt hz3))).trans (hb5.mono (Nat.le_of_lt hz4))
  go_wp2
  go_ret
  exact ⟨rfl, hf⟩
end Go.Proofs.Ytmohkboilchplaa
