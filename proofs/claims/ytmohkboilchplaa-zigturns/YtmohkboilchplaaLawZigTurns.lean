/- The law on To and From beside the reference's, walked. -/
import Derived.Test.YtmohkboilchplaaRefZigTo
import Derived.Test.YtmohkboilchplaaDrive
namespace Go.Proofs.Ytmohkboilchplaa
open Go.RowKit
set_option linter.unusedVariables false
set_option linter.unusedSimpArgs false

/-- The block whose number 8 is 5. -/
def five : List Int := (List.replicate 64 (0 : Int)).set 8 5
theorem toL_five : (toL five)[2]? = some 5 := by decide +kernel
def fiveT : List Value := ints .i64 (toL five)
theorem fiveT_at : fiveT[2]? = some (.int .i64 5) := ints_at toL_five
theorem blk_index (xs : List Value) (v : Value) (h : xs[2]? = some v) (u : World) : (Instr.index 27 (.agg xs.toArray) (.int .i64 2)).run Try.prog u = .ok v u := by
  have hagg : (isAgg 3).run Try.prog u = .ok false u := by kernel_rfl
  cases hq : Try.prog.info? 3 with
  | none => have := info_intZ; simp [hq] at this
  | some inf =>
    have hs : inf.size = 1 := by have := info_intZ; simp [hq] at this; exact this.2.1
    simp [Instr.index, asIntOf, run_underlying Try.underlying27, Sem.run_bind, part, sizeOf, typeInfo, hq, hs, hagg, h]
set_option maxRecDepth 100000 in
set_option maxHeartbeats 4000000 in
theorem zigTurns_walk (cs : List Int) (w : World) (hc : cs.length = 64) :
    Calls Try.prog 4 #[blkV cs] w fun e w' => e = .returned (.bool true) ∧ Below w.heap.size w w' := by
  have H1 := veil (fun w1 => to_any cs w1 hc)
  have H2 := veil (fun w1 => refTo_any cs w1 hc)
  have H3 := veil (fun w1 => from_any cs w1 hc)
  have H4 := veil (fun w1 => refFrom_any cs w1 hc)
  have H5 : Hid (∀ w1, Calls Try.prog 12 #[blkV five] w1 fun e w' => e = .returned (.agg fiveT.toArray) ∧ Below w1.heap.size w1 w') := fun w1 => to_any five w1 (by simp [five])
  have heq := blk_same (toL cs) (by rw [toL, toK_length])
  have heq2 := blk_same (fromL cs) (by rw [fromL, fromK_length])
  have hix := blk_index fiveT _ fiveT_at
  have Hl : Hid ((ints .i64 cs).length = 64) := by show _ = _; rw [ints_length, hc]
  unfold blkV at H1 H2 H3 H4 heq heq2 ⊢
  generalize ints .i64 (toL cs) = ys at *
  generalize ints .i64 (fromL cs) = zs at *
  generalize ints .i64 cs = xs at *
  generalize fiveT = fs at *
  clear hc
  have hrW := range_new w xs 27
  have hbW := below1 w (.cells xs.toArray 27)
  have hzW : w.heap.size < (w.alloc (.cells xs.toArray 27)).heap.size := by simp
  have hi := info_blkn Hl.out
  go_enter Try.func4, Try.ntmps4
  go_wp2_with fail
  generalize w.alloc (.cells xs.toArray 27) = W at *
  have hzD : w.heap.size < W.drew.heap.size := hzW
  refine wp_region_held_drew (S := fun w' => w'.rangeAt w.heap.size 0 xs) (by kernel_rfl) hrW (fun hHeld0 => ?_)
  refine take_load 0 3 27 (.tmp 1) (w.heap.size) 0 xs _ rfl rfl (by kernel_rfl) (by kernel_rfl) (by kernel_rfl) (fun _ _ _ h => h) rfl rfl rfl (fun w' h => h) Try.underlying27 rfl hi hHeld0 rfl ?_
  refine take_load 2 5 27 (.tmp 1) (w.heap.size) 0 xs _ rfl rfl (by kernel_rfl) (by kernel_rfl) (by kernel_rfl) (fun _ _ _ h => h) rfl rfl rfl (fun w' h => h) Try.underlying27 rfl hi hHeld0 rfl ?_
  refine wpAnyH_ready (rs := [1]) (by kernel_rfl) (by simp) ?_
  refine AllReadyH.cons rfl (fun K hK => ?_) AllReadyH.nil
  go_simp
  refine (H1.out _).mono ?_
  rintro e w1 ⟨rfl, hb1⟩
  have hz1 := Nat.lt_of_lt_of_le hzD hb1.size
  refine hK.out _ _ (range_below hHeld0 hb1 hzD) (fun hHeld1 => ?_)
  clear hK K hHeld0
  refine wpAnyH_ready (rs := [3]) (by kernel_rfl) (by simp) ?_
  refine AllReadyH.cons rfl (fun K hK => ?_) AllReadyH.nil
  go_simp
  refine (H2.out _).mono ?_
  rintro e w2 ⟨rfl, hb2⟩
  have hz2 := Nat.lt_of_lt_of_le hz1 hb2.size
  refine hK.out _ _ (range_below hHeld1 hb2 hz1) (fun hHeld2 => ?_)
  clear hK K hHeld1
  refine take_pure 4 7 (.bool true) _ rfl rfl (by kernel_rfl) (by kernel_rfl) (by kernel_rfl) (fun _ _ _ h => h) rfl (fun w' hS => by go_simp) hHeld2 rfl ?_
  refine take_pure 5 8 (.bool true) _ rfl rfl (by kernel_rfl) (by kernel_rfl) (by kernel_rfl) (fun _ _ _ h => h) rfl (fun w' hS => by go_simp) hHeld2 rfl ?_
  refine take_load 6 9 27 (.tmp 1) (w.heap.size) 0 xs _ rfl rfl (by kernel_rfl) (by kernel_rfl) (by kernel_rfl) (fun _ _ _ h => h) rfl rfl rfl (fun w' h => h) Try.underlying27 rfl hi hHeld2 rfl ?_
  refine take_load 8 11 27 (.tmp 1) (w.heap.size) 0 xs _ rfl rfl (by kernel_rfl) (by kernel_rfl) (by kernel_rfl) (fun _ _ _ h => h) rfl rfl rfl (fun w' h => h) Try.underlying27 rfl hi hHeld2 rfl ?_
  refine wpAnyH_ready (rs := [7]) (by kernel_rfl) (by simp) ?_
  refine AllReadyH.cons rfl (fun K hK => ?_) AllReadyH.nil
  go_simp
  refine (H3.out _).mono ?_
  rintro e w3 ⟨rfl, hb3⟩
  have hz3 := Nat.lt_of_lt_of_le hz2 hb3.size
  refine hK.out _ _ (range_below hHeld2 hb3 hz2) (fun hHeld3 => ?_)
  clear hK K hHeld2
  refine wpAnyH_ready (rs := [9]) (by kernel_rfl) (by simp) ?_
  refine AllReadyH.cons rfl (fun K hK => ?_) AllReadyH.nil
  go_simp
  refine (H4.out _).mono ?_
  rintro e w4 ⟨rfl, hb4⟩
  have hz4 := Nat.lt_of_lt_of_le hz3 hb4.size
  refine hK.out _ _ (range_below hHeld3 hb4 hz3) (fun hHeld4 => ?_)
  clear hK K hHeld3
  refine take_pure 10 13 (.bool true) _ rfl rfl (by kernel_rfl) (by kernel_rfl) (by kernel_rfl) (fun _ _ _ h => h) rfl (fun w' hS => by go_simp) hHeld4 rfl ?_
  refine take_pure 11 14 (.bool true) _ rfl rfl (by kernel_rfl) (by kernel_rfl) (by kernel_rfl) (fun _ _ _ h => h) rfl (fun w' hS => by go_simp) hHeld4 rfl ?_
  refine take_pure 12 15 (.bool true) _ rfl rfl (by kernel_rfl) (by kernel_rfl) (by kernel_rfl) (fun _ _ _ h => h) rfl (fun w' hS => by go_simp) hHeld4 rfl ?_
  refine take_pure 13 16 (blkV five) _ rfl rfl (by kernel_rfl) (by kernel_rfl) (by kernel_rfl) (fun _ _ _ h => h) rfl (fun w' hS => by kernel_rfl) hHeld4 rfl ?_
  refine wpAnyH_ready (rs := [14]) (by kernel_rfl) (by simp) ?_
  refine AllReadyH.cons rfl (fun K hK => ?_) AllReadyH.nil
  go_simp
  refine (H5.out _).mono ?_
  rintro e w5 ⟨rfl, hb5⟩
  have hz5 := Nat.lt_of_lt_of_le hz4 hb5.size
  refine hK.out _ _ (range_below hHeld4 hb5 hz4) (fun hHeld5 => ?_)
  clear hK K hHeld4
  refine take_pure 15 18 (.int .i64 5) _ rfl rfl (by kernel_rfl) (by kernel_rfl) (by kernel_rfl) (fun _ _ _ h => h) rfl (fun w' hS => by go_simp) hHeld5 rfl ?_
  refine take_pure 16 19 (.bool true) _ rfl rfl (by kernel_rfl) (by kernel_rfl) (by kernel_rfl) (fun _ _ _ h => h) rfl (fun w' hS => by go_simp) hHeld5 rfl ?_
  refine take_pure 17 20 (.bool true) _ rfl rfl (by kernel_rfl) (by kernel_rfl) (by kernel_rfl) (fun _ _ _ h => h) rfl (fun w' hS => by go_simp) hHeld5 rfl ?_
  refine take_pure 18 2 (.bool true) _ rfl rfl (by kernel_rfl) (by kernel_rfl) (by kernel_rfl) (fun _ _ _ h => h) rfl (fun w' hS => by go_simp) hHeld5 rfl ?_
  refine wpAnyH_done (by kernel_rfl) ?_ _
  have hf : Below w.heap.size w w5 := ((((hbW.trans ((below_of_drew hb1).mono (Nat.le_of_lt hzW))).trans (hb2.mono (Nat.le_of_lt hz1))).trans (hb3.mono (Nat.le_of_lt hz2))).trans (hb4.mono (Nat.le_of_lt hz3))).trans (hb5.mono (Nat.le_of_lt hz4))
  go_wp2
  go_ret
  exact ⟨rfl, hf⟩
end Go.Proofs.Ytmohkboilchplaa
