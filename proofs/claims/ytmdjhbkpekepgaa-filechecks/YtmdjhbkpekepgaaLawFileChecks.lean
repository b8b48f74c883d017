/- The law on file.Check, walked over its contract. -/
import Derived.Test.YtmdjhbkpekepgaaBd2
import Derived.Test.YtmdjhbkpekepgaaBd3
import Derived.Deep.Cut
namespace Go.Proofs.Ytmdjhbkpekepgaa
open Go.RowKit
set_option linter.unusedVariables false
set_option linter.unusedSimpArgs false
set_option maxRecDepth 100000

set_option maxRecDepth 100000 in
set_option maxHeartbeats 4000000 in
theorem fileChecks_by (HK : FCheckSpec) (f : FileL) (A : Option Addr) (c : Nat) (A2 : Option Addr) (c2 : Nat) (A3 : Option Addr) (c3 : Nat) (w : World) (hf : FileIn f A c A2 c2 A3 c3 w.heap.size w) :
    Calls Try.prog 3 #[fileV f A c A2 c2 A3 c3] w fun e w' => e = .returned (.bool true) ∧ Below w.heap.size w w' := by
  have hzv := run_zero_file
  have hb0 := below1 w (.cells (fileCells f A c A2 c2 A3 c3).toArray 32)
  have hz0 : (w.alloc (.cells (fileCells f A c A2 c2 A3 c3).toArray 32)).heap.size = w.heap.size + 1 := by simp
  have hTB := Blk.new w (fileCells f A c A2 c2 A3 c3) 32
  have Hlen := veil (fileCells_length hf.form A c A2 c2 A3 c3)
  have H1 := veil (fun W (h : FileIn f A c A2 c2 A3 c3 w.heap.size W) hG => HK f A c A2 c2 A3 c3 w.heap.size W h hG)
  have H2 := veil (fun W (h : FileIn f A c A2 c2 A3 c3 w.heap.size W) hG => refFileCheck_any f A c A2 c2 A3 c3 w.heap.size W h hG)
  have HN := veil (noCheck_any HK)
  have Hf := veil hf
  obtain ⟨E, hE⟩ : ∃ E, E = eFile f := ⟨_, rfl⟩
  rw [← hE] at H1 H2
  clear hf hE HK
  unfold fileV at H1 H2 ⊢
  generalize fileCells f A c A2 c2 A3 c3 = zs at *
  obtain ⟨W0, hW0⟩ : ∃ W0, W0 = w.alloc (.cells zs.toArray 32) := ⟨_, rfl⟩
  rw [← hW0] at hb0 hz0 hTB
  have HW0 := veil hW0
  clear hW0
  have hC1 := veil (H1.out W0.drew (Hf.out.below hb0.drew (Nat.le_refl _)) (by show w.heap.size ≤ W0.heap.size; omega))
  go_enter Try.func3, Try.ntmps3
  go_upto_region 1 with fail
  rw [← HW0.out]
  refine wp_region_held_drew (S := fun w' => Blk w' w.heap.size zs 32) (by kernel_rfl) hTB (fun hHeld0 => ?_)
  refine take_load 0 3 32 (.tmp 1) w.heap.size 0 zs _ rfl rfl (by kernel_rfl) (by kernel_rfl) (by kernel_rfl) (fun _ _ _ h => h) rfl rfl rfl (fun w' h => h.range) Try.underlying32 rfl (info_file Hlen.out) hHeld0 rfl ?_
  refine take_load 2 5 32 (.tmp 1) w.heap.size 0 zs _ rfl rfl (by kernel_rfl) (by kernel_rfl) (by kernel_rfl) (fun _ _ _ h => h) rfl rfl rfl (fun w' h => h.range) Try.underlying32 rfl (info_file Hlen.out) hHeld0 rfl ?_
  refine wpAnyH_ready (rs := [1]) (by kernel_rfl) (by simp) ?_
  refine AllReadyH.cons rfl (fun K hK => ?_) AllReadyH.nil
  go_simp
  refine hC1.out.mono ?_
  rintro e w1 ⟨rfl, hb1⟩
  have hb1' : Below W0.heap.size W0 w1 := below_of_drew hb1
  have hz1 := hb1'.size
  have hbw1 := hb0.trans (hb1'.mono (by omega))
  have hC2 := veil (H2.out w1 (Hf.out.below hbw1 (Nat.le_refl _)) (by omega))
  refine hK.out _ _ (hHeld0.below hb1 hHeld0.lt) (fun hHeld1 => ?_)
  clear hK K hb1 hb1' hC1 H1 H2
  refine wpAnyH_ready (rs := [3]) (by kernel_rfl) (by simp) ?_
  refine AllReadyH.cons rfl (fun K hK => ?_) AllReadyH.nil
  go_simp
  refine hC2.out.mono ?_
  rintro e w2 ⟨rfl, hb2⟩
  have hz2 := hb2.size
  have hbw2 := hbw1.trans (hb2.mono (by omega))
  refine hK.out _ _ (hHeld1.below hb2 (by omega)) (fun hHeld2 => ?_)
  clear hK K hb2 hC2
  refine take_pure 4 7 (.bool true) _ rfl rfl (by kernel_rfl) (by kernel_rfl) (by kernel_rfl) (fun _ _ _ h => h) rfl (fun w' hS => by go_simp) hHeld2 rfl ?_
  refine take_pure 5 8 (.bool true) _ rfl rfl (by kernel_rfl) (by kernel_rfl) (by kernel_rfl) (fun _ _ _ h => h) rfl (fun w' hS => by go_simp) hHeld2 rfl ?_
  refine take_pure 6 9 (.agg noCells.toArray) _ rfl rfl (by kernel_rfl) (by kernel_rfl) (by kernel_rfl) (fun _ _ _ h => h) rfl (fun w' hS => by go_simp) hHeld2 rfl ?_
  refine wpAnyH_ready (rs := [7]) (by kernel_rfl) (by simp) ?_
  refine AllReadyH.cons rfl (fun K hK => ?_) AllReadyH.nil
  go_simp
  refine (HN.out w2).mono ?_
  rintro e w3 ⟨rfl, hb3⟩
  have hfin := hbw2.trans (hb3.mono (by omega))
  refine hK.out _ _ (hHeld2.below hb3 (by omega)) (fun hHeld3 => ?_)
  clear hK K hb3
  refine take_pure 8 11 (.bool true) _ rfl rfl (by kernel_rfl) (by kernel_rfl) (by kernel_rfl) (fun _ _ _ h => h) rfl (fun w' hS => by go_simp) hHeld3 rfl ?_
  refine take_pure 9 12 (.bool true) _ rfl rfl (by kernel_rfl) (by kernel_rfl) (by kernel_rfl) (fun _ _ _ h => h) rfl (fun w' hS => by go_simp) hHeld3 rfl ?_
  refine take_pure 10 2 (.bool true) _ rfl rfl (by kernel_rfl) (by kernel_rfl) (by kernel_rfl) (fun _ _ _ h => h) rfl (fun w' hS => by go_simp) hHeld3 rfl ?_
  refine wpAnyH_done (by kernel_rfl) ?_ _
  go_wp2_with fail
  go_ret
  exact ⟨rfl, hfin⟩
end Go.Proofs.Ytmdjhbkpekepgaa
