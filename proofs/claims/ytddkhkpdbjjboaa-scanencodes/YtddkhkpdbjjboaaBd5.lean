/- Texts shared by the claims of this seat, in one. -/
import Derived.Test.YtddkhkpdbjjboaaBd4
import Derived.Test.YtddkhkpdbjjboaaBd3
import Derived.StillTailTactics
import Derived.Deep.Cut
import Derived.Test.YtddkhkpdbjjboaaBd1
import Derived.Test.YtddkhkpdbjjboaaRows
import Derived.Laws.StructEq
import Derived.Lib.Strings
import Derived.Lib.Slices
import Derived.Lib.Small
import Derived.Lib.Walk
import Derived.Lib.BitFns
import Derived.BigQuiet
/- seg's writer: add, its contract. -/
namespace Go.Proofs.Ytddkhkpdbjjboaa
open Go.RowKit
set_option linter.unusedVariables false
set_option linter.unusedSimpArgs false
set_option maxRecDepth 100000

set_option maxRecDepth 100000 in
set_option maxHeartbeats 4000000 in
theorem add_small (B g : Nat) (D : List Int) (P : List (Int × Int)) (vd vp : Value) (f1 f2 : Int) (w : World) (h : Wr B g D P vd vp w) (hf : okF (f1, f2)) (hP : P.length < 20000) :
    Calls Try.prog 35 #[.pointer (some ⟨g, 0, none⟩), .agg #[.int .i64 f1, .int .i64 f2]] w fun e w' => e = .returned (.tuple #[]) ∧ ∃ vp', Wr B g D (P ++ [(f1, f2)]) vd vp' w' ∧ Only (wrF g vd vp) w w' ∧ ∀ q, wrF g vd vp' q → wrF g vd vp q ∨ w.heap.size ≤ q := by
  have hgl := h.blk.lt
  have hlow := h.low
  have hb0 := below1 w (.cells #[.int .i64 f1, .int .i64 f2] 78)
  have hW := h.below hb0
  have HB : Blk (w.alloc (.cells #[.int .i64 f1, .int .i64 f2] 78)) w.heap.size [.int .i64 f1, .int .i64 f2] 78 := Blk.new w [.int .i64 f1, .int .i64 f2] 78
  obtain ⟨Av, cv, hv, _, hcv, hmv⟩ := h.own.seen (List.mem_cons_of_mem _ (List.mem_cons_self ..))
  simp only [fieldRow] at hv hcv
  have hneb : ((P.length : Int) == 20000) = false := by simp; omega
  have hne : ¬ ((P.length : Int) = 20000) := by omega
  have hvn : ∀ q, vp.ownBlock = some q → q < w.heap.size := fun q hq => (h.own.tail.head.lt q hq).2
  subst hv
  have k1 := hW.blk.cell (i := 1) (v := .slice Av P.length cv) rfl
  have Hh := veil h
  have Hf := veil hf
  have HW := veil hW
  have HBv := veil HB
  have Hvn := veil hvn
  have Hb0 := veil hb0
  clear h hf hW HB hvn hb0
  go_enter Try.func35, Try.ntmps35
  go_upto_region 3 with fail
  obtain ⟨W0, hW0⟩ : ∃ W0, W0 = w.alloc (.cells #[.int .i64 f1, .int .i64 f2] 78) := ⟨_, rfl⟩
  rw [← hW0] at HW HBv Hb0 k1 ⊢
  have hz0 : W0.heap.size = w.heap.size + 1 := by rw [hW0]; simp
  have e0 := HBv.out.cell (i := 0) (v := .int .i64 f1) rfl
  have e1 := HBv.out.cell (i := 1) (v := .int .i64 f2) rfl
  clear hW0 e0 e1
  have hnf : some w.heap.size ≠ (Value.slice Av P.length cv).ownBlock := fun e => by have := Hvn.out _ e.symm; omega
  have Hnf := veil hnf
  have hP1 : P.length + 1 ≤ 1000000 := by omega
  clear k1 hnf
  refine wp_region_held_drew (S := fun w' => Blk w' w.heap.size [.int .i64 f1, .int .i64 f2] 78) (by kernel_rfl) (show Blk W0.drew w.heap.size _ _ from HBv.out) (fun hHeld0 => ?_)
  refine take_pure 0 12 (Value.pointer (some ⟨g, 0, none⟩)) _ rfl rfl (by kernel_rfl) (by kernel_rfl) (by kernel_rfl) (fun _ _ _ h => h) rfl (fun w' hS => by go_simp) hHeld0 rfl ?_
  refine take_pure 1 13 (Value.pointer (some ⟨g, 0, none⟩)) _ rfl rfl (by kernel_rfl) (by kernel_rfl) (by kernel_rfl) (fun _ _ _ h => h) rfl (fun w' hS => by go_simp) hHeld0 rfl ?_
  refine take_pure 2 14 (Value.pointer (some ⟨g, 0, none⟩)) _ rfl rfl (by kernel_rfl) (by kernel_rfl) (by kernel_rfl) (fun _ _ _ h => h) rfl (fun w' hS => by go_simp) hHeld0 rfl ?_
  refine take_pure 3 15 (Value.pointer (some ⟨g, 1, none⟩)) _ rfl rfl (by kernel_rfl) (by kernel_rfl) (by kernel_rfl) (fun _ _ _ h => h) rfl (fun w' hS => by go_simp) hHeld0 rfl ?_
  refine take_pure 5 17 (Value.agg #[.int .i64 f1, .int .i64 f2]) _ rfl rfl (by kernel_rfl) (by kernel_rfl) (by kernel_rfl) (fun _ _ _ h => h) rfl (fun w' hS => by have q0 := hS.cell (i := 0) rfl; have q1 := hS.cell (i := 1) rfl; go_simp) hHeld0 rfl ?_
  refine wpAnyH_ready (rs := [4, 6]) (by kernel_rfl) (by simp) ?_
  have kA : W0.drew.cell? ⟨g, 1, none⟩ = some (.slice Av P.length cv) := HW.out.blk.cell (i := 1) rfl
  have hb1 := below1 W0 (.cells #[.int .i64 f1, .int .i64 f2] 78)
  have hB1 : Blk (W0.alloc (.cells #[.int .i64 f1, .int .i64 f2] 78)).drew g [vd, .slice Av P.length cv, .int .i64 ((fieldBits P).length : Int)] 73 := HW.out.blk.below hb1.drew (by omega)
  have hF1 : Blk (W0.alloc (.cells #[.int .i64 f1, .int .i64 f2] 78)).drew w.heap.size [.int .i64 f1, .int .i64 f2] 78 := HBv.out.below hb1.drew (by omega)
  have hO1 : Owns B [fieldRow (.slice Av P.length cv) P, byteRow vd D] (W0.alloc (.cells #[.int .i64 f1, .int .i64 f2] 78)).drew := (HW.out.own.swap.below hb1).drew
  have hsn : Seen (W0.alloc (.cells #[.int .i64 f1, .int .i64 f2] 78)).drew (W0.heap.size + 1) (some ⟨w.heap.size + 1, 0, none⟩) (pairCells [(f1, f2)]) := by
    have h9 : Seen (W0.alloc (.cells #[.int .i64 f1, .int .i64 f2] 78)).drew (W0.heap.size + 1) (some ⟨W0.heap.size, 0, none⟩) (pairCells [(f1, f2)]) := Seen.new W0 (pairCells [(f1, f2)]) _ _ (Nat.lt_succ_self _)
    rw [hz0] at h9
    rw [hz0]
    exact h9
  have hzW : (W0.alloc (.cells #[.int .i64 f1, .int .i64 f2] 78)).drew.heap.size = W0.heap.size + 1 := by show (W0.alloc _).heap.size = _; simp
  have kB := hB1.cell (i := 1) (v := .slice Av P.length cv) rfl
  have hoW : Only (fun _ => False) w (W0.alloc (.cells #[.int .i64 f1, .int .i64 f2] 78)).drew := (Only.of_below Hb0.out (Nat.le_refl _) : Only (fun _ => False) w W0).trans (Only.of_below hb1.drew (Nat.le_refl _) : Only (fun _ => False) _ _) (fun q h => h.elim)
  refine AllReadyH.cons rfl (fun K hK => ?_) (AllReadyH.cons rfl (fun K hK => ?_) AllReadyH.nil)
  · go_simp
    refine hK.out _ _ hHeld0 (fun hHeld1 => ?_)
    clear hK K
    refine wpAnyH_ready (rs := [6]) (by kernel_rfl) (by simp) ?_
    refine AllReadyH.cons rfl (fun K hK => ?_) AllReadyH.nil
    go_simp
    refine hK.out _ _ hF1 (fun hHeld2 => ?_)
    clear hK K
    refine wpAnyH_ready (rs := [7]) (by kernel_rfl) (by simp) ?_
    refine AllReadyH.cons rfl (fun K hK => ?_) AllReadyH.nil
    refine step_ownV2 _ rfl (.tmp 16) (.tmp 18) 71 rfl B 78 2 16 elem_field (.slice Av P.length cv) P.length (pairCells P) [byteRow vd D] rfl hO1 (W0.heap.size + 1) (some ⟨w.heap.size + 1, 0, none⟩) 1 1 (pairCells [(f1, f2)]) rfl hsn (by simp [pairCells]) (by intro u hu; simp [pairCells] at hu; rcases hu with rfl | rfl <;> rfl) (by unfold maxLen; omega) (by omega) ?_
    intro vp' w3 hO3 hg3 hb3 hw3
    obtain ⟨A', c', hv', _, _, _⟩ := hO3.seen (List.mem_cons_self ..)
    simp only at hv'
    subst hv'
    rw [hzW] at hw3
    have hB3 := hB1.below hb3 hlow
    have hF3 := hF1.kept hg3 Hnf.out
    refine hK.out _ _ hF3 (fun hHeld3 => ?_)
    clear hK K hHeld2 hHeld1
    refine take_pure 8 20 (Value.pointer (some ⟨g, 0, none⟩)) _ rfl rfl (by kernel_rfl) (by kernel_rfl) (by kernel_rfl) (fun _ _ _ h => h) rfl (fun w' hS => by go_simp) hHeld3 rfl ?_
    refine take_pure 9 21 (Value.pointer (some ⟨g, 1, none⟩)) _ rfl rfl (by kernel_rfl) (by kernel_rfl) (by kernel_rfl) (fun _ _ _ h => h) rfl (fun w' hS => by go_simp) hHeld3 rfl ?_
    refine wpAnyH_ready (rs := [10]) (by kernel_rfl) (by simp) ?_
    refine AllReadyH.cons rfl (fun K hK => ?_) AllReadyH.nil
    have k3 := hB3.cell (i := 1) (v := .slice Av P.length cv) rfl
    have z3 := hB3.frozen 1
    have hg4 := grown_setCell w3 g 1 (.slice A' (P.length + 1) c')
    have hB4 : Blk (w3.setCell ⟨g, 1, none⟩ (.slice A' (P.length + 1) c')) g [vd, .slice A' (P.length + 1) c', .int .i64 ((fieldBits P).length : Int)] 73 := hB3.set 1 (.slice A' (P.length + 1) c')
    have hF4 := hF3.kept hg4 (by simp; omega)
    have hO4 : Owns B [fieldRow (.slice A' (P.length + 1) c') (P ++ [(f1, f2)]), byteRow vd D] (w3.setCell ⟨g, 1, none⟩ (.slice A' (P.length + 1) c')) := by rw [← fieldRow_append]; exact hO3.setCell (a := ⟨g, 1, none⟩) hlow _
    have hon1 : Only (wrF g vd (.slice Av P.length cv)) w (w3.setCell ⟨g, 1, none⟩ (.slice A' (P.length + 1) c')) := (((hoW.mono (fun q h => h.elim) : Only (wrF g vd (.slice Av P.length cv)) w _).trans (Only.of_grown hg3 (F := wrF g vd (.slice Av P.length cv)) (fun q e => .inl (.inr (.inr e)))) (fun q h => .inl h) : Only (wrF g vd (.slice Av P.length cv)) w w3)).trans (Only.of_grown hg4 (F := wrF g vd (.slice Av P.length cv)) (fun q e => by injection e with e; exact .inl (.inl e.symm))) (fun q h => .inl h)
    go_simp
    refine hK.out _ _ hF4 (fun hHeld4 => ?_)
    clear hK K hHeld3
    refine wpAnyH_done (by kernel_rfl) ?_ _
    clear hHeld4 hHeld0 kA kB hb1 hB1 hF1 hO1 hsn hzW hoW hB3 hF3 k3 z3 hg4 hO3 hg3 hb3
    rw [hz0] at hw3
    clear hz0
    have hzz := hon1.size
    obtain ⟨W4, hW4⟩ : ∃ W4, W4 = w3.setCell ⟨g, 1, none⟩ (.slice A' (P.length + 1) c') := ⟨_, rfl⟩
    rw [← hW4] at hB4 hF4 hO4 hon1 hzz ⊢
    have hB4' := hB4
    clear hB4 hW4
    have hlen : (fieldBits (P ++ [(f1, f2)])).length = (fieldBits P).length + f1.toNat := by rw [fieldBits_snoc, List.length_append, bitsN_length]
    have hf0 := Hf.out.1
    simp only at hf0
    have hfb := fieldBits_len_le P Hh.out.ok
    have hsum : IntKind.i64.wrap (((fieldBits P).length : Int) + f1) = ((fieldBits (P ++ [(f1, f2)])).length : Int) := by rw [IntKind.wrap_i64, hlen]; omega
    have c2 := hB4'.cell (i := 2) (v := .int .i64 ((fieldBits P).length : Int)) rfl
    have z2 := hB4'.frozen 2
    have d0 := hF4.cell (i := 0) (v := .int .i64 f1) rfl
    obtain ⟨N2, hN2⟩ : ∃ N2 : Int, N2 = ((fieldBits (P ++ [(f1, f2)])).length : Int) := ⟨_, rfl⟩
    have HN2 := veil hN2
    rw [← hN2] at hsum
    have HB4 := veil hB4'
    have HO4 := veil hO4
    have Hon1 := veil hon1
    have hP2 : (P ++ [(f1, f2)]).length ≤ 20000 := by rw [List.length_append]; simp; omega
    clear hlen hN2 hB4' hO4 hon1 hF4
    go_upto_region 4 with fail
    go_still_tail 9, (by kernel_rfl)
    repeat still_step
    try refine wpStill_nil ?_
    change wpList _ _ _ _ _ W4.drew
    go_wp2_with fail
    go_end0
    refine ⟨rfl, .slice A' (P.length + 1) c', ⟨?_, ?_, hlow, Hh.out.byt, ?_, hP2⟩, ?_, ?_⟩
    · rw [← HN2.out]; exact HB4.out.set 2 (.int .i64 N2)
    · exact (HO4.out.setCell (a := ⟨g, 2, none⟩) hlow _).swap.drew
    · intro f hf
      rcases List.mem_append.1 hf with hf | hf
      · exact Hh.out.ok f hf
      · rw [List.mem_singleton.1 hf]; exact Hf.out
    · exact (Hon1.out.trans (Only.of_grown (grown_setCell W4 g 2 (.int .i64 N2)) (F := wrF g vd (.slice Av P.length cv)) (fun q e => by injection e with e; exact .inl (.inl e.symm))) (fun q h => .inl h)).trans (Only.of_below ((Below.refl _ _).drew) (Nat.le_refl _) : Only (fun _ => False) _ _) (fun q h => h.elim)
    · intro q hq
      rcases hq with h | h | h
      · exact .inl (.inl h)
      · exact .inl (.inr (.inl h))
      · rcases hw3 with h2 | h2
        · rw [h2] at h; exact .inl (.inr (.inr h))
        · rw [h2] at h; injection h with h; right; omega
  · go_simp
    refine hK.out _ _ hF1 (fun hHeld1 => ?_)
    clear hK K
    refine wpAnyH_ready (rs := [4]) (by kernel_rfl) (by simp) ?_
    refine AllReadyH.cons rfl (fun K hK => ?_) AllReadyH.nil
    go_simp
    refine hK.out _ _ hF1 (fun hHeld2 => ?_)
    clear hK K
    refine wpAnyH_ready (rs := [7]) (by kernel_rfl) (by simp) ?_
    refine AllReadyH.cons rfl (fun K hK => ?_) AllReadyH.nil
    refine step_ownV2 _ rfl (.tmp 16) (.tmp 18) 71 rfl B 78 2 16 elem_field (.slice Av P.length cv) P.length (pairCells P) [byteRow vd D] rfl hO1 (W0.heap.size + 1) (some ⟨w.heap.size + 1, 0, none⟩) 1 1 (pairCells [(f1, f2)]) rfl hsn (by simp [pairCells]) (by intro u hu; simp [pairCells] at hu; rcases hu with rfl | rfl <;> rfl) (by unfold maxLen; omega) (by omega) ?_
    intro vp' w3 hO3 hg3 hb3 hw3
    obtain ⟨A', c', hv', _, _, _⟩ := hO3.seen (List.mem_cons_self ..)
    simp only at hv'
    subst hv'
    rw [hzW] at hw3
    have hB3 := hB1.below hb3 hlow
    have hF3 := hF1.kept hg3 Hnf.out
    refine hK.out _ _ hF3 (fun hHeld3 => ?_)
    clear hK K hHeld2 hHeld1
    refine take_pure 8 20 (Value.pointer (some ⟨g, 0, none⟩)) _ rfl rfl (by kernel_rfl) (by kernel_rfl) (by kernel_rfl) (fun _ _ _ h => h) rfl (fun w' hS => by go_simp) hHeld3 rfl ?_
    refine take_pure 9 21 (Value.pointer (some ⟨g, 1, none⟩)) _ rfl rfl (by kernel_rfl) (by kernel_rfl) (by kernel_rfl) (fun _ _ _ h => h) rfl (fun w' hS => by go_simp) hHeld3 rfl ?_
    refine wpAnyH_ready (rs := [10]) (by kernel_rfl) (by simp) ?_
    refine AllReadyH.cons rfl (fun K hK => ?_) AllReadyH.nil
    have k3 := hB3.cell (i := 1) (v := .slice Av P.length cv) rfl
    have z3 := hB3.frozen 1
    have hg4 := grown_setCell w3 g 1 (.slice A' (P.length + 1) c')
    have hB4 : Blk (w3.setCell ⟨g, 1, none⟩ (.slice A' (P.length + 1) c')) g [vd, .slice A' (P.length + 1) c', .int .i64 ((fieldBits P).length : Int)] 73 := hB3.set 1 (.slice A' (P.length + 1) c')
    have hF4 := hF3.kept hg4 (by simp; omega)
    have hO4 : Owns B [fieldRow (.slice A' (P.length + 1) c') (P ++ [(f1, f2)]), byteRow vd D] (w3.setCell ⟨g, 1, none⟩ (.slice A' (P.length + 1) c')) := by rw [← fieldRow_append]; exact hO3.setCell (a := ⟨g, 1, none⟩) hlow _
    have hon1 : Only (wrF g vd (.slice Av P.length cv)) w (w3.setCell ⟨g, 1, none⟩ (.slice A' (P.length + 1) c')) := (((hoW.mono (fun q h => h.elim) : Only (wrF g vd (.slice Av P.length cv)) w _).trans (Only.of_grown hg3 (F := wrF g vd (.slice Av P.length cv)) (fun q e => .inl (.inr (.inr e)))) (fun q h => .inl h) : Only (wrF g vd (.slice Av P.length cv)) w w3)).trans (Only.of_grown hg4 (F := wrF g vd (.slice Av P.length cv)) (fun q e => by injection e with e; exact .inl (.inl e.symm))) (fun q h => .inl h)
    go_simp
    refine hK.out _ _ hF4 (fun hHeld4 => ?_)
    clear hK K hHeld3
    refine wpAnyH_done (by kernel_rfl) ?_ _
    clear hHeld4 hHeld0 kA kB hb1 hB1 hF1 hO1 hsn hzW hoW hB3 hF3 k3 z3 hg4 hO3 hg3 hb3
    rw [hz0] at hw3
    clear hz0
    have hzz := hon1.size
    obtain ⟨W4, hW4⟩ : ∃ W4, W4 = w3.setCell ⟨g, 1, none⟩ (.slice A' (P.length + 1) c') := ⟨_, rfl⟩
    rw [← hW4] at hB4 hF4 hO4 hon1 hzz ⊢
    have hB4' := hB4
    clear hB4 hW4
    have hlen : (fieldBits (P ++ [(f1, f2)])).length = (fieldBits P).length + f1.toNat := by rw [fieldBits_snoc, List.length_append, bitsN_length]
    have hf0 := Hf.out.1
    simp only at hf0
    have hfb := fieldBits_len_le P Hh.out.ok
    have hsum : IntKind.i64.wrap (((fieldBits P).length : Int) + f1) = ((fieldBits (P ++ [(f1, f2)])).length : Int) := by rw [IntKind.wrap_i64, hlen]; omega
    have c2 := hB4'.cell (i := 2) (v := .int .i64 ((fieldBits P).length : Int)) rfl
    have z2 := hB4'.frozen 2
    have d0 := hF4.cell (i := 0) (v := .int .i64 f1) rfl
    obtain ⟨N2, hN2⟩ : ∃ N2 : Int, N2 = ((fieldBits (P ++ [(f1, f2)])).length : Int) := ⟨_, rfl⟩
    have HN2 := veil hN2
    rw [← hN2] at hsum
    have HB4 := veil hB4'
    have HO4 := veil hO4
    have Hon1 := veil hon1
    have hP2 : (P ++ [(f1, f2)]).length ≤ 20000 := by rw [List.length_append]; simp; omega
    clear hlen hN2 hB4' hO4 hon1 hF4
    go_upto_region 4 with fail
    go_still_tail 9, (by kernel_rfl)
    repeat still_step
    try refine wpStill_nil ?_
    change wpList _ _ _ _ _ W4.drew
    go_wp2_with fail
    go_end0
    refine ⟨rfl, .slice A' (P.length + 1) c', ⟨?_, ?_, hlow, Hh.out.byt, ?_, hP2⟩, ?_, ?_⟩
    · rw [← HN2.out]; exact HB4.out.set 2 (.int .i64 N2)
    · exact (HO4.out.setCell (a := ⟨g, 2, none⟩) hlow _).swap.drew
    · intro f hf
      rcases List.mem_append.1 hf with hf | hf
      · exact Hh.out.ok f hf
      · rw [List.mem_singleton.1 hf]; exact Hf.out
    · exact (Hon1.out.trans (Only.of_grown (grown_setCell W4 g 2 (.int .i64 N2)) (F := wrF g vd (.slice Av P.length cv)) (fun q e => by injection e with e; exact .inl (.inl e.symm))) (fun q h => .inl h)).trans (Only.of_below ((Below.refl _ _).drew) (Nat.le_refl _) : Only (fun _ => False) _ _) (fun q h => h.elim)
    · intro q hq
      rcases hq with h | h | h
      · exact .inl (.inl h)
      · exact .inl (.inr (.inl h))
      · rcases hw3 with h2 | h2
        · rw [h2] at h; exact .inl (.inr (.inr h))
        · rw [h2] at h; injection h with h; right; omega
end Go.Proofs.Ytddkhkpdbjjboaa

/- seg's writer: flush, its contract. -/
namespace Go.Proofs.Ytddkhkpdbjjboaa
open Go.RowKit
set_option linter.unusedVariables false
set_option linter.unusedSimpArgs false
set_option maxRecDepth 100000

set_option maxRecDepth 100000 in
set_option maxHeartbeats 4000000 in
theorem flush_any (B g : Nat) (D : List Int) (P : List (Int × Int)) (vd vp : Value) (w : World) (h : Wr B g D P vd vp w) (hD : D.length ≤ 1000000) :
    Calls Try.prog 62 #[.pointer (some ⟨g, 0, none⟩)] w fun e w' => e = .returned (.tuple #[]) ∧ ∃ D' P' vd' vp', Wr B g D' P' vd' vp' w' ∧ unpack D' ++ fieldBits P' = unpack D ++ fieldBits P ∧ P'.length ≤ 1 ∧ Only (wrF g vd vp) w w' ∧ ∀ q, wrF g vd' vp' q → wrF g vd vp q ∨ w.heap.size ≤ q := by
  have hgl := h.blk.lt
  have hlow := h.low
  have hbase := h.own.base
  obtain ⟨Av, cv, hv, hsv, hcv, hmv⟩ := h.own.seen (List.mem_cons_of_mem _ (List.mem_cons_self ..))
  simp only [fieldRow] at hv hcv hsv
  obtain ⟨Ad, cd, hvd, _, _, _⟩ := h.own.seen (List.mem_cons_self ..)
  simp only [byteRow, intRow] at hvd
  subst hv
  subst hvd
  have hw0 : writeErr P = 0 := by unfold writeErr; rw [if_neg (by have := h.few; omega), if_pos h.ok]
  have HC := veil (write_any Av cv w.heap.size P w hsv (Nat.le_refl _) (by have := h.few; unfold maxLen; omega))
  have k1 := h.blk.cell (i := 1) (v := .slice Av P.length cv) rfl
  have Hh := veil h
  rw [hw0] at HC
  have hfb := fieldBits_len_le P h.ok
  have hfew := h.few
  clear h hsv hcv hmv
  go_enter Try.func62, Try.ntmps62
  go_wp2_with fail
  refine HC.out.mono ?_
  rintro e w2 ⟨v2, out, rfl, hown2, hW2, hb2⟩
  obtain ⟨hby, p, hp, hunp⟩ := hW2.2 hw0
  obtain ⟨hq8, hql, htk⟩ := bits_take_done hunp hp
  obtain ⟨A2, c2, hv2, hs2, hc2, hm2⟩ := own_form' hown2
  subst hv2
  have HOut := veil (Owns.one (r := byteRow (.slice A2 out.length c2) out) hb2.size hown2)
  have hvdl := fun q hq => (Hh.out.own.head.lt q hq).2
  have Hvdl := veil hvdl
  clear hvdl
  have hB2 := Hh.out.blk.below hb2 hgl
  have hO2 := Hh.out.own.below hb2
  have hon2 : Only (fun _ => False) w w2 := Only.of_below hb2 (Nat.le_refl _)
  have hz2 := hb2.size
  have hunp' := hunp
  obtain ⟨N, hN⟩ : ∃ N, N = (fieldBits P).length := ⟨_, rfl⟩
  rw [← hN] at hB2 hq8 hql htk hfb
  obtain ⟨q, r, hNq, hr8⟩ : ∃ q r, N = 8 * q + r ∧ r < 8 := ⟨N / 8, N % 8, by omega, by omega⟩
  have hq : N / 8 = q := by omega
  have hr : N % 8 = r := by omega
  rw [hq] at hq8 hql htk
  have e1 : (N : Int) / 8 = (q : Int) := by omega
  have e2 : (N : Int) % 8 = (r : Int) := by omega
  have e3 : (N : Int).tmod 8 = (r : Int) := by rw [Int.tmod_eq_emod_of_nonneg (by omega)]; omega
  have e4 : (N : Int).tdiv 8 = (q : Int) := by rw [Int.tdiv_eq_ediv_of_nonneg (by omega)]; omega
  have e5 : IntKind.i64.wrap (q : Int) = (q : Int) := by rw [IntKind.wrap_i64]; omega
  have k2 := hB2.cell (i := 2) (v := .int .i64 (N : Int)) rfl
  have HB2 := veil hB2; have HO2 := veil hO2; have Hon2 := veil hon2; have Hunp := veil hunp; have Hby := veil hby; have Htk := veil htk; have Hs2 := veil hs2; have HN := veil hN; have HNq := veil hNq
  clear HC hown2 hW2 hb2 hB2 hO2 hon2 hunp hunp' hby htk hs2 k1 hN hNq hw0 hq hr
  go_wp2_with fail
  go_quiet (fail)
  have k0 := HB2.out.cell (i := 0) (v := .slice Ad D.length cd) rfl
  have hcut := fun u => run_cutB_to A2 out.length c2 q (by omega) u
  have hW3 : Blk (w2.drewN nq) g [.slice Ad D.length cd, .slice Av P.length cv, .int .i64 (N : Int)] 73 := HB2.out
  obtain ⟨w3, hw3⟩ : ∃ w3, w3 = w2.drewN nq := ⟨_, rfl⟩
  rw [← hw3] at hW3 ⊢
  have hO3 : Owns B [byteRow (.slice Ad D.length cd) D, fieldRow (.slice Av P.length cv) P] w3 := by rw [hw3]; exact HO2.out.drewN _
  have hs3 : Seen w3 w2.heap.size A2 (ints .u8 (out.take q)) := by rw [hw3]; exact (Hs2.out.takeInts q)
  have hon3 : Only (fun _ => False) w w3 := by rw [hw3]; exact Hon2.out.trans (Only.of_below ((Below.refl _ _).drewN nq) (Nat.le_refl _) : Only (fun _ => False) _ _) (fun q h => h.elim)
  have k0 := hW3.cell (i := 0) (v := .slice Ad D.length cd) rfl
  have hs4 : Seen w2 w2.heap.size A2 (ints .u8 out) := Hs2.out
  have hs5 : Seen w3 w2.heap.size A2 (ints .u8 out) := by rw [hw3]; exact hs4
  have hz3 : w3.heap.size = w2.heap.size := by rw [hw3]; rfl
  have HoutX : Owns w.heap.size [byteRow (.slice A2 out.length c2) out] w3.drew := by rw [hw3]; exact (HOut.out.drewN _).drew
  clear hw3 HB2 HO2 Hon2 Hs2 k2 hs4
  go_upto_region 2 with fail
  refine wp_region_held_drew (S := fun _ => True) (by kernel_rfl) trivial (fun hHeld0 => ?_)
  refine take_pure 0 24 (Value.pointer (some ⟨g, 0, none⟩)) _ rfl rfl (by kernel_rfl) (by kernel_rfl) (by kernel_rfl) (fun _ _ _ h => h) rfl (fun w' hS => by go_simp) hHeld0 rfl ?_
  refine take_pure 1 25 (Value.pointer (some ⟨g, 0, none⟩)) _ rfl rfl (by kernel_rfl) (by kernel_rfl) (by kernel_rfl) (fun _ _ _ h => h) rfl (fun w' hS => by go_simp) hHeld0 rfl ?_
  refine take_pure 2 26 (Value.pointer (some ⟨g, 0, none⟩)) _ rfl rfl (by kernel_rfl) (by kernel_rfl) (by kernel_rfl) (fun _ _ _ h => h) rfl (fun w' hS => by go_simp) hHeld0 rfl ?_
  refine take_pure 3 27 (Value.pointer (some ⟨g, 0, none⟩)) _ rfl rfl (by kernel_rfl) (by kernel_rfl) (by kernel_rfl) (fun _ _ _ h => h) rfl (fun w' hS => by go_simp) hHeld0 rfl ?_
  refine take_pure 5 29 (Value.slice A2 out.length c2) _ rfl rfl (by kernel_rfl) (by kernel_rfl) (by kernel_rfl) (fun _ _ _ h => h) rfl (fun w' hS => by go_simp) hHeld0 rfl ?_
  refine take_pure 6 30 (Value.int .i64 (q : Int)) _ rfl rfl (by kernel_rfl) (by kernel_rfl) (by kernel_rfl) (fun _ _ _ h => h) rfl (fun w' hS => by go_simp) hHeld0 rfl ?_
  refine take_pure 7 31 (Value.slice A2 q c2) _ rfl rfl (by kernel_rfl) (by kernel_rfl) (by kernel_rfl) (fun _ _ _ h => h) rfl (fun w' hS => by have := hcut w'; go_simp) hHeld0 rfl ?_
  refine wpAnyH_ready (rs := [4]) (by kernel_rfl) (by simp) ?_
  refine AllReadyH.cons rfl (fun K hK => ?_) AllReadyH.nil
  have k0' : w3.drew.cell? ⟨g, 0, none⟩ = some (.slice Ad D.length cd) := k0
  go_simp
  refine hK.out _ _ trivial (fun hHeld1 => ?_)
  clear hK K
  refine wpAnyH_ready (rs := [8]) (by kernel_rfl) (by simp) ?_
  refine AllReadyH.cons rfl (fun K hK => ?_) AllReadyH.nil
  obtain ⟨w4, hw4⟩ : ∃ w4, w4 = w3.drew := ⟨_, rfl⟩
  have hW4 : Blk w4 g [.slice Ad D.length cd, .slice Av P.length cv, .int .i64 (N : Int)] 73 := by rw [hw4]; exact hW3
  have hO4 : Owns B [byteRow (.slice Ad D.length cd) D, fieldRow (.slice Av P.length cv) P] w4 := by rw [hw4]; exact hO3.drew
  have hs4 : Seen w4 w2.heap.size A2 (ints .u8 (out.take q)) := by rw [hw4]; exact hs3
  have hs6 : Seen w4 w2.heap.size A2 (ints .u8 out) := by rw [hw4]; exact hs5
  have hon4 : Only (fun _ => False) w w4 := by rw [hw4]; exact hon3.trans (Only.of_below ((Below.refl _ _).drew) (Nat.le_refl _) : Only (fun _ => False) _ _) (fun q h => h.elim)
  have hz4 : w4.heap.size = w2.heap.size := by rw [hw4]; exact hz3
  have Hw4 := veil hw4
  have HOut4 : Hid (Owns w.heap.size [byteRow (.slice A2 out.length c2) out] w4) := by show Owns _ _ _; rw [hw4]; exact HoutX
  have hlt : (ints .u8 (out.take q)).length = q * 1 := by rw [ints_length, List.length_take]; omega
  have hm1 : D.length + q ≤ maxLen := by unfold maxLen; omega
  have hm2 : (D.length + q) * 1 ≤ 140737488355328 := by omega
  have HW4 := veil hW4; have Hon4 := veil hon4; have Hs6 := veil hs6
  have Hlt := veil hlt
  clear hw4 hW3 hO3 hs3 hs5 hon3 hz3 k0 hW4 hon4 hs6 hlt
  refine step_ownV2 _ rfl (.tmp 28) (.tmp 31) 29 rfl B 5 1 1 elem_byte (.slice Ad D.length cd) D.length (ints .u8 D) [fieldRow (.slice Av P.length cv) P] rfl (by rw [← Hw4.out]; exact hO4) w2.heap.size A2 q c2 (ints .u8 (out.take q)) rfl (by rw [← Hw4.out]; exact hs4) Hlt.out ints_one hm1 hm2 ?_
  intro vd' w5 hO5 hg5 hb5 hw5
  rw [← Hw4.out] at hg5 hb5 hw5
  obtain ⟨Ad', cd', hv5, _, _, _⟩ := hO5.seen (List.mem_cons_self ..)
  simp only at hv5
  subst hv5
  have hB5 := HW4.out.below hb5 hlow
  refine hK.out _ _ trivial (fun hHeld2 => ?_)
  clear hK K hHeld1 hHeld0
  refine take_pure 9 33 (Value.pointer (some ⟨g, 0, none⟩)) _ rfl rfl (by kernel_rfl) (by kernel_rfl) (by kernel_rfl) (fun _ _ _ h => h) rfl (fun w' hS => by go_simp) hHeld2 rfl ?_
  refine take_pure 10 34 (Value.pointer (some ⟨g, 0, none⟩)) _ rfl rfl (by kernel_rfl) (by kernel_rfl) (by kernel_rfl) (fun _ _ _ h => h) rfl (fun w' hS => by go_simp) hHeld2 rfl ?_
  refine wpAnyH_ready (rs := [11]) (by kernel_rfl) (by simp) ?_
  refine AllReadyH.cons rfl (fun K hK => ?_) AllReadyH.nil
  have k5 := hB5.cell (i := 0) (v := .slice Ad D.length cd) rfl
  have z5 := hB5.frozen 0
  go_simp
  refine hK.out _ _ trivial (fun hHeld3 => ?_)
  clear hK K hHeld2
  refine wpAnyH_done (by kernel_rfl) ?_ _
  have hg6 := grown_setCell w5 g 0 (.slice Ad' (D.length + q) cd')
  have hB6 : Blk (w5.setCell ⟨g, 0, none⟩ (.slice Ad' (D.length + q) cd')) g [.slice Ad' (D.length + q) cd', .slice Av P.length cv, .int .i64 (N : Int)] 73 := hB5.set 0 _
  have hO6 : Owns B [byteRow (.slice Ad' (D.length + q) cd') (D ++ out.take q), fieldRow (.slice Av P.length cv) P] (w5.setCell ⟨g, 0, none⟩ (.slice Ad' (D.length + q) cd')) := by
    have e : byteRow (.slice Ad' (D.length + q) cd') (D ++ out.take q) = ⟨5, 1, .slice Ad' (D.length + q) cd', D.length + q, ints .u8 D ++ ints .u8 (out.take q)⟩ := by
      simp only [byteRow, intRow, ints_append]
      congr 1
      rw [List.length_append, List.length_take]; omega
    rw [e]
    exact hO5.setCell (a := ⟨g, 0, none⟩) hlow _
  have hO7 : Owns w.heap.size [byteRow (.slice A2 out.length c2) out] (w5.setCell ⟨g, 0, none⟩ (.slice Ad' (D.length + q) cd')) :=
    (HOut4.out.only (Only.of_grown hg5 (F := fun x => (Value.slice Ad D.length cd).ownBlock = some x) (fun x e => .inl e)) (fun r hr x hx hFx => by
      rw [List.mem_singleton.1 hr] at hx
      have h1 := Hvdl.out x hFx
      have h2 := (HOut4.out.head.lt x hx).1
      omega)).setCell (a := ⟨g, 0, none⟩) hgl _
  have hon6 : Only (wrF g (.slice Ad D.length cd) (.slice Av P.length cv)) w (w5.setCell ⟨g, 0, none⟩ (.slice Ad' (D.length + q) cd')) :=
    (((Hon4.out.mono (fun q h => h.elim) : Only (wrF g (.slice Ad D.length cd) (.slice Av P.length cv)) w w4).trans (Only.of_grown hg5 (F := wrF g (.slice Ad D.length cd) (.slice Av P.length cv)) (fun q e => .inl (.inr (.inl e)))) (fun q h => .inl h) : Only (wrF g (.slice Ad D.length cd) (.slice Av P.length cv)) w w5)).trans (Only.of_grown hg6 (F := wrF g (.slice Ad D.length cd) (.slice Av P.length cv)) (fun q e => by injection e with e; exact .inl (.inl e.symm))) (fun q h => .inl h)
  clear hHeld3 hO5 hg5 hb5 hB5 k5 z5 hg6 hO4 hs4 HW4 Hon4 Hs6 Hw4 HOut4 HoutX k0 k0' HOut
  rw [hz4] at hw5
  obtain ⟨w6, hw6⟩ : ∃ w6, w6 = w5.setCell ⟨g, 0, none⟩ (.slice Ad' (D.length + q) cd') := ⟨_, rfl⟩
  rw [← hw6] at hB6 hO6 hO7 hon6 ⊢
  clear hw6
  have m1 := hB6.cell (i := 1) (v := .slice Av P.length cv) rfl
  have m2 := hB6.cell (i := 2) (v := .int .i64 (N : Int)) rfl
  have y1 := hB6.frozen 1
  have y2 := hB6.frozen 2
  have hB8 : Blk ((w6.setCell ⟨g, 1, none⟩ (.slice none 0 0)).setCell ⟨g, 2, none⟩ (.int .i64 0)) g [.slice Ad' (D.length + q) cd', .slice none 0 0, .int .i64 0] 73 := (hB6.set 1 _).set 2 _
  have hg8 : w6.grownBy ((w6.setCell ⟨g, 1, none⟩ (.slice none 0 0)).setCell ⟨g, 2, none⟩ (.int .i64 0)) (some g) := (grown_setCell w6 g 1 _).trans (grown_setCell _ g 2 _)
  have HB8 := veil hB8; have Hg8 := veil hg8; have HO6 := veil hO6; have HO7 := veil hO7; have Hon6 := veil hon6
  clear hB8 hg8 hO6 hO7 hon6 hB6
  go_upto_region 4 with fail
  clear m1 m2 y1 y2
  obtain ⟨w8, hw8⟩ : ∃ w8, w8 = (w6.setCell ⟨g, 1, none⟩ (.slice none 0 0)).setCell ⟨g, 2, none⟩ (.int .i64 0) := ⟨_, rfl⟩
  rw [← hw8] at HB8 Hg8 ⊢
  clear hw8
  have hO8 := HO6.out.kept Hg8.out hlow
  have hOut8 := HO7.out.kept Hg8.out hgl
  have hon8 : Only (wrF g (.slice Ad D.length cd) (.slice Av P.length cv)) w w8 := Hon6.out.trans (Only.of_grown Hg8.out (F := wrF g (.slice Ad D.length cd) (.slice Av P.length cv)) (fun q e => by injection e with e; exact .inl (.inl e.symm))) (fun q h => .inl h)
  have hWr8 : Wr B g (D ++ out.take q) [] (.slice Ad' (D.length + q) cd') (.slice none 0 0) w8 :=
    ⟨HB8.out, (hO8.swap.tail.fresh 78 2).swap, hlow, by
      intro x hx
      rcases List.mem_append.1 hx with hx | hx
      · exact Hh.out.byt x hx
      · exact Hby.out x (List.mem_of_mem_take hx), by simp, by simp⟩
  have hsub8 : ∀ x, wrF g (.slice Ad' (D.length + q) cd') (.slice none 0 0) x → wrF g (.slice Ad D.length cd) (.slice Av P.length cv) x ∨ w.heap.size ≤ x := by
    intro x hx
    rcases hx with h | h | h
    · exact .inl (.inl h)
    · rcases hw5 with h2 | h2
      · rw [h2] at h; exact .inl (.inr (.inl h))
      · rw [h2] at h; injection h with h; right; omega
    · cases h
  have HWr8 := veil hWr8; have Hsub8 := veil hsub8; have Hon8 := veil hon8
  have hz8 := hon8.size
  obtain ⟨A9, c9, hv9, hs9, _, _⟩ := hOut8.seen (List.mem_cons_self ..)
  simp only [byteRow, intRow] at hv9 hs9
  obtain ⟨rfl, rfl⟩ : A2 = A9 ∧ c2 = c9 := by simpa using hv9
  clear hO8 hOut8 hon8 hWr8 hsub8 HO6 HO7 Hon6 HB8 Hg8 hv9 hw5
  have Hs9 := veil hs9
  clear hs9
  by_cases hr0 : r = 0
  · have hrz : ¬ (0 : Int) < (r : Int) := by omega
    have hall : (fieldBits P).take (8 * q) = fieldBits P := List.take_of_length_le (by rw [← HN.out, HNq.out]; omega)
    have hbits : unpack (D ++ out.take q) ++ fieldBits [] = unpack D ++ fieldBits P := by rw [unpack_append, Htk.out, hall]; simp [fieldBits]
    have Hbits := veil hbits
    clear hall hbits hr0
    go_wp2_with fail
    go_end0
    exact ⟨rfl, _, _, _, _, HWr8.out, Hbits.out, by simp, Hon8.out, Hsub8.out⟩
  · have hrz : (0 : Int) < (r : Int) := by omega
    have hN8 : (fieldBits P).length / 8 = q := by rw [← HN.out, HNq.out]; omega
    have hN9 : (fieldBits P).length % 8 = r := by rw [← HN.out, HNq.out]; omega
    obtain ⟨x, hx, hx256, hxb, hxl⟩ := bits_left Hby.out Hunp.out hp (by rw [hN9]; omega)
    rw [hN8, hN9] at hxb
    rw [hN9] at hxl
    rw [hN8] at hx
    obtain ⟨g9, o9, x9, rfl, hg9, hx9, hc9⟩ := Hs9.out.int (k := q) (by have := (List.getElem?_eq_some_iff.1 hx).1; exact this)
    obtain rfl : x9 = (x : Int) := by rw [hx] at hx9; injection hx9 with h; exact h.symm
    obtain ⟨X, hX⟩ : ∃ X, X = x / 2 ^ (8 - r) := ⟨_, rfl⟩
    rw [← hX] at hxb hxl
    have hfit : okF ((r : Int), (X : Int)) := (okF_nat r X).2 ⟨by omega, hxl⟩
    have HA := veil (add_small B g (D ++ out.take q) [] (.slice Ad' (D.length + q) cd') (.slice none 0 0) (r : Int) (X : Int) w8 HWr8.out hfit (by simp))
    have hbits : unpack (D ++ out.take q) ++ fieldBits ([] ++ [((r : Int), (X : Int))]) = unpack D ++ fieldBits P := by
      rw [List.nil_append, unpack_append, Htk.out, List.append_assoc]
      congr 1
      simp only [fieldBits, List.flatMap_cons, List.flatMap_nil, List.append_nil, Int.toNat_natCast]
      rw [hxb]
      exact List.take_append_drop _ _
    have Hbits := veil hbits
    have HX := veil hX
    have hXl : X < 256 := by rw [hX]; exact Nat.lt_of_le_of_lt (Nat.div_le_self _ _) hx256
    have hql2 : q < out.length := (List.getElem?_eq_some_iff.1 hx).1
    clear hbits hfit hxb hx hx9 hN8 hN9 hX hcut
    go_wp2_with fail
    rw [show (x : Int) / 2 ^ (8 - r) = (X : Int) by rw [HX.out]; simp]
    refine HA.out.mono ?_
    rintro e w9 ⟨rfl, vp9, hW9, hon9, hsub9⟩
    have hon10 : Only (wrF g (.slice Ad D.length cd) (.slice Av P.length cv)) w w9 := Hon8.out.trans hon9 (fun q hq => Hsub8.out q hq)
    have hsub10 : ∀ x, wrF g (.slice Ad' (D.length + q) cd') vp9 x → wrF g (.slice Ad D.length cd) (.slice Av P.length cv) x ∨ w.heap.size ≤ x := fun x hx => by
      rcases hsub9 x hx with h | h
      · exact Hsub8.out x h
      · right; omega
    have HW9 := veil hW9; have Hon10 := veil hon10; have Hsub10 := veil hsub10
    clear hW9 hon9 hsub9 hon10 hsub10 HA HX
    go_wp2_with fail
    go_end0
    exact ⟨rfl, _, _, _, _, HW9.out, Hbits.out, by simp, Hon10.out, Hsub10.out⟩
end Go.Proofs.Ytddkhkpdbjjboaa

/- seg's writer: add, whatever is pending; bytes; their contracts. -/
namespace Go.Proofs.Ytddkhkpdbjjboaa
open Go.RowKit
set_option linter.unusedVariables false
set_option linter.unusedSimpArgs false
set_option maxRecDepth 100000

set_option maxRecDepth 100000 in
set_option maxHeartbeats 4000000 in
theorem add_big (B g : Nat) (D0 : List Int) (P0 : List (Int × Int)) (vd0 vp0 : Value) (f1 f2 : Int) (w0 : World) (h0 : Wr B g D0 P0 vd0 vp0 w0) (hf : okF (f1, f2)) (hP0 : P0.length = 20000) (hD0 : D0.length ≤ 1000000) :
    Calls Try.prog 35 #[.pointer (some ⟨g, 0, none⟩), .agg #[.int .i64 f1, .int .i64 f2]] w0 fun e w' => e = .returned (.tuple #[]) ∧ ∃ D' P' vd' vp', Wr B g D' P' vd' vp' w' ∧ unpack D' ++ fieldBits P' = unpack D0 ++ fieldBits P0 ++ bitsN f1.toNat f2.toNat ∧ Only (wrF g vd0 vp0) w0 w' ∧ ∀ q, wrF g vd' vp' q → wrF g vd0 vp0 q ∨ w0.heap.size ≤ q := by
  have hgl := h0.blk.lt
  have hlow := h0.low
  have hb0 := below1 w0 (.cells #[.int .i64 f1, .int .i64 f2] 78)
  have hW := h0.below hb0
  have HB : Blk (w0.alloc (.cells #[.int .i64 f1, .int .i64 f2] 78)) w0.heap.size [.int .i64 f1, .int .i64 f2] 78 := Blk.new w0 [.int .i64 f1, .int .i64 f2] 78
  obtain ⟨Av0, cv0, hv0, _, _, _⟩ := h0.own.seen (List.mem_cons_of_mem _ (List.mem_cons_self ..))
  simp only [fieldRow] at hv0
  have hfoot := fun q hq => (h0.foot (q := q) hq).1
  subst hv0
  rw [hP0] at *
  have k1 := hW.blk.cell (i := 1) (v := .slice Av0 20000 cv0) rfl
  have HFl := veil (flush_any B g D0 P0 _ _ _ hW hD0)
  have hz1 : (w0.alloc (.cells #[.int .i64 f1, .int .i64 f2] 78)).heap.size = w0.heap.size + 1 := by simp
  have Hf := veil hf
  have HBv := veil HB
  have Hfoot := veil hfoot
  have Hb0 := veil hb0
  clear h0 hf hW HB hfoot hb0
  go_enter Try.func35, Try.ntmps35
  go_wp2_with fail
  refine HFl.out.mono ?_
  rintro e W0 ⟨rfl, D, P, vd, vp, hWr, hbits, hPl, honF, hsubF⟩
  obtain ⟨Av, cv, hv, _, _, _⟩ := hWr.own.seen (List.mem_cons_of_mem _ (List.mem_cons_self ..))
  simp only [fieldRow] at hv
  subst hv
  obtain ⟨fb, hfb⟩ : ∃ fb, fb = w0.heap.size := ⟨_, rfl⟩
  have hnF : ¬ wrF g vd0 (.slice Av0 20000 cv0) w0.heap.size := fun h => by have := Hfoot.out _ h; omega
  have HBf := honF.blk HBv.out hnF
  have hvn : ∀ q, (Value.slice Av P.length cv).ownBlock = some q → q ≠ fb := fun q hq e => by
    rcases hsubF q (.inr (.inr hq)) with h | h
    · rw [e, hfb] at h; exact hnF h
    · omega
  have honA : Only (wrF g vd0 (.slice Av0 20000 cv0)) w0 W0 := ((Only.of_below Hb0.out (Nat.le_refl _) : Only (wrF g vd0 (.slice Av0 20000 cv0)) _ _)).trans honF (fun q h => .inl h)
  have hsubA : ∀ q, wrF g vd (.slice Av P.length cv) q → wrF g vd0 (.slice Av0 20000 cv0) q ∨ w0.heap.size ≤ q := fun q hq => by
    rcases hsubF q hq with h | h
    · exact .inl h
    · right; omega
  have hfin : unpack D ++ fieldBits (P ++ [(f1, f2)]) = unpack D0 ++ fieldBits P0 ++ bitsN f1.toNat f2.toNat := by rw [fieldBits_snoc, ← List.append_assoc, hbits]
  rw [← hfb] at HBf
  have hfg : fb ≠ g := by omega
  have hfz : fb < W0.heap.size := by have := honF.size; omega
  have hgl0 : g < W0.heap.size := hWr.blk.lt
  have Hh := veil hWr; have HW := veil hWr; have HBv := veil HBf; have Hvn := veil hvn; have HonA := veil honA; have HsubA := veil hsubA; have Hfin := veil hfin
  have hP : P.length < 20000 := by omega
  clear hWr hbits honF hsubF hnF HBf hvn honA hsubA hfin HFl k1
  go_upto_region 3 with fail
  rw [← hfb]
  have Hfb := veil hfb
  have Hz0 : Hid (w0.heap.size ≤ W0.heap.size) := by show _ ≤ _; omega
  clear hfb
  have hnf : some fb ≠ (Value.slice Av P.length cv).ownBlock := fun e => Hvn.out _ e.symm rfl
  have Hnf := veil hnf
  have hP1 : P.length + 1 ≤ 1000000 := by omega
  clear hnf
  refine wp_region_held_drew (S := fun w' => Blk w' fb [.int .i64 f1, .int .i64 f2] 78) (by kernel_rfl) (show Blk W0.drew fb _ _ from HBv.out) (fun hHeld0 => ?_)
  refine take_pure 0 12 (Value.pointer (some ⟨g, 0, none⟩)) _ rfl rfl (by kernel_rfl) (by kernel_rfl) (by kernel_rfl) (fun _ _ _ h => h) rfl (fun w' hS => by go_simp) hHeld0 rfl ?_
  refine take_pure 1 13 (Value.pointer (some ⟨g, 0, none⟩)) _ rfl rfl (by kernel_rfl) (by kernel_rfl) (by kernel_rfl) (fun _ _ _ h => h) rfl (fun w' hS => by go_simp) hHeld0 rfl ?_
  refine take_pure 2 14 (Value.pointer (some ⟨g, 0, none⟩)) _ rfl rfl (by kernel_rfl) (by kernel_rfl) (by kernel_rfl) (fun _ _ _ h => h) rfl (fun w' hS => by go_simp) hHeld0 rfl ?_
  refine take_pure 3 15 (Value.pointer (some ⟨g, 1, none⟩)) _ rfl rfl (by kernel_rfl) (by kernel_rfl) (by kernel_rfl) (fun _ _ _ h => h) rfl (fun w' hS => by go_simp) hHeld0 rfl ?_
  refine take_pure 5 17 (Value.agg #[.int .i64 f1, .int .i64 f2]) _ rfl rfl (by kernel_rfl) (by kernel_rfl) (by kernel_rfl) (fun _ _ _ h => h) rfl (fun w' hS => by have q0 := hS.cell (i := 0) rfl; have q1 := hS.cell (i := 1) rfl; go_simp) hHeld0 rfl ?_
  refine wpAnyH_ready (rs := [4, 6]) (by kernel_rfl) (by simp) ?_
  have kA : W0.drew.cell? ⟨g, 1, none⟩ = some (.slice Av P.length cv) := HW.out.blk.cell (i := 1) rfl
  have hb1 := below1 W0 (.cells #[.int .i64 f1, .int .i64 f2] 78)
  have hB1 : Blk (W0.alloc (.cells #[.int .i64 f1, .int .i64 f2] 78)).drew g [vd, .slice Av P.length cv, .int .i64 ((fieldBits P).length : Int)] 73 := HW.out.blk.below hb1.drew (by omega)
  have hF1 : Blk (W0.alloc (.cells #[.int .i64 f1, .int .i64 f2] 78)).drew fb [.int .i64 f1, .int .i64 f2] 78 := HBv.out.below hb1.drew (by omega)
  have hO1 : Owns B [fieldRow (.slice Av P.length cv) P, byteRow vd D] (W0.alloc (.cells #[.int .i64 f1, .int .i64 f2] 78)).drew := (HW.out.own.swap.below hb1).drew
  have hsn : Seen (W0.alloc (.cells #[.int .i64 f1, .int .i64 f2] 78)).drew (W0.heap.size + 1) (some ⟨W0.heap.size, 0, none⟩) (pairCells [(f1, f2)]) := Seen.new W0 (pairCells [(f1, f2)]) _ _ (Nat.lt_succ_self _)
  have hzW : (W0.alloc (.cells #[.int .i64 f1, .int .i64 f2] 78)).drew.heap.size = W0.heap.size + 1 := by show (W0.alloc _).heap.size = _; simp
  have kB := hB1.cell (i := 1) (v := .slice Av P.length cv) rfl
  have hoW : Only (fun _ => False) W0 (W0.alloc (.cells #[.int .i64 f1, .int .i64 f2] 78)).drew := Only.of_below hb1.drew (Nat.le_refl _)
  refine AllReadyH.cons rfl (fun K hK => ?_) (AllReadyH.cons rfl (fun K hK => ?_) AllReadyH.nil)
  · go_simp
    refine hK.out _ _ hHeld0 (fun hHeld1 => ?_)
    clear hK K
    refine wpAnyH_ready (rs := [6]) (by kernel_rfl) (by simp) ?_
    refine AllReadyH.cons rfl (fun K hK => ?_) AllReadyH.nil
    go_simp
    refine hK.out _ _ hF1 (fun hHeld2 => ?_)
    clear hK K
    refine wpAnyH_ready (rs := [7]) (by kernel_rfl) (by simp) ?_
    refine AllReadyH.cons rfl (fun K hK => ?_) AllReadyH.nil
    refine step_ownV2 _ rfl (.tmp 16) (.tmp 18) 71 rfl B 78 2 16 elem_field (.slice Av P.length cv) P.length (pairCells P) [byteRow vd D] rfl hO1 (W0.heap.size + 1) (some ⟨W0.heap.size, 0, none⟩) 1 1 (pairCells [(f1, f2)]) rfl hsn (by simp [pairCells]) (by intro u hu; simp [pairCells] at hu; rcases hu with rfl | rfl <;> rfl) (by unfold maxLen; omega) (by omega) ?_
    intro vp' w3 hO3 hg3 hb3 hw3
    obtain ⟨A', c', hv', _, _, _⟩ := hO3.seen (List.mem_cons_self ..)
    simp only at hv'
    subst hv'
    rw [hzW] at hw3
    have hB3 := hB1.below hb3 hlow
    have hF3 := hF1.kept hg3 Hnf.out
    refine hK.out _ _ hF3 (fun hHeld3 => ?_)
    clear hK K hHeld2 hHeld1
    refine take_pure 8 20 (Value.pointer (some ⟨g, 0, none⟩)) _ rfl rfl (by kernel_rfl) (by kernel_rfl) (by kernel_rfl) (fun _ _ _ h => h) rfl (fun w' hS => by go_simp) hHeld3 rfl ?_
    refine take_pure 9 21 (Value.pointer (some ⟨g, 1, none⟩)) _ rfl rfl (by kernel_rfl) (by kernel_rfl) (by kernel_rfl) (fun _ _ _ h => h) rfl (fun w' hS => by go_simp) hHeld3 rfl ?_
    refine wpAnyH_ready (rs := [10]) (by kernel_rfl) (by simp) ?_
    refine AllReadyH.cons rfl (fun K hK => ?_) AllReadyH.nil
    have k3 := hB3.cell (i := 1) (v := .slice Av P.length cv) rfl
    have z3 := hB3.frozen 1
    have hg4 := grown_setCell w3 g 1 (.slice A' (P.length + 1) c')
    have hB4 : Blk (w3.setCell ⟨g, 1, none⟩ (.slice A' (P.length + 1) c')) g [vd, .slice A' (P.length + 1) c', .int .i64 ((fieldBits P).length : Int)] 73 := hB3.set 1 (.slice A' (P.length + 1) c')
    have hF4 := hF3.kept hg4 (by simp; omega)
    have hO4 : Owns B [fieldRow (.slice A' (P.length + 1) c') (P ++ [(f1, f2)]), byteRow vd D] (w3.setCell ⟨g, 1, none⟩ (.slice A' (P.length + 1) c')) := by rw [← fieldRow_append]; exact hO3.setCell (a := ⟨g, 1, none⟩) hlow _
    have hon1 : Only (wrF g vd (.slice Av P.length cv)) W0 (w3.setCell ⟨g, 1, none⟩ (.slice A' (P.length + 1) c')) := (((hoW.mono (fun q h => h.elim) : Only (wrF g vd (.slice Av P.length cv)) W0 _).trans (Only.of_grown hg3 (F := wrF g vd (.slice Av P.length cv)) (fun q e => .inl (.inr (.inr e)))) (fun q h => .inl h) : Only (wrF g vd (.slice Av P.length cv)) W0 w3)).trans (Only.of_grown hg4 (F := wrF g vd (.slice Av P.length cv)) (fun q e => by injection e with e; exact .inl (.inl e.symm))) (fun q h => .inl h)
    go_simp
    refine hK.out _ _ hF4 (fun hHeld4 => ?_)
    clear hK K hHeld3
    refine wpAnyH_done (by kernel_rfl) ?_ _
    clear hHeld4 hHeld0 kA kB hb1 hB1 hF1 hO1 hsn hzW hoW hB3 hF3 k3 z3 hg4 hO3 hg3 hb3
    have hzz := hon1.size
    obtain ⟨W4, hW4⟩ : ∃ W4, W4 = w3.setCell ⟨g, 1, none⟩ (.slice A' (P.length + 1) c') := ⟨_, rfl⟩
    rw [← hW4] at hB4 hF4 hO4 hon1 hzz ⊢
    have hB4' := hB4
    clear hB4 hW4
    have hlen : (fieldBits (P ++ [(f1, f2)])).length = (fieldBits P).length + f1.toNat := by rw [fieldBits_snoc, List.length_append, bitsN_length]
    have hf0 := Hf.out.1
    simp only at hf0
    have hfb := fieldBits_len_le P Hh.out.ok
    have hsum : IntKind.i64.wrap (((fieldBits P).length : Int) + f1) = ((fieldBits (P ++ [(f1, f2)])).length : Int) := by rw [IntKind.wrap_i64, hlen]; omega
    have c2 := hB4'.cell (i := 2) (v := .int .i64 ((fieldBits P).length : Int)) rfl
    have z2 := hB4'.frozen 2
    have d0 := hF4.cell (i := 0) (v := .int .i64 f1) rfl
    obtain ⟨N2, hN2⟩ : ∃ N2 : Int, N2 = ((fieldBits (P ++ [(f1, f2)])).length : Int) := ⟨_, rfl⟩
    have HN2 := veil hN2
    rw [← hN2] at hsum
    have HB4 := veil hB4'
    have HO4 := veil hO4
    have Hon1 := veil hon1
    have hP2 : (P ++ [(f1, f2)]).length ≤ 20000 := by rw [List.length_append]; simp; omega
    clear hlen hN2 hB4' hO4 hon1 hF4
    go_upto_region 4 with fail
    go_still_tail 9, (by kernel_rfl)
    repeat still_step
    try refine wpStill_nil ?_
    change wpList _ _ _ _ _ W4.drew
    go_wp2_with fail
    go_end0
    have hWr9 : Wr B g D (P ++ [(f1, f2)]) vd (.slice A' (P.length + 1) c') (W4.drew.setCell ⟨g, 2, none⟩ (.int .i64 N2)) := ⟨by rw [← HN2.out]; exact HB4.out.set 2 (.int .i64 N2), (HO4.out.setCell (a := ⟨g, 2, none⟩) hlow _).swap.drew, hlow, Hh.out.byt, by
      intro f hf
      rcases List.mem_append.1 hf with hf | hf
      · exact Hh.out.ok f hf
      · rw [List.mem_singleton.1 hf]; exact Hf.out, hP2⟩
    have hon9 : Only (wrF g vd (.slice Av P.length cv)) W0 (W4.drew.setCell ⟨g, 2, none⟩ (.int .i64 N2)) := (Hon1.out.trans (Only.of_grown (grown_setCell W4 g 2 (.int .i64 N2)) (F := wrF g vd (.slice Av P.length cv)) (fun q e => by injection e with e; exact .inl (.inl e.symm))) (fun q h => .inl h)).trans (Only.of_below ((Below.refl _ _).drew) (Nat.le_refl _) : Only (fun _ => False) _ _) (fun q h => h.elim)
    exact ⟨rfl, D, P ++ [(f1, f2)], vd, .slice A' (P.length + 1) c', hWr9, (by rw [Hfin.out, List.append_assoc]), HonA.out.trans hon9 (fun q hq => HsubA.out q hq), fun q hq => by
      rcases hq with h | h | h
      · exact HsubA.out q (.inl h)
      · exact HsubA.out q (.inr (.inl h))
      · rcases hw3 with h2 | h2
        · rw [h2] at h; exact HsubA.out q (.inr (.inr h))
        · rw [h2] at h; injection h with h; right; have := HonA.out.size; omega⟩
  · go_simp
    refine hK.out _ _ hF1 (fun hHeld1 => ?_)
    clear hK K
    refine wpAnyH_ready (rs := [4]) (by kernel_rfl) (by simp) ?_
    refine AllReadyH.cons rfl (fun K hK => ?_) AllReadyH.nil
    go_simp
    refine hK.out _ _ hF1 (fun hHeld2 => ?_)
    clear hK K
    refine wpAnyH_ready (rs := [7]) (by kernel_rfl) (by simp) ?_
    refine AllReadyH.cons rfl (fun K hK => ?_) AllReadyH.nil
    refine step_ownV2 _ rfl (.tmp 16) (.tmp 18) 71 rfl B 78 2 16 elem_field (.slice Av P.length cv) P.length (pairCells P) [byteRow vd D] rfl hO1 (W0.heap.size + 1) (some ⟨W0.heap.size, 0, none⟩) 1 1 (pairCells [(f1, f2)]) rfl hsn (by simp [pairCells]) (by intro u hu; simp [pairCells] at hu; rcases hu with rfl | rfl <;> rfl) (by unfold maxLen; omega) (by omega) ?_
    intro vp' w3 hO3 hg3 hb3 hw3
    obtain ⟨A', c', hv', _, _, _⟩ := hO3.seen (List.mem_cons_self ..)
    simp only at hv'
    subst hv'
    rw [hzW] at hw3
    have hB3 := hB1.below hb3 hlow
    have hF3 := hF1.kept hg3 Hnf.out
    refine hK.out _ _ hF3 (fun hHeld3 => ?_)
    clear hK K hHeld2 hHeld1
    refine take_pure 8 20 (Value.pointer (some ⟨g, 0, none⟩)) _ rfl rfl (by kernel_rfl) (by kernel_rfl) (by kernel_rfl) (fun _ _ _ h => h) rfl (fun w' hS => by go_simp) hHeld3 rfl ?_
    refine take_pure 9 21 (Value.pointer (some ⟨g, 1, none⟩)) _ rfl rfl (by kernel_rfl) (by kernel_rfl) (by kernel_rfl) (fun _ _ _ h => h) rfl (fun w' hS => by go_simp) hHeld3 rfl ?_
    refine wpAnyH_ready (rs := [10]) (by kernel_rfl) (by simp) ?_
    refine AllReadyH.cons rfl (fun K hK => ?_) AllReadyH.nil
    have k3 := hB3.cell (i := 1) (v := .slice Av P.length cv) rfl
    have z3 := hB3.frozen 1
    have hg4 := grown_setCell w3 g 1 (.slice A' (P.length + 1) c')
    have hB4 : Blk (w3.setCell ⟨g, 1, none⟩ (.slice A' (P.length + 1) c')) g [vd, .slice A' (P.length + 1) c', .int .i64 ((fieldBits P).length : Int)] 73 := hB3.set 1 (.slice A' (P.length + 1) c')
    have hF4 := hF3.kept hg4 (by simp; omega)
    have hO4 : Owns B [fieldRow (.slice A' (P.length + 1) c') (P ++ [(f1, f2)]), byteRow vd D] (w3.setCell ⟨g, 1, none⟩ (.slice A' (P.length + 1) c')) := by rw [← fieldRow_append]; exact hO3.setCell (a := ⟨g, 1, none⟩) hlow _
    have hon1 : Only (wrF g vd (.slice Av P.length cv)) W0 (w3.setCell ⟨g, 1, none⟩ (.slice A' (P.length + 1) c')) := (((hoW.mono (fun q h => h.elim) : Only (wrF g vd (.slice Av P.length cv)) W0 _).trans (Only.of_grown hg3 (F := wrF g vd (.slice Av P.length cv)) (fun q e => .inl (.inr (.inr e)))) (fun q h => .inl h) : Only (wrF g vd (.slice Av P.length cv)) W0 w3)).trans (Only.of_grown hg4 (F := wrF g vd (.slice Av P.length cv)) (fun q e => by injection e with e; exact .inl (.inl e.symm))) (fun q h => .inl h)
    go_simp
    refine hK.out _ _ hF4 (fun hHeld4 => ?_)
    clear hK K hHeld3
    refine wpAnyH_done (by kernel_rfl) ?_ _
    clear hHeld4 hHeld0 kA kB hb1 hB1 hF1 hO1 hsn hzW hoW hB3 hF3 k3 z3 hg4 hO3 hg3 hb3
    have hzz := hon1.size
    obtain ⟨W4, hW4⟩ : ∃ W4, W4 = w3.setCell ⟨g, 1, none⟩ (.slice A' (P.length + 1) c') := ⟨_, rfl⟩
    rw [← hW4] at hB4 hF4 hO4 hon1 hzz ⊢
    have hB4' := hB4
    clear hB4 hW4
    have hlen : (fieldBits (P ++ [(f1, f2)])).length = (fieldBits P).length + f1.toNat := by rw [fieldBits_snoc, List.length_append, bitsN_length]
    have hf0 := Hf.out.1
    simp only at hf0
    have hfb := fieldBits_len_le P Hh.out.ok
    have hsum : IntKind.i64.wrap (((fieldBits P).length : Int) + f1) = ((fieldBits (P ++ [(f1, f2)])).length : Int) := by rw [IntKind.wrap_i64, hlen]; omega
    have c2 := hB4'.cell (i := 2) (v := .int .i64 ((fieldBits P).length : Int)) rfl
    have z2 := hB4'.frozen 2
    have d0 := hF4.cell (i := 0) (v := .int .i64 f1) rfl
    obtain ⟨N2, hN2⟩ : ∃ N2 : Int, N2 = ((fieldBits (P ++ [(f1, f2)])).length : Int) := ⟨_, rfl⟩
    have HN2 := veil hN2
    rw [← hN2] at hsum
    have HB4 := veil hB4'
    have HO4 := veil hO4
    have Hon1 := veil hon1
    have hP2 : (P ++ [(f1, f2)]).length ≤ 20000 := by rw [List.length_append]; simp; omega
    clear hlen hN2 hB4' hO4 hon1 hF4
    go_upto_region 4 with fail
    go_still_tail 9, (by kernel_rfl)
    repeat still_step
    try refine wpStill_nil ?_
    change wpList _ _ _ _ _ W4.drew
    go_wp2_with fail
    go_end0
    have hWr9 : Wr B g D (P ++ [(f1, f2)]) vd (.slice A' (P.length + 1) c') (W4.drew.setCell ⟨g, 2, none⟩ (.int .i64 N2)) := ⟨by rw [← HN2.out]; exact HB4.out.set 2 (.int .i64 N2), (HO4.out.setCell (a := ⟨g, 2, none⟩) hlow _).swap.drew, hlow, Hh.out.byt, by
      intro f hf
      rcases List.mem_append.1 hf with hf | hf
      · exact Hh.out.ok f hf
      · rw [List.mem_singleton.1 hf]; exact Hf.out, hP2⟩
    have hon9 : Only (wrF g vd (.slice Av P.length cv)) W0 (W4.drew.setCell ⟨g, 2, none⟩ (.int .i64 N2)) := (Hon1.out.trans (Only.of_grown (grown_setCell W4 g 2 (.int .i64 N2)) (F := wrF g vd (.slice Av P.length cv)) (fun q e => by injection e with e; exact .inl (.inl e.symm))) (fun q h => .inl h)).trans (Only.of_below ((Below.refl _ _).drew) (Nat.le_refl _) : Only (fun _ => False) _ _) (fun q h => h.elim)
    exact ⟨rfl, D, P ++ [(f1, f2)], vd, .slice A' (P.length + 1) c', hWr9, (by rw [Hfin.out, List.append_assoc]), HonA.out.trans hon9 (fun q hq => HsubA.out q hq), fun q hq => by
      rcases hq with h | h | h
      · exact HsubA.out q (.inl h)
      · exact HsubA.out q (.inr (.inl h))
      · rcases hw3 with h2 | h2
        · rw [h2] at h; exact HsubA.out q (.inr (.inr h))
        · rw [h2] at h; injection h with h; right; have := HonA.out.size; omega⟩
end Go.Proofs.Ytddkhkpdbjjboaa

/- seg's writer: add, whatever is pending; bytes: their contracts. -/
namespace Go.Proofs.Ytddkhkpdbjjboaa
open Go.RowKit
set_option linter.unusedVariables false
set_option linter.unusedSimpArgs false
set_option maxRecDepth 100000

theorem add_any (B g : Nat) (D : List Int) (P : List (Int × Int)) (vd vp : Value) (f1 f2 : Int) (w : World) (h : Wr B g D P vd vp w) (hf : okF (f1, f2)) (hD : D.length ≤ 1000000) :
    Calls Try.prog 35 #[.pointer (some ⟨g, 0, none⟩), .agg #[.int .i64 f1, .int .i64 f2]] w fun e w' => e = .returned (.tuple #[]) ∧ ∃ D' P' vd' vp', Wr B g D' P' vd' vp' w' ∧ unpack D' ++ fieldBits P' = unpack D ++ fieldBits P ++ bitsN f1.toNat f2.toNat ∧ Only (wrF g vd vp) w w' ∧ ∀ q, wrF g vd' vp' q → wrF g vd vp q ∨ w.heap.size ≤ q := by
  by_cases hP : P.length < 20000
  · refine (add_small B g D P vd vp f1 f2 w h hf hP).mono ?_
    rintro e w' ⟨he, vp', h1, h2, h3⟩
    exact ⟨he, D, _, vd, vp', h1, by rw [fieldBits_snoc, List.append_assoc], h2, h3⟩
  · exact add_big B g D P vd vp f1 f2 w h hf (by have := h.few; omega) hD
set_option maxRecDepth 100000 in
set_option maxHeartbeats 4000000 in
theorem bytes_any (B g : Nat) (D : List Int) (P : List (Int × Int)) (vd vp : Value) (w : World) (h : Wr B g D P vd vp w) (hD : D.length ≤ 1000000) :
    Calls Try.prog 37 #[.pointer (some ⟨g, 0, none⟩)] w fun e w' => ∃ v out, e = .returned v ∧ Owns B [byteRow v out] w' ∧ (Bytes out ∧ ∃ p, p < 8 ∧ unpack out = unpack D ++ fieldBits P ++ List.replicate p true) ∧ Below B w w' := by
  have hgl := h.blk.lt
  have hlow := h.low
  have hbase := h.own.base
  obtain ⟨Av, cv, hv, hsv, hcv, hmv⟩ := h.own.seen (List.mem_cons_of_mem _ (List.mem_cons_self ..))
  simp only [fieldRow] at hv hcv hsv
  obtain ⟨Ad, cd, hvd, _, _, _⟩ := h.own.seen (List.mem_cons_self ..)
  simp only [byteRow, intRow] at hvd
  subst hv
  subst hvd
  have hw0 : writeErr P = 0 := by unfold writeErr; rw [if_neg (by have := h.few; omega), if_pos h.ok]
  have HC := veil (write_any Av cv w.heap.size P w hsv (Nat.le_refl _) (by have := h.few; unfold maxLen; omega))
  have k1 := h.blk.cell (i := 1) (v := .slice Av P.length cv) rfl
  have Hh := veil h
  rw [hw0] at HC
  have hfb := fieldBits_len_le P h.ok
  have hfew := h.few
  clear h hsv hcv hmv
  go_enter Try.func37, Try.ntmps37
  go_wp2_with fail
  refine HC.out.mono ?_
  rintro e w2 ⟨v2, out, rfl, hown2, hW2, hb2⟩
  obtain ⟨hby, p, hp, hunp⟩ := hW2.2 hw0
  have hl := congrArg List.length hunp
  rw [unpack_length, List.length_append, List.length_replicate] at hl
  obtain ⟨A2, c2, hv2, hs2, hc2, hm2⟩ := own_form' hown2
  subst hv2
  have hB2 := Hh.out.blk.below hb2 hgl
  have hO2 := Hh.out.own.below hb2
  have k0 := hB2.cell (i := 0) (v := .slice Ad D.length cd) rfl
  have hm3 : D.length + out.length ≤ maxLen := by unfold maxLen; omega
  have hm4 : (D.length + out.length) * 1 ≤ 140737488355328 := by omega
  have hbB : Below B w w2 := hb2.mono hbase
  have Hunp := veil hunp; have Hby := veil hby; have HbB := veil hbB
  clear hunp hby hl hown2 hW2 hb2 hB2 HC hw0 k1 hbB
  go_wp2_with (first
    | (at_builtin; go_loud (refine wpList_ownV w2 rfl (.tmp 16) (.tmp 17) 29 rfl B 5 1 1 elem_byte (.slice Ad D.length cd) D.length (ints .u8 D) [fieldRow (.slice Av P.length cv) P] rfl hO2 w2.heap.size A2 out.length c2 (ints .u8 out) rfl hs2 (by rw [ints_length, Nat.mul_one]) ints_one hm3 hm4 ?_); intro vd' w5 hO5 hb5)
    | fail)
  go_ret
  refine ⟨vd', D ++ out, rfl, ?_, ⟨fun x hx => ?_, p, hp, ?_⟩, HbB.out.trans hb5⟩
  · have e : byteRow vd' (D ++ out) = ⟨5, 1, vd', D.length + out.length, ints .u8 D ++ ints .u8 out⟩ := by
      simp only [byteRow, intRow, ints_append, List.length_append]
    rw [e]
    exact Owns.one hO5.base hO5.head
  · rcases List.mem_append.1 hx with hx | hx
    · exact Hh.out.byt x hx
    · exact Hby.out x hx
  · rw [unpack_append, Hunp.out]; simp
end Go.Proofs.Ytddkhkpdbjjboaa

/- Tokens in memory: structs of three integers in a row. -/
namespace Go.Proofs.Ytddkhkpdbjjboaa
open Go.RowKit
set_option linter.unusedVariables false
set_option linter.unusedSimpArgs false
set_option maxRecDepth 100000

def tokC (f : Int × Int × Int) : List Value := [.int .i64 f.1, .int .i64 f.2.1, .int .i64 f.2.2]
def tokCells (l : List (Int × Int × Int)) : List Value := l.flatMap tokC
theorem tokCells_length (l : List (Int × Int × Int)) : (tokCells l).length = l.length * 3 := by
  induction l with
  | nil => rfl
  | cons f l ih => simp [tokCells, tokC] at ih ⊢; omega
theorem tokCells_append (l m : List (Int × Int × Int)) : tokCells (l ++ m) = tokCells l ++ tokCells m := by simp [tokCells]
theorem tokCells_one {l : List (Int × Int × Int)} : ∀ u ∈ tokCells l, u.oneCell' = true := by
  intro u hu
  simp only [tokCells, List.mem_flatMap] at hu
  obtain ⟨f, _, hu⟩ := hu
  simp [tokC] at hu
  rcases hu with rfl | rfl | rfl <;> rfl
theorem tokCells_at : ∀ (l : List (Int × Int × Int)) (k : Nat) (f : Int × Int × Int), l[k]? = some f → (tokCells l)[k * 3]? = some (.int .i64 f.1) ∧ (tokCells l)[k * 3 + 1]? = some (.int .i64 f.2.1) ∧ (tokCells l)[k * 3 + 2]? = some (.int .i64 f.2.2)
  | [], k, f, h => by simp at h
  | g :: l, 0, f, h => by simp at h; subst h; simp [tokCells, tokC]
  | g :: l, k + 1, f, h => by
    rw [List.getElem?_cons_succ] at h
    have e : ∀ j, (tokCells (g :: l))[j + 3]? = (tokCells l)[j]? := by intro j; simp [tokCells, tokC]
    have := tokCells_at l k f h
    refine ⟨?_, ?_, ?_⟩
    · rw [show (k + 1) * 3 = k * 3 + 3 by omega, e]; exact this.1
    · rw [show (k + 1) * 3 + 1 = k * 3 + 1 + 3 by omega, e]; exact this.2.1
    · rw [show (k + 1) * 3 + 2 = k * 3 + 2 + 3 by omega, e]; exact this.2.2
/-- One token of a row that is seen, with its three cells. -/
theorem Seen.tok {w : World} {B : Nat} {A : Option Addr} {l : List (Int × Int × Int)} (h : Seen w B A (tokCells l)) {k : Nat} (hk : k < l.length) :
    ∃ g o s n c, A = some ⟨g, o, none⟩ ∧ g < B ∧ l[k]? = some (s, n, c) ∧ w.cell? ⟨g, o + k * 3, none⟩ = some (.int .i64 s) ∧ w.cell? ⟨g, o + k * 3 + 1, none⟩ = some (.int .i64 n) ∧ w.cell? ⟨g, o + k * 3 + 2, none⟩ = some (.int .i64 c) := by
  obtain ⟨g, o, e, hg, hc⟩ := h.at (by rw [tokCells_length]; omega)
  obtain ⟨⟨s, n, c⟩, hx⟩ := some_at hk
  obtain ⟨h1, h2, h3⟩ := tokCells_at l k _ hx
  exact ⟨g, o, s, n, c, e, hg, hx, hc _ _ h1, by have := hc _ _ h2; rw [Nat.add_assoc]; exact this, by have := hc _ _ h3; rw [Nat.add_assoc]; exact this⟩
theorem elem_tok : ElemOf Try.prog 89 76 3 24 := .mk' (z := .agg #[.int .i64 0, .int .i64 0, .int .i64 0]) Try.underlying89 (by kernel_rfl) rfl (by omega)
abbrev tokRow (v : Value) (l : List (Int × Int × Int)) : Row := ⟨76, 3, v, l.length, tokCells l⟩
theorem tokRow_append (v : Value) (l m : List (Int × Int × Int)) : (⟨76, 3, v, l.length + m.length, tokCells l ++ tokCells m⟩ : Row) = tokRow v (l ++ m) := by simp [tokRow, tokCells_append]
/-- In a walk: append of one token just laid onto the first of the rows. -/
theorem wpList_ownK {ops : Array Oper} {rest : List Oper} {o : Oper} {a : Act} {Q : Exit → Act → World → Prop} (w0 : World) (hgd : Region.wanted o (yielded ops a.tmps) = true) (s x : Operand)
    (ho : o.op = .call { callee := .builtin .append, args := #[s, x], argTypes := #[89, 89] })
    (B : Nat) (v : Value) (l : List (Int × Int × Int)) (rs : List Row) (hs : a.eval s = v) (HO : Owns B (tokRow v l :: rs) w0) (f0 f1 f2 : Int) (hx : a.eval x = .slice (some ⟨w0.heap.size, 0, none⟩) 1 1)
    (h63 : l.length + 1 ≤ 1099511627776)
    (h : ∀ v' w', Owns B (tokRow v' (l ++ [(f0, f1, f2)]) :: rs) w' → Below B w0 w' → w0.heap.size < w'.heap.size → wpList Try.prog ops Q rest (a.put o.dst v') w') : wpList Try.prog ops Q (o :: rest) a (w0.alloc (.cells #[.int .i64 f0, .int .i64 f1, .int .i64 f2] 76)) := by
  refine wpList_ownV _ hgd s x _ ho B 76 3 24 elem_tok v l.length (tokCells l) rs hs (HO.alloc _) (w0.heap.size + 1) _ 1 1 (tokCells [(f0, f1, f2)]) hx (Seen.new w0 (tokCells [(f0, f1, f2)]) _ _ (Nat.lt_succ_self _)) (by rw [tokCells_length]; rfl) tokCells_one (by unfold maxLen; omega) (by omega) ?_
  intro v' w' h2 h3
  have := h3.size
  refine h v' w' ?_ (((Below.refl _ _).alloc HO.base _).trans h3) (by simp at this; omega)
  rw [← tokRow_append]
  exact h2
end Go.Proofs.Ytddkhkpdbjjboaa

/- bits.Len (small numbers) and the package size: Of, Bits, Back; their contracts. -/
namespace Go.Proofs.Ytddkhkpdbjjboaa
open Go.RowKit
set_option linter.unusedVariables false
set_option linter.unusedSimpArgs false
set_option maxRecDepth 100000

theorem bitLen_sz : ∀ n : Fin 256, Lib.bitLen n.val = szN n.val := by decide +kernel
theorem len8_sz (x : Int) (h0 : 0 ≤ x) (h1 : x ≤ 255) : Lib.len8 x = (szN x.toNat : Nat) := by
  rw [Lib.len8_of x h0 h1, ← bitLen_sz ⟨x.toNat, by omega⟩]
theorem szN_shift {m : Nat} (h : 256 ≤ m) : szN m = 8 + szN (m / 256) := by
  have h1 := szN_ge (m := m / 256) (by omega)
  have h2 := szN_lt (m / 256)
  have h3 := szN_pos (m := m / 256) (by omega)
  obtain ⟨k, hk⟩ : ∃ k, szN (m / 256) = k + 1 := ⟨szN (m / 256) - 1, by omega⟩
  rw [hk] at h1 h2 ⊢
  rw [Nat.add_sub_cancel] at h1
  have e : szN m = (k + 8) + 1 := szN_is (by rw [Nat.pow_add]; omega) (by rw [show k + 8 + 1 = (k + 1) + 8 by omega, Nat.pow_add]; omega)
  rw [e]; omega
theorem szI {x y : Int} (h : x = y) : (Ending.returned (.int .i64 x)) = .returned (.int .i64 y) := by rw [h]
set_option maxHeartbeats 4000000 in
set_option maxRecDepth 100000 in
theorem len64_small (x : Int) (w : World) (h0 : 0 ≤ x) (h : x < 65536) :
    Calls Try.prog 122 #[.int .u64 x] w fun e w' => e = .returned (.int .i64 (szZ x : Nat)) ∧ w' = w := by
  by_cases h2 : x < 256
  · have h3 : x ≤ 255 := by omega
    go_enter Try.func122, Try.ntmps122
    go_wp2
    all_goals (go_ret; refine ⟨szI ?_, rfl⟩)
    rw [len8_sz x h0 h3]
    have e3 : szZ x = szN x.toNat := by unfold szZ; congr 1; omega
    have e4 := szN_le (m := x.toNat) (k := 8) (by omega)
    try unfold wrap64
    omega
  · have h3 : x / 256 ≤ 255 := by omega
    have h4 : 0 ≤ x / 256 := by omega
    go_enter Try.func122, Try.ntmps122
    go_wp2
    all_goals (go_ret; refine ⟨szI ?_, rfl⟩)
    rw [len8_sz (x / 256) h4 h3]
    have e5 : (x / 256).toNat = x.toNat / 256 := by omega
    have e3 : szZ x = 8 + szN (x / 256).toNat := by rw [e5, ← szN_shift (by omega)]; unfold szZ; congr 1; omega
    have e4 := szN_le (m := (x / 256).toNat) (k := 8) (by omega)
    try unfold wrap64
    omega
theorem len_small (x : Int) (w : World) (h0 : 0 ≤ x) (h : x < 65536) :
    Calls Try.prog 119 #[.int .u64 x] w fun e w' => e = .returned (.int .i64 (szZ x : Nat)) ∧ w' = w := by
  have HC := veil (len64_small x w h0 h)
  go_enter Try.func119, Try.ntmps119
  go_wp2_with fail
  refine HC.out.mono ?_
  rintro e w' ⟨rfl, rfl⟩
  go_wp2
  go_ret
  exact ⟨rfl, rfl⟩
/-- What the three functions answer. -/
def eS (n : Int) : Int := if -4095 ≤ n ∧ n ≤ 4095 then 0 else 1
def oS (n : Int) : Int := if -4095 ≤ n ∧ n ≤ 4095 then (szZ n : Nat) else 0
def oV (n : Int) : Int := if -4095 ≤ n ∧ n ≤ 4095 then vbZ n else 0
theorem eS_ok {n : Int} (h1 : -4095 ≤ n) (h2 : n ≤ 4095) : eS n = 0 := if_pos ⟨h1, h2⟩
theorem oS_ok {n : Int} (h1 : -4095 ≤ n) (h2 : n ≤ 4095) : oS n = (szZ n : Nat) := if_pos ⟨h1, h2⟩
theorem oV_ok {n : Int} (h1 : -4095 ≤ n) (h2 : n ≤ 4095) : oV n = vbZ n := if_pos ⟨h1, h2⟩
theorem eS_bad {n : Int} (h : ¬ (-4095 ≤ n ∧ n ≤ 4095)) : eS n = 1 := if_neg h
theorem oS_bad {n : Int} (h : ¬ (-4095 ≤ n ∧ n ≤ 4095)) : oS n = 0 := if_neg h
theorem oV_bad {n : Int} (h : ¬ (-4095 ≤ n ∧ n ≤ 4095)) : oV n = 0 := if_neg h
theorem pow_pw (k : Nat) (h : k ≤ 12) : wrap64 ((2 : Int) ^ k) = pw k ∧ 1 ≤ pw k ∧ pw k ≤ 4096 := by
  have h1 := Nat.pow_le_pow_right (n := 2) (by omega) h
  have h2 := Nat.two_pow_pos k
  have e : ((2 : Int) ^ k) = ((2 ^ k : Nat) : Int) := by simp
  rw [e]
  unfold pw
  exact ⟨wrap64_nat _ (by omega), by omega, by omega⟩
theorem sz_max (n : Int) : szZ (max n (-n)) = szZ n := by
  by_cases h : n ≤ -n
  · rw [Int.max_eq_right h, szZ_neg]
  · rw [Int.max_eq_left (by omega)]
theorem of_ok (n : Int) (w : World) (h1 : -4095 ≤ n) (h2 : n ≤ 4095) :
    Calls Try.prog 115 #[.int .i64 n] w fun e w' => e = .returned (.tuple #[.int .i64 (szZ n : Nat), .int .i64 0]) ∧ w' = w := by
  have HC := veil (len_small (max n (-n)) w (by omega) (by omega))
  rw [sz_max] at HC
  generalize szZ n = s at *
  go_enter Try.func115, Try.ntmps115
  go_wp2_with fail
  refine HC.out.mono ?_
  rintro e w' ⟨rfl, rfl⟩
  go_wp2
  go_ret2
  exact ⟨rfl, rfl⟩
theorem of_lo (n : Int) (w : World) (h : n < -4095) :
    Calls Try.prog 115 #[.int .i64 n] w fun e w' => e = .returned (.tuple #[.int .i64 0, .int .i64 1]) ∧ w' = w := by
  go_enter Try.func115, Try.ntmps115
  go_wp2
  go_ret2
  exact ⟨rfl, rfl⟩
theorem of_hi (n : Int) (w : World) (h : 4095 < n) :
    Calls Try.prog 115 #[.int .i64 n] w fun e w' => e = .returned (.tuple #[.int .i64 0, .int .i64 1]) ∧ w' = w := by
  have h2 : ¬ n < -4095 := by omega
  go_enter Try.func115, Try.ntmps115
  go_wp2
  go_ret2
  exact ⟨rfl, rfl⟩
theorem of_any (n : Int) (w : World) :
    Calls Try.prog 115 #[.int .i64 n] w fun e w' => e = .returned (.tuple #[.int .i64 (oS n), .int .i64 (eS n)]) ∧ w' = w := by
  by_cases h : -4095 ≤ n ∧ n ≤ 4095
  · rw [oS_ok h.1 h.2, eS_ok h.1 h.2]; exact of_ok n w h.1 h.2
  · rw [oS_bad h, eS_bad h]
    by_cases h2 : n < -4095
    · exact of_lo n w h2
    · exact of_hi n w (by omega)
set_option maxHeartbeats 1000000 in
theorem bits_any (n : Int) (w : World) :
    Calls Try.prog 105 #[.int .i64 n] w fun e w' => e = .returned (.tuple #[.int .i64 (oS n), .int .i64 (oV n), .int .i64 (eS n)]) ∧ ∃ q, w' = w.drewN q := by
  have HC := veil (of_any n w)
  by_cases h : -4095 ≤ n ∧ n ≤ 4095
  · obtain ⟨h1, h2⟩ := h
    rw [oS_ok h1 h2, eS_ok h1 h2] at HC
    rw [oS_ok h1 h2, eS_ok h1 h2, oV_ok h1 h2]
    by_cases hn : 0 < n
    · have e : vbZ n = n := if_pos hn
      rw [e]
      generalize szZ n = s at *
      go_enter Try.func105, Try.ntmps105
      go_wp2_with fail
      refine HC.out.mono ?_
      rintro e w' ⟨rfl, rfl⟩
      go_wp2
      go_ret3
      exact ⟨rfl, 0, rfl⟩
    · have e : vbZ n = n + pw (szZ n) - 1 := if_neg hn
      rw [e]
      have hs := sz_12 h1 h2
      have HP := veil (pow_pw (szZ n) hs)
      generalize szZ n = s at *
      go_enter Try.func105, Try.ntmps105
      go_wp2_with fail
      refine HC.out.mono ?_
      rintro e w' ⟨rfl, rfl⟩
      go_wp2
      go_quiet (fail)
      go_wp2
      go_ret3
      refine ⟨ret_three rfl (congrArg (Value.int .i64) ?_) rfl, _, rfl⟩
      rw [HP.out.1]
      have := HP.out.2
      unfold wrap64
      omega
  · rw [oS_bad h, eS_bad h] at HC
    rw [oS_bad h, eS_bad h, oV_bad h]
    go_enter Try.func105, Try.ntmps105
    go_wp2_with fail
    refine HC.out.mono ?_
    rintro e w' ⟨rfl, rfl⟩
    go_wp2
    go_ret3
    exact ⟨rfl, 0, rfl⟩
end Go.Proofs.Ytddkhkpdbjjboaa

/- The laws' zigged: the order begins as the document says. -/
namespace Go.Proofs.Ytddkhkpdbjjboaa
open Go.RowKit
set_option linter.unusedVariables false
set_option linter.unusedSimpArgs false
set_option maxRecDepth 100000

theorem zz_form {w : World} {B g c : Nat} {rs : List Row} (h : Owns B (intRow 3 .i64 (.slice (some ⟨g, 0, none⟩) 64 c) zz :: rs) w) : Seen w w.heap.size (some ⟨g, 0, none⟩) (ints .i64 zz) ∧ 64 ≤ c ∧ c ≤ maxLen := by
  obtain ⟨A, c', e, hs, h1, h2⟩ := h.seen (List.mem_cons_self ..)
  simp only [intRow, Value.slice.injEq] at e hs h1
  obtain ⟨e1, e2, e3⟩ := e
  rw [e1, e3]
  exact ⟨hs, by rw [e2]; exact h1, h2⟩
end Go.Proofs.Ytddkhkpdbjjboaa
