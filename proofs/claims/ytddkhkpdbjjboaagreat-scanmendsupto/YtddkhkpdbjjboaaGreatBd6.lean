/- Texts shared by the claims of this seat, in one. -/
import Derived.Test.YtddkhkpdbjjboaaGreatBd5
import Derived.Test.YtddkhkpdbjjboaaGreatBd1
import Derived.Test.YtddkhkpdbjjboaaGreatRows
import Derived.Laws.StructEq
import Derived.Test.YtddkhkpdbjjboaaGreatBd3
import Derived.Lib.Strings
import Derived.Lib.Slices
import Derived.Lib.Small
import Derived.Lib.Walk
import Derived.Lib.BitFns
import Derived.BigQuiet
import Derived.Test.YtddkhkpdbjjboaaGreatBd2
import Derived.Deep.LoopGhost
/- seg's writer: add, whatever is pending; bytes; their contracts. -/
namespace Go.Proofs.YtddkhkpdbjjboaaGreat
open Go.RowKit
set_option linter.unusedVariables false
set_option linter.unusedSimpArgs false
set_option maxRecDepth 100000

set_option maxRecDepth 100000 in
set_option maxHeartbeats 4000000 in
theorem add_big (B g : Nat) (D0 : List Int) (P0 : List (Int × Int)) (vd0 vp0 : Value) (f1 f2 : Int) (w0 : World) (h0 : Wr B g D0 P0 vd0 vp0 w0) (hf : okF (f1, f2)) (hP0 : P0.length = 20000) (hD0 : D0.length ≤ 1000000) :
    Calls Tryz.prog 44 #[.pointer (some ⟨g, 0, none⟩), .agg #[.int .i64 f1, .int .i64 f2]] w0 fun e w' => e = .returned (.tuple #[]) ∧ ∃ D' P' vd' vp', Wr B g D' P' vd' vp' w' ∧ unpack D' ++ fieldBits P' = unpack D0 ++ fieldBits P0 ++ bitsN f1.toNat f2.toNat ∧ Only (wrF g vd0 vp0) w0 w' ∧ ∀ q, wrF g vd' vp' q → wrF g vd0 vp0 q ∨ w0.heap.size ≤ q := by
  have hgl := h0.blk.lt
  have hlow := h0.low
  have hb0 := below1 w0 (.cells #[.int .i64 f1, .int .i64 f2] 89)
  have hW := h0.below hb0
  have HB : Blk (w0.alloc (.cells #[.int .i64 f1, .int .i64 f2] 89)) w0.heap.size [.int .i64 f1, .int .i64 f2] 89 := Blk.new w0 [.int .i64 f1, .int .i64 f2] 89
  obtain ⟨Av0, cv0, hv0, _, _, _⟩ := h0.own.seen (List.mem_cons_of_mem _ (List.mem_cons_self ..))
  simp only [fieldRow] at hv0
  have hfoot := fun q hq => (h0.foot (q := q) hq).1
  subst hv0
  rw [hP0] at *
  have k1 := hW.blk.cell (i := 1) (v := .slice Av0 20000 cv0) rfl
  have HFl := veil (flush_any B g D0 P0 _ _ _ hW hD0)
  have hz1 : (w0.alloc (.cells #[.int .i64 f1, .int .i64 f2] 89)).heap.size = w0.heap.size + 1 := by simp
  have Hf := veil hf
  have HBv := veil HB
  have Hfoot := veil hfoot
  have Hb0 := veil hb0
  clear h0 hf hW HB hfoot hb0
  go_enter Tryz.func44, Tryz.ntmps44
  go_wp2_with fail
  refine HFl.out.mono ?_
  rintro e W0 ⟨rfl, D, P, vd, vp, hWr, hbits, hPl, honF, hsubF⟩
  obtain ⟨Av, cv, hv, _, _, _⟩ := hWr.own.seen (List.mem_cons_of_mem _ (List.mem_cons_self ..))
  simp only [fieldRow] at hv
  subst hv
  obtain ⟨fb, hfb⟩ : ∃ fb, fb = w0.heap.size := ⟨_, rfl⟩
  have hnF : ¬ wrF g vd0 (.slice Av0 20000 cv0) w0.heap.size := fun h => by have := Hfoot.out _ h; omega
  have HBf := honF.blk HBv.out hnF
  have hvn : ∀ q, (Value.slice Av P.length cv).ownBlock = some q → q ≠ fb := fun q hq e => by
    rcases hsubF q (.inr (.inr hq)) with h | h
    · rw [e, hfb] at h; exact hnF h
    · omega
  have honA : Only (wrF g vd0 (.slice Av0 20000 cv0)) w0 W0 := ((Only.of_below Hb0.out (Nat.le_refl _) : Only (wrF g vd0 (.slice Av0 20000 cv0)) _ _)).trans honF (fun q h => .inl h)
  have hsubA : ∀ q, wrF g vd (.slice Av P.length cv) q → wrF g vd0 (.slice Av0 20000 cv0) q ∨ w0.heap.size ≤ q := fun q hq => by
    rcases hsubF q hq with h | h
    · exact .inl h
    · right; omega
  have hfin : unpack D ++ fieldBits (P ++ [(f1, f2)]) = unpack D0 ++ fieldBits P0 ++ bitsN f1.toNat f2.toNat := by rw [fieldBits_snoc, ← List.append_assoc, hbits]
  rw [← hfb] at HBf
  have hfg : fb ≠ g := by omega
  have hfz : fb < W0.heap.size := by have := honF.size; omega
  have hgl0 : g < W0.heap.size := hWr.blk.lt
  have Hh := veil hWr; have HW := veil hWr; have HBv := veil HBf; have Hvn := veil hvn; have HonA := veil honA; have HsubA := veil hsubA; have Hfin := veil hfin
  have hP : P.length < 20000 := by omega
  clear hWr hbits honF hsubF hnF HBf hvn honA hsubA hfin HFl k1
  go_upto_region 3 with fail
  rw [← hfb]
  have Hfb := veil hfb
  have Hz0 : Hid (w0.heap.size ≤ W0.heap.size) := by show _ ≤ _; omega
  clear hfb
  have hnf : some fb ≠ (Value.slice Av P.length cv).ownBlock := fun e => Hvn.out _ e.symm rfl
  have Hnf := veil hnf
  have hP1 : P.length + 1 ≤ 1000000 := by omega
  clear hnf
  refine wp_region_held_drew (S := fun w' => Blk w' fb [.int .i64 f1, .int .i64 f2] 89) (by kernel_rfl) (show Blk W0.drew fb _ _ from HBv.out) (fun hHeld0 => ?_)
  refine take_pure 0 12 (Value.pointer (some ⟨g, 0, none⟩)) _ rfl rfl (by kernel_rfl) (by kernel_rfl) (by kernel_rfl) (fun _ _ _ h => h) rfl (fun w' hS => by go_simp) hHeld0 rfl ?_
  refine take_pure 1 13 (Value.pointer (some ⟨g, 0, none⟩)) _ rfl rfl (by kernel_rfl) (by kernel_rfl) (by kernel_rfl) (fun _ _ _ h => h) rfl (fun w' hS => by go_simp) hHeld0 rfl ?_
  refine take_pure 2 14 (Value.pointer (some ⟨g, 0, none⟩)) _ rfl rfl (by kernel_rfl) (by kernel_rfl) (by kernel_rfl) (fun _ _ _ h => h) rfl (fun w' hS => by go_simp) hHeld0 rfl ?_
  refine take_pure 3 15 (Value.pointer (some ⟨g, 1, none⟩)) _ rfl rfl (by kernel_rfl) (by kernel_rfl) (by kernel_rfl) (fun _ _ _ h => h) rfl (fun w' hS => by go_simp) hHeld0 rfl ?_
  refine take_pure 5 17 (Value.agg #[.int .i64 f1, .int .i64 f2]) _ rfl rfl (by kernel_rfl) (by kernel_rfl) (by kernel_rfl) (fun _ _ _ h => h) rfl (fun w' hS => by have q0 := hS.cell (i := 0) rfl; have q1 := hS.cell (i := 1) rfl; go_simp) hHeld0 rfl ?_
  refine wpAnyH_ready (rs := [4, 6]) (by kernel_rfl) (by simp) ?_
  have kA : W0.drew.cell? ⟨g, 1, none⟩ = some (.slice Av P.length cv) := HW.out.blk.cell (i := 1) rfl
  have hb1 := below1 W0 (.cells #[.int .i64 f1, .int .i64 f2] 89)
  have hB1 : Blk (W0.alloc (.cells #[.int .i64 f1, .int .i64 f2] 89)).drew g [vd, .slice Av P.length cv, .int .i64 ((fieldBits P).length : Int)] 87 := HW.out.blk.below hb1.drew (by omega)
  have hF1 : Blk (W0.alloc (.cells #[.int .i64 f1, .int .i64 f2] 89)).drew fb [.int .i64 f1, .int .i64 f2] 89 := HBv.out.below hb1.drew (by omega)
  have hO1 : Owns B [fieldRow (.slice Av P.length cv) P, byteRow vd D] (W0.alloc (.cells #[.int .i64 f1, .int .i64 f2] 89)).drew := (HW.out.own.swap.below hb1).drew
  have hsn : Seen (W0.alloc (.cells #[.int .i64 f1, .int .i64 f2] 89)).drew (W0.heap.size + 1) (some ⟨W0.heap.size, 0, none⟩) (pairCells [(f1, f2)]) := Seen.new W0 (pairCells [(f1, f2)]) _ _ (Nat.lt_succ_self _)
  have hzW : (W0.alloc (.cells #[.int .i64 f1, .int .i64 f2] 89)).drew.heap.size = W0.heap.size + 1 := by show (W0.alloc _).heap.size = _; simp
  have kB := hB1.cell (i := 1) (v := .slice Av P.length cv) rfl
  have hoW : Only (fun _ => False) W0 (W0.alloc (.cells #[.int .i64 f1, .int .i64 f2] 89)).drew := Only.of_below hb1.drew (Nat.le_refl _)
  refine AllReadyH.cons rfl (fun K hK => ?_) (AllReadyH.cons rfl (fun K hK => ?_) AllReadyH.nil)
  · go_simp
    refine hK.out _ _ hHeld0 (fun hHeld1 => ?_)
    clear hK K
    refine wpAnyH_ready (rs := [6]) (by kernel_rfl) (by simp) ?_
    refine AllReadyH.cons rfl (fun K hK => ?_) AllReadyH.nil
    go_simp
    refine hK.out _ _ hF1 (fun hHeld2 => ?_)
    clear hK K
    refine wpAnyH_ready (rs := [7]) (by kernel_rfl) (by simp) ?_
    refine AllReadyH.cons rfl (fun K hK => ?_) AllReadyH.nil
    refine step_ownV2 _ rfl (.tmp 16) (.tmp 18) 85 rfl B 89 2 16 elem_field (.slice Av P.length cv) P.length (pairCells P) [byteRow vd D] rfl hO1 (W0.heap.size + 1) (some ⟨W0.heap.size, 0, none⟩) 1 1 (pairCells [(f1, f2)]) rfl hsn (by simp [pairCells]) (by intro u hu; simp [pairCells] at hu; rcases hu with rfl | rfl <;> rfl) (by unfold maxLen; omega) (by omega) ?_
    intro vp' w3 hO3 hg3 hb3 hw3
    obtain ⟨A', c', hv', _, _, _⟩ := hO3.seen (List.mem_cons_self ..)
    simp only at hv'
    subst hv'
    rw [hzW] at hw3
    have hB3 := hB1.below hb3 hlow
    have hF3 := hF1.kept hg3 Hnf.out
    refine hK.out _ _ hF3 (fun hHeld3 => ?_)
    clear hK K hHeld2 hHeld1
    refine take_pure 8 20 (Value.pointer (some ⟨g, 0, none⟩)) _ rfl rfl (by kernel_rfl) (by kernel_rfl) (by kernel_rfl) (fun _ _ _ h => h) rfl (fun w' hS => by go_simp) hHeld3 rfl ?_
    refine take_pure 9 21 (Value.pointer (some ⟨g, 1, none⟩)) _ rfl rfl (by kernel_rfl) (by kernel_rfl) (by kernel_rfl) (fun _ _ _ h => h) rfl (fun w' hS => by go_simp) hHeld3 rfl ?_
    refine wpAnyH_ready (rs := [10]) (by kernel_rfl) (by simp) ?_
    refine AllReadyH.cons rfl (fun K hK => ?_) AllReadyH.nil
    have k3 := hB3.cell (i := 1) (v := .slice Av P.length cv) rfl
    have z3 := hB3.frozen 1
    have hg4 := grown_setCell w3 g 1 (.slice A' (P.length + 1) c')
    have hB4 : Blk (w3.setCell ⟨g, 1, none⟩ (.slice A' (P.length + 1) c')) g [vd, .slice A' (P.length + 1) c', .int .i64 ((fieldBits P).length : Int)] 87 := hB3.set 1 (.slice A' (P.length + 1) c')
    have hF4 := hF3.kept hg4 (by simp; omega)
    have hO4 : Owns B [fieldRow (.slice A' (P.length + 1) c') (P ++ [(f1, f2)]), byteRow vd D] (w3.setCell ⟨g, 1, none⟩ (.slice A' (P.length + 1) c')) := by rw [← fieldRow_append]; exact hO3.setCell (a := ⟨g, 1, none⟩) hlow _
    have hon1 : Only (wrF g vd (.slice Av P.length cv)) W0 (w3.setCell ⟨g, 1, none⟩ (.slice A' (P.length + 1) c')) := (((hoW.mono (fun q h => h.elim) : Only (wrF g vd (.slice Av P.length cv)) W0 _).trans (Only.of_grown hg3 (F := wrF g vd (.slice Av P.length cv)) (fun q e => .inl (.inr (.inr e)))) (fun q h => .inl h) : Only (wrF g vd (.slice Av P.length cv)) W0 w3)).trans (Only.of_grown hg4 (F := wrF g vd (.slice Av P.length cv)) (fun q e => by injection e with e; exact .inl (.inl e.symm))) (fun q h => .inl h)
    go_simp
    refine hK.out _ _ hF4 (fun hHeld4 => ?_)
    clear hK K hHeld3
    refine wpAnyH_done (by kernel_rfl) ?_ _
    clear hHeld4 hHeld0 kA kB hb1 hB1 hF1 hO1 hsn hzW hoW hB3 hF3 k3 z3 hg4 hO3 hg3 hb3
    have hzz := hon1.size
    obtain ⟨W4, hW4⟩ : ∃ W4, W4 = w3.setCell ⟨g, 1, none⟩ (.slice A' (P.length + 1) c') := ⟨_, rfl⟩
    rw [← hW4] at hB4 hF4 hO4 hon1 hzz ⊢
    have hB4' := hB4
    clear hB4 hW4
    have hlen : (fieldBits (P ++ [(f1, f2)])).length = (fieldBits P).length + f1.toNat := by rw [fieldBits_snoc, List.length_append, bitsN_length]
    have hf0 := Hf.out.1
    simp only at hf0
    have hfb := fieldBits_len_le P Hh.out.ok
    have hsum : IntKind.i64.wrap (((fieldBits P).length : Int) + f1) = ((fieldBits (P ++ [(f1, f2)])).length : Int) := by rw [IntKind.wrap_i64, hlen]; omega
    have c2 := hB4'.cell (i := 2) (v := .int .i64 ((fieldBits P).length : Int)) rfl
    have z2 := hB4'.frozen 2
    have d0 := hF4.cell (i := 0) (v := .int .i64 f1) rfl
    obtain ⟨N2, hN2⟩ : ∃ N2 : Int, N2 = ((fieldBits (P ++ [(f1, f2)])).length : Int) := ⟨_, rfl⟩
    have HN2 := veil hN2
    rw [← hN2] at hsum
    have HB4 := veil hB4'
    have HO4 := veil hO4
    have Hon1 := veil hon1
    have hP2 : (P ++ [(f1, f2)]).length ≤ 20000 := by rw [List.length_append]; simp; omega
    clear hlen hN2 hB4' hO4 hon1 hF4
    go_upto_region 4 with fail
    go_still_tail 9, (by kernel_rfl)
    repeat still_step
    try refine wpStill_nil ?_
    change wpList _ _ _ _ _ W4.drew
    go_wp2_with fail
    go_end0
    have hWr9 : Wr B g D (P ++ [(f1, f2)]) vd (.slice A' (P.length + 1) c') (W4.drew.setCell ⟨g, 2, none⟩ (.int .i64 N2)) := ⟨by rw [← HN2.out]; exact HB4.out.set 2 (.int .i64 N2), (HO4.out.setCell (a := ⟨g, 2, none⟩) hlow _).swap.drew, hlow, Hh.out.byt, by
      intro f hf
      rcases List.mem_append.1 hf with hf | hf
      · exact Hh.out.ok f hf
      · rw [List.mem_singleton.1 hf]; exact Hf.out, hP2⟩
    have hon9 : Only (wrF g vd (.slice Av P.length cv)) W0 (W4.drew.setCell ⟨g, 2, none⟩ (.int .i64 N2)) := (Hon1.out.trans (Only.of_grown (grown_setCell W4 g 2 (.int .i64 N2)) (F := wrF g vd (.slice Av P.length cv)) (fun q e => by injection e with e; exact .inl (.inl e.symm))) (fun q h => .inl h)).trans (Only.of_below ((Below.refl _ _).drew) (Nat.le_refl _) : Only (fun _ => False) _ _) (fun q h => h.elim)
    exact ⟨rfl, D, P ++ [(f1, f2)], vd, .slice A' (P.length + 1) c', hWr9, (by rw [Hfin.out, List.append_assoc]), HonA.out.trans hon9 (fun q hq => HsubA.out q hq), fun q hq => by
      rcases hq with h | h | h
      · exact HsubA.out q (.inl h)
      · exact HsubA.out q (.inr (.inl h))
      · rcases hw3 with h2 | h2
        · rw [h2] at h; exact HsubA.out q (.inr (.inr h))
        · rw [h2] at h; injection h with h; right; have := HonA.out.size; omega⟩
  · go_simp
    refine hK.out _ _ hF1 (fun hHeld1 => ?_)
    clear hK K
    refine wpAnyH_ready (rs := [4]) (by kernel_rfl) (by simp) ?_
    refine AllReadyH.cons rfl (fun K hK => ?_) AllReadyH.nil
    go_simp
    refine hK.out _ _ hF1 (fun hHeld2 => ?_)
    clear hK K
    refine wpAnyH_ready (rs := [7]) (by kernel_rfl) (by simp) ?_
    refine AllReadyH.cons rfl (fun K hK => ?_) AllReadyH.nil
    refine step_ownV2 _ rfl (.tmp 16) (.tmp 18) 85 rfl B 89 2 16 elem_field (.slice Av P.length cv) P.length (pairCells P) [byteRow vd D] rfl hO1 (W0.heap.size + 1) (some ⟨W0.heap.size, 0, none⟩) 1 1 (pairCells [(f1, f2)]) rfl hsn (by simp [pairCells]) (by intro u hu; simp [pairCells] at hu; rcases hu with rfl | rfl <;> rfl) (by unfold maxLen; omega) (by omega) ?_
    intro vp' w3 hO3 hg3 hb3 hw3
    obtain ⟨A', c', hv', _, _, _⟩ := hO3.seen (List.mem_cons_self ..)
    simp only at hv'
    subst hv'
    rw [hzW] at hw3
    have hB3 := hB1.below hb3 hlow
    have hF3 := hF1.kept hg3 Hnf.out
    refine hK.out _ _ hF3 (fun hHeld3 => ?_)
    clear hK K hHeld2 hHeld1
    refine take_pure 8 20 (Value.pointer (some ⟨g, 0, none⟩)) _ rfl rfl (by kernel_rfl) (by kernel_rfl) (by kernel_rfl) (fun _ _ _ h => h) rfl (fun w' hS => by go_simp) hHeld3 rfl ?_
    refine take_pure 9 21 (Value.pointer (some ⟨g, 1, none⟩)) _ rfl rfl (by kernel_rfl) (by kernel_rfl) (by kernel_rfl) (fun _ _ _ h => h) rfl (fun w' hS => by go_simp) hHeld3 rfl ?_
    refine wpAnyH_ready (rs := [10]) (by kernel_rfl) (by simp) ?_
    refine AllReadyH.cons rfl (fun K hK => ?_) AllReadyH.nil
    have k3 := hB3.cell (i := 1) (v := .slice Av P.length cv) rfl
    have z3 := hB3.frozen 1
    have hg4 := grown_setCell w3 g 1 (.slice A' (P.length + 1) c')
    have hB4 : Blk (w3.setCell ⟨g, 1, none⟩ (.slice A' (P.length + 1) c')) g [vd, .slice A' (P.length + 1) c', .int .i64 ((fieldBits P).length : Int)] 87 := hB3.set 1 (.slice A' (P.length + 1) c')
    have hF4 := hF3.kept hg4 (by simp; omega)
    have hO4 : Owns B [fieldRow (.slice A' (P.length + 1) c') (P ++ [(f1, f2)]), byteRow vd D] (w3.setCell ⟨g, 1, none⟩ (.slice A' (P.length + 1) c')) := by rw [← fieldRow_append]; exact hO3.setCell (a := ⟨g, 1, none⟩) hlow _
    have hon1 : Only (wrF g vd (.slice Av P.length cv)) W0 (w3.setCell ⟨g, 1, none⟩ (.slice A' (P.length + 1) c')) := (((hoW.mono (fun q h => h.elim) : Only (wrF g vd (.slice Av P.length cv)) W0 _).trans (Only.of_grown hg3 (F := wrF g vd (.slice Av P.length cv)) (fun q e => .inl (.inr (.inr e)))) (fun q h => .inl h) : Only (wrF g vd (.slice Av P.length cv)) W0 w3)).trans (Only.of_grown hg4 (F := wrF g vd (.slice Av P.length cv)) (fun q e => by injection e with e; exact .inl (.inl e.symm))) (fun q h => .inl h)
    go_simp
    refine hK.out _ _ hF4 (fun hHeld4 => ?_)
    clear hK K hHeld3
    refine wpAnyH_done (by kernel_rfl) ?_ _
    clear hHeld4 hHeld0 kA kB hb1 hB1 hF1 hO1 hsn hzW hoW hB3 hF3 k3 z3 hg4 hO3 hg3 hb3
    have hzz := hon1.size
    obtain ⟨W4, hW4⟩ : ∃ W4, W4 = w3.setCell ⟨g, 1, none⟩ (.slice A' (P.length + 1) c') := ⟨_, rfl⟩
    rw [← hW4] at hB4 hF4 hO4 hon1 hzz ⊢
    have hB4' := hB4
    clear hB4 hW4
    have hlen : (fieldBits (P ++ [(f1, f2)])).length = (fieldBits P).length + f1.toNat := by rw [fieldBits_snoc, List.length_append, bitsN_length]
    have hf0 := Hf.out.1
    simp only at hf0
    have hfb := fieldBits_len_le P Hh.out.ok
    have hsum : IntKind.i64.wrap (((fieldBits P).length : Int) + f1) = ((fieldBits (P ++ [(f1, f2)])).length : Int) := by rw [IntKind.wrap_i64, hlen]; omega
    have c2 := hB4'.cell (i := 2) (v := .int .i64 ((fieldBits P).length : Int)) rfl
    have z2 := hB4'.frozen 2
    have d0 := hF4.cell (i := 0) (v := .int .i64 f1) rfl
    obtain ⟨N2, hN2⟩ : ∃ N2 : Int, N2 = ((fieldBits (P ++ [(f1, f2)])).length : Int) := ⟨_, rfl⟩
    have HN2 := veil hN2
    rw [← hN2] at hsum
    have HB4 := veil hB4'
    have HO4 := veil hO4
    have Hon1 := veil hon1
    have hP2 : (P ++ [(f1, f2)]).length ≤ 20000 := by rw [List.length_append]; simp; omega
    clear hlen hN2 hB4' hO4 hon1 hF4
    go_upto_region 4 with fail
    go_still_tail 9, (by kernel_rfl)
    repeat still_step
    try refine wpStill_nil ?_
    change wpList _ _ _ _ _ W4.drew
    go_wp2_with fail
    go_end0
    have hWr9 : Wr B g D (P ++ [(f1, f2)]) vd (.slice A' (P.length + 1) c') (W4.drew.setCell ⟨g, 2, none⟩ (.int .i64 N2)) := ⟨by rw [← HN2.out]; exact HB4.out.set 2 (.int .i64 N2), (HO4.out.setCell (a := ⟨g, 2, none⟩) hlow _).swap.drew, hlow, Hh.out.byt, by
      intro f hf
      rcases List.mem_append.1 hf with hf | hf
      · exact Hh.out.ok f hf
      · rw [List.mem_singleton.1 hf]; exact Hf.out, hP2⟩
    have hon9 : Only (wrF g vd (.slice Av P.length cv)) W0 (W4.drew.setCell ⟨g, 2, none⟩ (.int .i64 N2)) := (Hon1.out.trans (Only.of_grown (grown_setCell W4 g 2 (.int .i64 N2)) (F := wrF g vd (.slice Av P.length cv)) (fun q e => by injection e with e; exact .inl (.inl e.symm))) (fun q h => .inl h)).trans (Only.of_below ((Below.refl _ _).drew) (Nat.le_refl _) : Only (fun _ => False) _ _) (fun q h => h.elim)
    exact ⟨rfl, D, P ++ [(f1, f2)], vd, .slice A' (P.length + 1) c', hWr9, (by rw [Hfin.out, List.append_assoc]), HonA.out.trans hon9 (fun q hq => HsubA.out q hq), fun q hq => by
      rcases hq with h | h | h
      · exact HsubA.out q (.inl h)
      · exact HsubA.out q (.inr (.inl h))
      · rcases hw3 with h2 | h2
        · rw [h2] at h; exact HsubA.out q (.inr (.inr h))
        · rw [h2] at h; injection h with h; right; have := HonA.out.size; omega⟩
end Go.Proofs.YtddkhkpdbjjboaaGreat

/- seg's writer: add, whatever is pending; bytes: their contracts. -/
namespace Go.Proofs.YtddkhkpdbjjboaaGreat
open Go.RowKit
set_option linter.unusedVariables false
set_option linter.unusedSimpArgs false
set_option maxRecDepth 100000

theorem add_any (B g : Nat) (D : List Int) (P : List (Int × Int)) (vd vp : Value) (f1 f2 : Int) (w : World) (h : Wr B g D P vd vp w) (hf : okF (f1, f2)) (hD : D.length ≤ 1000000) :
    Calls Tryz.prog 44 #[.pointer (some ⟨g, 0, none⟩), .agg #[.int .i64 f1, .int .i64 f2]] w fun e w' => e = .returned (.tuple #[]) ∧ ∃ D' P' vd' vp', Wr B g D' P' vd' vp' w' ∧ unpack D' ++ fieldBits P' = unpack D ++ fieldBits P ++ bitsN f1.toNat f2.toNat ∧ Only (wrF g vd vp) w w' ∧ ∀ q, wrF g vd' vp' q → wrF g vd vp q ∨ w.heap.size ≤ q := by
  by_cases hP : P.length < 20000
  · refine (add_small B g D P vd vp f1 f2 w h hf hP).mono ?_
    rintro e w' ⟨he, vp', h1, h2, h3⟩
    exact ⟨he, D, _, vd, vp', h1, by rw [fieldBits_snoc, List.append_assoc], h2, h3⟩
  · exact add_big B g D P vd vp f1 f2 w h hf (by have := h.few; omega) hD
set_option maxRecDepth 100000 in
set_option maxHeartbeats 4000000 in
theorem bytes_any (B g : Nat) (D : List Int) (P : List (Int × Int)) (vd vp : Value) (w : World) (h : Wr B g D P vd vp w) (hD : D.length ≤ 1000000) :
    Calls Tryz.prog 46 #[.pointer (some ⟨g, 0, none⟩)] w fun e w' => ∃ v out, e = .returned v ∧ Owns B [byteRow v out] w' ∧ (Bytes out ∧ ∃ p, p < 8 ∧ unpack out = unpack D ++ fieldBits P ++ List.replicate p true) ∧ Below B w w' := by
  have hgl := h.blk.lt
  have hlow := h.low
  have hbase := h.own.base
  obtain ⟨Av, cv, hv, hsv, hcv, hmv⟩ := h.own.seen (List.mem_cons_of_mem _ (List.mem_cons_self ..))
  simp only [fieldRow] at hv hcv hsv
  obtain ⟨Ad, cd, hvd, _, _, _⟩ := h.own.seen (List.mem_cons_self ..)
  simp only [byteRow, intRow] at hvd
  subst hv
  subst hvd
  have hw0 : writeErr P = 0 := by unfold writeErr; rw [if_neg (by have := h.few; omega), if_pos h.ok]
  have HC := veil (write_any Av cv w.heap.size P w hsv (Nat.le_refl _) (by have := h.few; unfold maxLen; omega))
  have k1 := h.blk.cell (i := 1) (v := .slice Av P.length cv) rfl
  have Hh := veil h
  rw [hw0] at HC
  have hfb := fieldBits_len_le P h.ok
  have hfew := h.few
  clear h hsv hcv hmv
  go_enter Tryz.func46, Tryz.ntmps46
  go_wp2_with fail
  refine HC.out.mono ?_
  rintro e w2 ⟨v2, out, rfl, hown2, hW2, hb2⟩
  obtain ⟨hby, p, hp, hunp⟩ := hW2.2 hw0
  have hl := congrArg List.length hunp
  rw [unpack_length, List.length_append, List.length_replicate] at hl
  obtain ⟨A2, c2, hv2, hs2, hc2, hm2⟩ := own_form' hown2
  subst hv2
  have hB2 := Hh.out.blk.below hb2 hgl
  have hO2 := Hh.out.own.below hb2
  have k0 := hB2.cell (i := 0) (v := .slice Ad D.length cd) rfl
  have hm3 : D.length + out.length ≤ maxLen := by unfold maxLen; omega
  have hm4 : (D.length + out.length) * 1 ≤ 140737488355328 := by omega
  have hbB : Below B w w2 := hb2.mono hbase
  have Hunp := veil hunp; have Hby := veil hby; have HbB := veil hbB
  clear hunp hby hl hown2 hW2 hb2 hB2 HC hw0 k1 hbB
  go_wp2_with (first
    | (at_builtin; go_loud (refine wpList_ownV w2 rfl (.tmp 16) (.tmp 17) 28 rfl B 5 1 1 elem_byte (.slice Ad D.length cd) D.length (ints .u8 D) [fieldRow (.slice Av P.length cv) P] rfl hO2 w2.heap.size A2 out.length c2 (ints .u8 out) rfl hs2 (by rw [ints_length, Nat.mul_one]) ints_one hm3 hm4 ?_); intro vd' w5 hO5 hb5)
    | fail)
  go_ret
  refine ⟨vd', D ++ out, rfl, ?_, ⟨fun x hx => ?_, p, hp, ?_⟩, HbB.out.trans hb5⟩
  · have e : byteRow vd' (D ++ out) = ⟨5, 1, vd', D.length + out.length, ints .u8 D ++ ints .u8 out⟩ := by
      simp only [byteRow, intRow, ints_append, List.length_append]
    rw [e]
    exact Owns.one hO5.base hO5.head
  · rcases List.mem_append.1 hx with hx | hx
    · exact Hh.out.byt x hx
    · exact Hby.out x hx
  · rw [unpack_append, Hunp.out]; simp
end Go.Proofs.YtddkhkpdbjjboaaGreat

/- Tokens in memory: structs of three integers in a row. -/
namespace Go.Proofs.YtddkhkpdbjjboaaGreat
open Go.RowKit
set_option linter.unusedVariables false
set_option linter.unusedSimpArgs false
set_option maxRecDepth 100000

def tokC (f : Int × Int × Int) : List Value := [.int .i64 f.1, .int .i64 f.2.1, .int .i64 f.2.2]
def tokCells (l : List (Int × Int × Int)) : List Value := l.flatMap tokC
theorem tokCells_length (l : List (Int × Int × Int)) : (tokCells l).length = l.length * 3 := by
  induction l with
  | nil => rfl
  | cons f l ih => simp [tokCells, tokC] at ih ⊢; omega
theorem tokCells_append (l m : List (Int × Int × Int)) : tokCells (l ++ m) = tokCells l ++ tokCells m := by simp [tokCells]
theorem tokCells_one {l : List (Int × Int × Int)} : ∀ u ∈ tokCells l, u.oneCell' = true := by
  intro u hu
  simp only [tokCells, List.mem_flatMap] at hu
  obtain ⟨f, _, hu⟩ := hu
  simp [tokC] at hu
  rcases hu with rfl | rfl | rfl <;> rfl
theorem tokCells_at : ∀ (l : List (Int × Int × Int)) (k : Nat) (f : Int × Int × Int), l[k]? = some f → (tokCells l)[k * 3]? = some (.int .i64 f.1) ∧ (tokCells l)[k * 3 + 1]? = some (.int .i64 f.2.1) ∧ (tokCells l)[k * 3 + 2]? = some (.int .i64 f.2.2)
  | [], k, f, h => by simp at h
  | g :: l, 0, f, h => by simp at h; subst h; simp [tokCells, tokC]
  | g :: l, k + 1, f, h => by
    rw [List.getElem?_cons_succ] at h
    have e : ∀ j, (tokCells (g :: l))[j + 3]? = (tokCells l)[j]? := by intro j; simp [tokCells, tokC]
    have := tokCells_at l k f h
    refine ⟨?_, ?_, ?_⟩
    · rw [show (k + 1) * 3 = k * 3 + 3 by omega, e]; exact this.1
    · rw [show (k + 1) * 3 + 1 = k * 3 + 1 + 3 by omega, e]; exact this.2.1
    · rw [show (k + 1) * 3 + 2 = k * 3 + 2 + 3 by omega, e]; exact this.2.2
theorem tokCells_take (l : List (Int × Int × Int)) (k : Nat) : tokCells (l.take k) = (tokCells l).take (k * 3) := by
  by_cases h : k ≤ l.length
  · have e : tokCells l = tokCells (l.take k) ++ tokCells (l.drop k) := by rw [← tokCells_append, List.take_append_drop]
    have e2 : k * 3 = (tokCells (l.take k)).length := by rw [tokCells_length, List.length_take]; omega
    rw [e, e2, List.take_left]
  · rw [List.take_of_length_le (by omega), List.take_of_length_le (by rw [tokCells_length]; omega)]
/-- One token of a row that is seen, with its three cells. -/
theorem Seen.tok {w : World} {B : Nat} {A : Option Addr} {l : List (Int × Int × Int)} (h : Seen w B A (tokCells l)) {k : Nat} (hk : k < l.length) :
    ∃ g o s n c, A = some ⟨g, o, none⟩ ∧ g < B ∧ l[k]? = some (s, n, c) ∧ w.cell? ⟨g, o + k * 3, none⟩ = some (.int .i64 s) ∧ w.cell? ⟨g, o + k * 3 + 1, none⟩ = some (.int .i64 n) ∧ w.cell? ⟨g, o + k * 3 + 2, none⟩ = some (.int .i64 c) := by
  obtain ⟨g, o, e, hg, hc⟩ := h.at (by rw [tokCells_length]; omega)
  obtain ⟨⟨s, n, c⟩, hx⟩ := some_at hk
  obtain ⟨h1, h2, h3⟩ := tokCells_at l k _ hx
  exact ⟨g, o, s, n, c, e, hg, hx, hc _ _ h1, by have := hc _ _ h2; rw [Nat.add_assoc]; exact this, by have := hc _ _ h3; rw [Nat.add_assoc]; exact this⟩
theorem elem_tok : ElemOf Tryz.prog 102 73 3 24 := .mk' (z := .agg #[.int .i64 0, .int .i64 0, .int .i64 0]) Tryz.underlying102 (by kernel_rfl) rfl (by omega)
abbrev tokRow (v : Value) (l : List (Int × Int × Int)) : Row := ⟨73, 3, v, l.length, tokCells l⟩
theorem tokRow_append (v : Value) (l m : List (Int × Int × Int)) : (⟨73, 3, v, l.length + m.length, tokCells l ++ tokCells m⟩ : Row) = tokRow v (l ++ m) := by simp [tokRow, tokCells_append]
/-- In a walk: append of one token just laid onto the first of the rows. -/
theorem wpList_ownK {ops : Array Oper} {rest : List Oper} {o : Oper} {a : Act} {Q : Exit → Act → World → Prop} (w0 : World) (hgd : Region.wanted o (yielded ops a.tmps) = true) (s x : Operand)
    (ho : o.op = .call { callee := .builtin .append, args := #[s, x], argTypes := #[102, 102] })
    (B : Nat) (v : Value) (l : List (Int × Int × Int)) (rs : List Row) (hs : a.eval s = v) (HO : Owns B (tokRow v l :: rs) w0) (f0 f1 f2 : Int) (hx : a.eval x = .slice (some ⟨w0.heap.size, 0, none⟩) 1 1)
    (h63 : l.length + 1 ≤ 1099511627776)
    (h : ∀ v' w', Owns B (tokRow v' (l ++ [(f0, f1, f2)]) :: rs) w' → Below B w0 w' → w0.heap.size < w'.heap.size → wpList Tryz.prog ops Q rest (a.put o.dst v') w') : wpList Tryz.prog ops Q (o :: rest) a (w0.alloc (.cells #[.int .i64 f0, .int .i64 f1, .int .i64 f2] 73)) := by
  refine wpList_ownV _ hgd s x _ ho B 73 3 24 elem_tok v l.length (tokCells l) rs hs (HO.alloc _) (w0.heap.size + 1) _ 1 1 (tokCells [(f0, f1, f2)]) hx (Seen.new w0 (tokCells [(f0, f1, f2)]) _ _ (Nat.lt_succ_self _)) (by rw [tokCells_length]; rfl) tokCells_one (by unfold maxLen; omega) (by omega) ?_
  intro v' w' h2 h3
  have := h3.size
  refine h v' w' ?_ (((Below.refl _ _).alloc HO.base _).trans h3) (by simp at this; omega)
  rw [← tokRow_append]
  exact h2
/-- The same, the new block's number written out. -/
theorem wpList_ownKn {ops : Array Oper} {rest : List Oper} {o : Oper} {a : Act} {Q : Exit → Act → World → Prop} (w0 : World) (n : Nat) (hn : w0.heap.size = n) (hgd : Region.wanted o (yielded ops a.tmps) = true) (s x : Operand)
    (ho : o.op = .call { callee := .builtin .append, args := #[s, x], argTypes := #[102, 102] })
    (B : Nat) (v : Value) (l : List (Int × Int × Int)) (rs : List Row) (hs : a.eval s = v) (HO : Owns B (tokRow v l :: rs) w0) (f0 f1 f2 : Int) (hx : a.eval x = .slice (some ⟨n, 0, none⟩) 1 1)
    (h63 : l.length + 1 ≤ 1099511627776)
    (h : ∀ v' w', Owns B (tokRow v' (l ++ [(f0, f1, f2)]) :: rs) w' → Below B w0 w' → w0.heap.size < w'.heap.size → wpList Tryz.prog ops Q rest (a.put o.dst v') w') : wpList Tryz.prog ops Q (o :: rest) a (w0.alloc (.cells #[.int .i64 f0, .int .i64 f1, .int .i64 f2] 73)) := by
  subst hn
  exact wpList_ownK w0 hgd s x ho B v l rs hs HO f0 f1 f2 hx h63 h
theorem neq_tok (a b c a' b' c' : Int) (w : World) : (binOp .neq 73 (.agg #[.int .i64 a, .int .i64 b, .int .i64 c]) (.agg #[.int .i64 a', .int .i64 b', .int .i64 c'])).run Tryz.prog w = .ok (.bool (!(a == a' && (b == b' && c == c')))) w := by
  have h1 : Tryz.prog.underlying 73 = some (.struct (Tryz.prog.fieldsOf 73)) := by kernel_rfl
  have h2 : Tryz.prog.stoodInHeld 73 = false := by kernel_rfl
  have h3 : (Tryz.prog.fieldsOf 73).toList = [⟨ "Sym", 3, 0, false, "", "", 0⟩, ⟨ "Width", 3, 1, false, "", "", 8⟩, ⟨ "Value", 3, 2, false, "", "", 16⟩] := by kernel_rfl
  have ha : ∀ w, (isAgg 3).run Tryz.prog w = .ok false w := fun w => by kernel_rfl
  have he := fun d w x y => run_equalIn_int (P := Tryz.prog) w d 3 .i64 .i64 x y Tryz.underlying3
  rw [run_neq_struct, run_equalIn_agg (P := Tryz.prog) w 9999 _ _ _ h1 h2, h3]
  by_cases e1 : a = a' <;> by_cases e2 : b = b' <;> by_cases e3 : c = c' <;> simp [Op.eqFields, part, ha, he 9998, e1, e2, e3, Result.andThen]
end Go.Proofs.YtddkhkpdbjjboaaGreat

/- bits.Len (small numbers) and the package size: Of, Bits, Back; their contracts. -/
namespace Go.Proofs.YtddkhkpdbjjboaaGreat
open Go.RowKit
set_option linter.unusedVariables false
set_option linter.unusedSimpArgs false
set_option maxRecDepth 100000

theorem bitLen_sz : ∀ n : Fin 256, Lib.bitLen n.val = szN n.val := by decide +kernel
theorem len8_sz (x : Int) (h0 : 0 ≤ x) (h1 : x ≤ 255) : Lib.len8 x = (szN x.toNat : Nat) := by
  rw [Lib.len8_of x h0 h1, ← bitLen_sz ⟨x.toNat, by omega⟩]
theorem szN_shift {m : Nat} (h : 256 ≤ m) : szN m = 8 + szN (m / 256) := by
  have h1 := szN_ge (m := m / 256) (by omega)
  have h2 := szN_lt (m / 256)
  have h3 := szN_pos (m := m / 256) (by omega)
  obtain ⟨k, hk⟩ : ∃ k, szN (m / 256) = k + 1 := ⟨szN (m / 256) - 1, by omega⟩
  rw [hk] at h1 h2 ⊢
  rw [Nat.add_sub_cancel] at h1
  have e : szN m = (k + 8) + 1 := szN_is (by rw [Nat.pow_add]; omega) (by rw [show k + 8 + 1 = (k + 1) + 8 by omega, Nat.pow_add]; omega)
  rw [e]; omega
theorem szI {x y : Int} (h : x = y) : (Ending.returned (.int .i64 x)) = .returned (.int .i64 y) := by rw [h]
set_option maxHeartbeats 4000000 in
set_option maxRecDepth 100000 in
theorem len64_small (x : Int) (w : World) (h0 : 0 ≤ x) (h : x < 65536) :
    Calls Tryz.prog 109 #[.int .u64 x] w fun e w' => e = .returned (.int .i64 (szZ x : Nat)) ∧ w' = w := by
  by_cases h2 : x < 256
  · have h3 : x ≤ 255 := by omega
    go_enter Tryz.func109, Tryz.ntmps109
    go_wp2
    all_goals (go_ret; refine ⟨szI ?_, rfl⟩)
    rw [len8_sz x h0 h3]
    have e3 : szZ x = szN x.toNat := by unfold szZ; congr 1; omega
    have e4 := szN_le (m := x.toNat) (k := 8) (by omega)
    try unfold wrap64
    omega
  · have h3 : x / 256 ≤ 255 := by omega
    have h4 : 0 ≤ x / 256 := by omega
    go_enter Tryz.func109, Tryz.ntmps109
    go_wp2
    all_goals (go_ret; refine ⟨szI ?_, rfl⟩)
    rw [len8_sz (x / 256) h4 h3]
    have e5 : (x / 256).toNat = x.toNat / 256 := by omega
    have e3 : szZ x = 8 + szN (x / 256).toNat := by rw [e5, ← szN_shift (by omega)]; unfold szZ; congr 1; omega
    have e4 := szN_le (m := (x / 256).toNat) (k := 8) (by omega)
    try unfold wrap64
    omega
theorem len_small (x : Int) (w : World) (h0 : 0 ≤ x) (h : x < 65536) :
    Calls Tryz.prog 107 #[.int .u64 x] w fun e w' => e = .returned (.int .i64 (szZ x : Nat)) ∧ w' = w := by
  have HC := veil (len64_small x w h0 h)
  go_enter Tryz.func107, Tryz.ntmps107
  go_wp2_with fail
  refine HC.out.mono ?_
  rintro e w' ⟨rfl, rfl⟩
  go_wp2
  go_ret
  exact ⟨rfl, rfl⟩
/-- What the three functions answer. -/
def eS (n : Int) : Int := if -4095 ≤ n ∧ n ≤ 4095 then 0 else 1
def oS (n : Int) : Int := if -4095 ≤ n ∧ n ≤ 4095 then (szZ n : Nat) else 0
def oV (n : Int) : Int := if -4095 ≤ n ∧ n ≤ 4095 then vbZ n else 0
def eB (w v : Int) : Int := if 0 ≤ w ∧ w ≤ 12 ∧ 0 ≤ v ∧ v < pw w.toNat then 0 else 1
def oB (w v : Int) : Int := if 0 ≤ w ∧ w ≤ 12 ∧ 0 ≤ v ∧ v < pw w.toNat then bkZ w.toNat v else 0
theorem eS_ok {n : Int} (h1 : -4095 ≤ n) (h2 : n ≤ 4095) : eS n = 0 := if_pos ⟨h1, h2⟩
theorem oS_ok {n : Int} (h1 : -4095 ≤ n) (h2 : n ≤ 4095) : oS n = (szZ n : Nat) := if_pos ⟨h1, h2⟩
theorem oV_ok {n : Int} (h1 : -4095 ≤ n) (h2 : n ≤ 4095) : oV n = vbZ n := if_pos ⟨h1, h2⟩
theorem eS_bad {n : Int} (h : ¬ (-4095 ≤ n ∧ n ≤ 4095)) : eS n = 1 := if_neg h
theorem oS_bad {n : Int} (h : ¬ (-4095 ≤ n ∧ n ≤ 4095)) : oS n = 0 := if_neg h
theorem oV_bad {n : Int} (h : ¬ (-4095 ≤ n ∧ n ≤ 4095)) : oV n = 0 := if_neg h
theorem eB_ok {k : Nat} {v : Int} (hk : k ≤ 12) (h1 : 0 ≤ v) (h2 : v < pw k) : eB k v = 0 := if_pos ⟨by omega, by omega, h1, h2⟩
theorem oB_ok {k : Nat} {v : Int} (hk : k ≤ 12) (h1 : 0 ≤ v) (h2 : v < pw k) : oB k v = bkZ k v := if_pos ⟨by omega, by omega, h1, h2⟩
theorem eB_bad {w v : Int} (h : ¬ (0 ≤ w ∧ w ≤ 12 ∧ 0 ≤ v ∧ v < pw w.toNat)) : eB w v = 1 := if_neg h
theorem oB_bad {w v : Int} (h : ¬ (0 ≤ w ∧ w ≤ 12 ∧ 0 ≤ v ∧ v < pw w.toNat)) : oB w v = 0 := if_neg h
theorem pow_pw (k : Nat) (h : k ≤ 12) : wrap64 ((2 : Int) ^ k) = pw k ∧ 1 ≤ pw k ∧ pw k ≤ 4096 := by
  have h1 := Nat.pow_le_pow_right (n := 2) (by omega) h
  have h2 := Nat.two_pow_pos k
  have e : ((2 : Int) ^ k) = ((2 ^ k : Nat) : Int) := by simp
  rw [e]
  unfold pw
  exact ⟨wrap64_nat _ (by omega), by omega, by omega⟩
theorem sz_max (n : Int) : szZ (max n (-n)) = szZ n := by
  by_cases h : n ≤ -n
  · rw [Int.max_eq_right h, szZ_neg]
  · rw [Int.max_eq_left (by omega)]
theorem of_ok (n : Int) (w : World) (h1 : -4095 ≤ n) (h2 : n ≤ 4095) :
    Calls Tryz.prog 105 #[.int .i64 n] w fun e w' => e = .returned (.tuple #[.int .i64 (szZ n : Nat), .int .i64 0]) ∧ w' = w := by
  have HC := veil (len_small (max n (-n)) w (by omega) (by omega))
  rw [sz_max] at HC
  generalize szZ n = s at *
  go_enter Tryz.func105, Tryz.ntmps105
  go_wp2_with fail
  refine HC.out.mono ?_
  rintro e w' ⟨rfl, rfl⟩
  go_wp2
  go_ret2
  exact ⟨rfl, rfl⟩
theorem of_lo (n : Int) (w : World) (h : n < -4095) :
    Calls Tryz.prog 105 #[.int .i64 n] w fun e w' => e = .returned (.tuple #[.int .i64 0, .int .i64 1]) ∧ w' = w := by
  go_enter Tryz.func105, Tryz.ntmps105
  go_wp2
  go_ret2
  exact ⟨rfl, rfl⟩
theorem of_hi (n : Int) (w : World) (h : 4095 < n) :
    Calls Tryz.prog 105 #[.int .i64 n] w fun e w' => e = .returned (.tuple #[.int .i64 0, .int .i64 1]) ∧ w' = w := by
  have h2 : ¬ n < -4095 := by omega
  go_enter Tryz.func105, Tryz.ntmps105
  go_wp2
  go_ret2
  exact ⟨rfl, rfl⟩
theorem of_any (n : Int) (w : World) :
    Calls Tryz.prog 105 #[.int .i64 n] w fun e w' => e = .returned (.tuple #[.int .i64 (oS n), .int .i64 (eS n)]) ∧ w' = w := by
  by_cases h : -4095 ≤ n ∧ n ≤ 4095
  · rw [oS_ok h.1 h.2, eS_ok h.1 h.2]; exact of_ok n w h.1 h.2
  · rw [oS_bad h, eS_bad h]
    by_cases h2 : n < -4095
    · exact of_lo n w h2
    · exact of_hi n w (by omega)
set_option maxHeartbeats 1000000 in
theorem bits_any (n : Int) (w : World) :
    Calls Tryz.prog 100 #[.int .i64 n] w fun e w' => e = .returned (.tuple #[.int .i64 (oS n), .int .i64 (oV n), .int .i64 (eS n)]) ∧ ∃ q, w' = w.drewN q := by
  have HC := veil (of_any n w)
  by_cases h : -4095 ≤ n ∧ n ≤ 4095
  · obtain ⟨h1, h2⟩ := h
    rw [oS_ok h1 h2, eS_ok h1 h2] at HC
    rw [oS_ok h1 h2, eS_ok h1 h2, oV_ok h1 h2]
    by_cases hn : 0 < n
    · have e : vbZ n = n := if_pos hn
      rw [e]
      generalize szZ n = s at *
      go_enter Tryz.func100, Tryz.ntmps100
      go_wp2_with fail
      refine HC.out.mono ?_
      rintro e w' ⟨rfl, rfl⟩
      go_wp2
      go_ret3
      exact ⟨rfl, 0, rfl⟩
    · have e : vbZ n = n + pw (szZ n) - 1 := if_neg hn
      rw [e]
      have hs := sz_12 h1 h2
      have HP := veil (pow_pw (szZ n) hs)
      generalize szZ n = s at *
      go_enter Tryz.func100, Tryz.ntmps100
      go_wp2_with fail
      refine HC.out.mono ?_
      rintro e w' ⟨rfl, rfl⟩
      go_wp2
      go_quiet (fail)
      go_wp2
      go_ret3
      refine ⟨ret_three rfl (congrArg (Value.int .i64) ?_) rfl, _, rfl⟩
      rw [HP.out.1]
      have := HP.out.2
      unfold wrap64
      omega
  · rw [oS_bad h, eS_bad h] at HC
    rw [oS_bad h, eS_bad h, oV_bad h]
    go_enter Tryz.func100, Tryz.ntmps100
    go_wp2_with fail
    refine HC.out.mono ?_
    rintro e w' ⟨rfl, rfl⟩
    go_wp2
    go_ret3
    exact ⟨rfl, 0, rfl⟩
set_option maxHeartbeats 1000000 in
theorem szBack_in (k : Nat) (v : Int) (w : World) (hk : k ≤ 12) (h1 : 0 ≤ v) (h2 : v < pw k) :
    Calls Tryz.prog 101 #[.int .i64 (k : Int), .int .i64 v] w fun e w' => e = .returned (.tuple #[.int .i64 (bkZ k v), .int .i64 0]) ∧ w' = w := by
  have HP := veil (pow_pw k hk)
  have h2' := veil h2
  have HB : Hid (bkZ k v = _) := bkZ.eq_1 k v
  have hkz : (k : Int) ≤ 12 := by omega
  clear h2
  generalize bkZ k v = R at *
  go_enter Tryz.func101, Tryz.ntmps101
  go_wp2
  all_goals (have e := HP.out.1; have e1 := HP.out.2; have e2 := h2'.out; have e3 := HB.out; clear HP h2' HB)
  all_goals (have e4 : wrap64 (2 * v) = 2 * v := by unfold wrap64; omega)
  all_goals (generalize hq : wrap64 ((2 : Int) ^ k) = P at *)
  all_goals (subst e; rw [e4] at *)
  all_goals first
    | (exfalso; omega)
    | (rw [if_pos (by omega)] at e3; clear hq; go_ret2; exact ⟨ret_two (congrArg (Value.int .i64) e3.symm) rfl, rfl⟩)
    | (rw [if_neg (by omega)] at e3; clear hq; go_ret2; refine ⟨ret_two (congrArg (Value.int .i64) ?_) rfl, rfl⟩; unfold wrap64; omega)
theorem back_lo (n v : Int) (w : World) (h : n < 0) :
    Calls Tryz.prog 101 #[.int .i64 n, .int .i64 v] w fun e w' => e = .returned (.tuple #[.int .i64 0, .int .i64 1]) ∧ w' = w := by
  go_enter Tryz.func101, Tryz.ntmps101
  go_wp2
  go_ret2
  exact ⟨rfl, rfl⟩
theorem back_hi (n v : Int) (w : World) (h : 12 < n) :
    Calls Tryz.prog 101 #[.int .i64 n, .int .i64 v] w fun e w' => e = .returned (.tuple #[.int .i64 0, .int .i64 1]) ∧ w' = w := by
  have h2 : ¬ n < 0 := by omega
  go_enter Tryz.func101, Tryz.ntmps101
  go_wp2
  go_ret2
  exact ⟨rfl, rfl⟩
theorem back_neg (n v : Int) (w : World) (h0 : 0 ≤ n) (h1 : n ≤ 12) (h : v < 0) :
    Calls Tryz.prog 101 #[.int .i64 n, .int .i64 v] w fun e w' => e = .returned (.tuple #[.int .i64 0, .int .i64 1]) ∧ w' = w := by
  go_enter Tryz.func101, Tryz.ntmps101
  go_wp2
  go_ret2
  exact ⟨rfl, rfl⟩
theorem back_big (k : Nat) (v : Int) (w : World) (hk : k ≤ 12) (h1 : 0 ≤ v) (h2 : pw k ≤ v) :
    Calls Tryz.prog 101 #[.int .i64 (k : Int), .int .i64 v] w fun e w' => e = .returned (.tuple #[.int .i64 0, .int .i64 1]) ∧ w' = w := by
  have HP := veil (pow_pw k hk)
  have h2' := veil h2
  have hkz : (k : Int) ≤ 12 := by omega
  clear h2
  go_enter Tryz.func101, Tryz.ntmps101
  go_wp2
  all_goals (have e := HP.out.1; have e1 := HP.out.2; have e2 := h2'.out; clear HP h2')
  all_goals (generalize hq : wrap64 ((2 : Int) ^ k) = P at *)
  all_goals (subst e)
  all_goals first
    | (exfalso; omega)
    | (go_ret2; exact ⟨rfl, rfl⟩)
theorem back_any (n v : Int) (w : World) :
    Calls Tryz.prog 101 #[.int .i64 n, .int .i64 v] w fun e w' => e = .returned (.tuple #[.int .i64 (oB n v), .int .i64 (eB n v)]) ∧ w' = w := by
  by_cases h0 : n < 0
  · rw [oB_bad (by omega), eB_bad (by omega)]; exact back_lo n v w h0
  · by_cases h1 : 12 < n
    · rw [oB_bad (by omega), eB_bad (by omega)]; exact back_hi n v w h1
    · by_cases h2 : v < 0
      · rw [oB_bad (by omega), eB_bad (by omega)]; exact back_neg n v w (by omega) (by omega) h2
      · obtain ⟨k, rfl⟩ : ∃ k : Nat, n = k := ⟨n.toNat, by omega⟩
        by_cases h3 : v < pw k
        · rw [oB_ok (by omega) (by omega) h3, eB_ok (by omega) (by omega) h3]; exact szBack_in k v w (by omega) (by omega) h3
        · rw [oB_bad (by rw [Int.toNat_natCast]; omega), eB_bad (by rw [Int.toNat_natCast]; omega)]; exact back_big k v w (by omega) (by omega) (by omega)
end Go.Proofs.YtddkhkpdbjjboaaGreat

/- The laws' zigged: the order begins as the document says. -/
namespace Go.Proofs.YtddkhkpdbjjboaaGreat
open Go.RowKit
set_option linter.unusedVariables false
set_option linter.unusedSimpArgs false
set_option maxRecDepth 100000

theorem zz_form {w : World} {B g c : Nat} {rs : List Row} (h : Owns B (intRow 3 .i64 (.slice (some ⟨g, 0, none⟩) 64 c) zz :: rs) w) : Seen w w.heap.size (some ⟨g, 0, none⟩) (ints .i64 zz) ∧ 64 ≤ c ∧ c ≤ maxLen := by
  obtain ⟨A, c', e, hs, h1, h2⟩ := h.seen (List.mem_cons_self ..)
  simp only [intRow, Value.slice.injEq] at e hs h1
  obtain ⟨e1, e2, e3⟩ := e
  rw [e1, e3]
  exact ⟨hs, by rw [e2]; exact h1, h2⟩
end Go.Proofs.YtddkhkpdbjjboaaGreat

/- zig.To and zig.From: their contracts. -/
namespace Go.Proofs.YtddkhkpdbjjboaaGreat
open Go.RowKit
set_option linter.unusedVariables false
set_option linter.unusedSimpArgs false
set_option maxRecDepth 100000

theorem zz_cellK {w : World} {B g : Nat} (h : Seen w B (some ⟨g, 0, none⟩) (ints .i64 zz)) {k : Nat} {x : Int} (hk : zz[k]? = some x) : w.cell? ⟨g, k, none⟩ = some (.int .i64 x) := by
  obtain ⟨g', o, e0, _, hc⟩ := h.cell (ints_at hk)
  injection e0 with e0
  injection e0 with e1 e2
  subst e1 e2
  rwa [Nat.zero_add] at hc
set_option maxHeartbeats 4000000 in
set_option maxRecDepth 100000 in
theorem to_any (cs : List Int) (w : World) (hc : cs.length = 64) :
    Calls Tryz.prog 86 #[blkV cs] w fun e w' => e = .returned (blkV (toL cs)) ∧ Below w.heap.size w w' := by
  have HA := veil (order_any (box3 cs w))
  obtain ⟨hb3, HB0, HB1, HB2, hz3⟩ := box3_is cs w
  go_enter Tryz.func86, Tryz.ntmps86
  go_wp2_with fail
  refine HA.out.mono ?_
  rintro e w2 ⟨g, c, rfl, HO, hb2⟩
  have h1 := (zz_form HO).1
  rw [hz3] at HO hb2
  have HB0' := HB0.below hb2 (by omega)
  have HB1' := HB1.below hb2 (by omega)
  have HB2' := veil (HB2.below hb2 (by omega))
  have hz2 := hb2.size
  have hbw := hb3.trans (hb2.mono (by omega))
  clear HA HB0 HB1 HB2 hb2 h1 hb3
  go_wp2_with fail
  go_loopg [8] 64 (fun gk i wr => ∃ k : Nat, gk = 64 - k ∧ k ≤ 64 ∧ i = .int .i64 (k : Int) ∧ Hid (Blk wr (w.heap.size + 1 + 1) (ints .i64 (toK cs k)) 37) ∧ Hid (w2.grownBy wr (some (w.heap.size + 1 + 1))))
  case atStart => exact ⟨0, rfl, by omega, rfl, veil (by rw [toK_zero]; exact HB2'.out), veil (World.grownBy.refl _ _)⟩
  case round =>
    clear HB2'
    obtain ⟨k, rfl, hk, rfl, HB, HG⟩ := hrel
    have HBX := HB0'.kept HG.out (by simp; omega)
    have HO2 := HO.kept HG.out (by omega)
    have h1 := (zz_form HO2).1
    by_cases hlt : k < 64
    · have hltz : (k : Int) < 64 := by omega
      obtain ⟨⟨n, hn64⟩, hn, _⟩ := zz_at ⟨k, hlt⟩
      simp only at hn
      have hnz : (n : Int) < 64 := by omega
      obtain ⟨x, hx⟩ := some_at (xs := cs) (j := n) (by omega)
      have hcn := zz_cellK h1 hn
      have hcx := HBX.cell (ints_at hx)
      obtain ⟨y, hy⟩ := some_at (xs := toK cs k) (j := k) (by rw [toK_length]; omega)
      have hcy := HB.out.cell (ints_at hy)
      have hfy := HB.out.frozen k
      have HB5 : Hid (Blk (wr.setCell ⟨w.heap.size + 1 + 1, k, none⟩ (.int .i64 x)) (w.heap.size + 1 + 1) (ints .i64 (toK cs (k + 1))) 37) := by
        rw [toK_next hlt hn hx]
        have := HB.out.set k (.int .i64 x)
        rw [show (ints .i64 (toK cs k)).set k (.int .i64 x) = ints .i64 ((toK cs k).set k x) by simp [ints, List.map_set]] at this
        exact this
      have HG5 : Hid (w2.grownBy (wr.setCell ⟨w.heap.size + 1 + 1, k, none⟩ (.int .i64 x)) (some (w.heap.size + 1 + 1))) :=
        HG.out.trans ⟨rfl, rfl, rfl, by simp [World.setCell], fun i _ hi => Below.heap_setCell _ _ _ _ (fun e => hi (by rw [e]))⟩
      clear HB HG HBX HO2 h1 hn hx hy
      go_wp2_with fail
      go_roundg (64 - (k + 1))
      case rel => exact ⟨k + 1, rfl, by omega, by go_num, HB5, HG5⟩
      case measure => omega
    · obtain rfl : k = 64 := by omega
      have HR := HB1'.kept HG.out (by simp)
      have HBr := HB.out
      have Hlen : Hid ((ints .i64 (toK cs 64)).length = 64) := by show _ = _; rw [ints_length, toK_length]
      have hone := ints_one (k := .i64) (l := toK cs 64)
      have hbg : Below w.heap.size w wr := hbw.grown HG.out hbw.size (fun j hj => by injection hj with hj; omega)
      have Hz := veil zeroB_length
      obtain ⟨xs, hxs⟩ : ∃ xs, xs = ints .i64 (toK cs 64) := ⟨_, rfl⟩
      rw [← hxs] at Hlen hone HBr
      have HX := veil hxs
      generalize zeroB = x0 at *
      clear HB HG HBX HO2 h1 hxs
      go_wp2_with (first
        | (refine wpList_load_mid rfl 37 (.tmp 3) rfl (w.heap.size + 1 + 1) 0 rfl xs _ HBr.range Tryz.underlying37 rfl (info_blkn Hlen.out) ?_)
        | (refine wpList_store_blk wr rfl 37 (.tmp 2) (.tmp 19) rfl (w.heap.size + 1) x0 xs 37 HR rfl rfl (info_blkn Hlen.out) (by rw [Hlen.out, Hz.out]) hone ?_; intro w5 HB5 hg5)
        | fail)
      refine bodyPost_ret (v := .agg xs.toArray) (results_cell_row rfl _ _ (w.heap.size + 1) 37 xs.toArray (0, 0) _ rfl HB5 Tryz.underlying37 rfl (by simp only [List.size_toArray]; exact info_blkn Hlen.out)) rfl ⟨by rw [HX.out]; rfl, hbg.grown hg5 hbg.size (fun j hj => by injection hj with hj; omega)⟩
set_option maxHeartbeats 4000000 in
set_option maxRecDepth 100000 in
theorem from_any (cs : List Int) (w : World) (hc : cs.length = 64) :
    Calls Tryz.prog 91 #[blkV cs] w fun e w' => e = .returned (blkV (fromL cs)) ∧ Below w.heap.size w w' := by
  have HA := veil (order_any (box3 cs w))
  obtain ⟨hb3, HB0, HB1, HB2, hz3⟩ := box3_is cs w
  go_enter Tryz.func91, Tryz.ntmps91
  go_wp2_with fail
  refine HA.out.mono ?_
  rintro e w2 ⟨g, c, rfl, HO, hb2⟩
  have h1 := (zz_form HO).1
  rw [hz3] at HO hb2
  have HB0' := HB0.below hb2 (by omega)
  have HB1' := HB1.below hb2 (by omega)
  have HB2' := veil (HB2.below hb2 (by omega))
  have hz2 := hb2.size
  have hbw := hb3.trans (hb2.mono (by omega))
  clear HA HB0 HB1 HB2 hb2 h1 hb3
  go_wp2_with fail
  go_loopg [8] 64 (fun gk i wr => ∃ k : Nat, gk = 64 - k ∧ k ≤ 64 ∧ i = .int .i64 (k : Int) ∧ Hid (Blk wr (w.heap.size + 1 + 1) (ints .i64 (fromK cs k)) 37) ∧ Hid (w2.grownBy wr (some (w.heap.size + 1 + 1))))
  case atStart => exact ⟨0, rfl, by omega, rfl, veil (by rw [fromK_zero]; exact HB2'.out), veil (World.grownBy.refl _ _)⟩
  case round =>
    clear HB2'
    obtain ⟨k, rfl, hk, rfl, HB, HG⟩ := hrel
    have HBX := HB0'.kept HG.out (by simp; omega)
    have HO2 := HO.kept HG.out (by omega)
    have h1 := (zz_form HO2).1
    by_cases hlt : k < 64
    · have hltz : (k : Int) < 64 := by omega
      obtain ⟨⟨n, hn64⟩, hn, _⟩ := zz_at ⟨k, hlt⟩
      simp only at hn
      have hnz : (n : Int) < 64 := by omega
      obtain ⟨x, hx⟩ := some_at (xs := cs) (j := k) (by omega)
      have hcn := zz_cellK h1 hn
      have hcx := HBX.cell (ints_at hx)
      obtain ⟨y, hy⟩ := some_at (xs := fromK cs k) (j := n) (by rw [fromK_length]; omega)
      have hcy := HB.out.cell (ints_at hy)
      have hfy := HB.out.frozen n
      have HB5 : Hid (Blk (wr.setCell ⟨w.heap.size + 1 + 1, n, none⟩ (.int .i64 x)) (w.heap.size + 1 + 1) (ints .i64 (fromK cs (k + 1))) 37) := by
        rw [fromK_next hlt hn hx]
        have := HB.out.set n (.int .i64 x)
        rw [show (ints .i64 (fromK cs k)).set n (.int .i64 x) = ints .i64 ((fromK cs k).set n x) by simp [ints, List.map_set]] at this
        exact this
      have HG5 : Hid (w2.grownBy (wr.setCell ⟨w.heap.size + 1 + 1, n, none⟩ (.int .i64 x)) (some (w.heap.size + 1 + 1))) :=
        HG.out.trans ⟨rfl, rfl, rfl, by simp [World.setCell], fun i _ hi => Below.heap_setCell _ _ _ _ (fun e => hi (by rw [e]))⟩
      clear HB HG HBX HO2 h1 hn hx hy
      go_wp2_with fail
      go_roundg (64 - (k + 1))
      case rel => exact ⟨k + 1, rfl, by omega, by go_num, HB5, HG5⟩
      case measure => omega
    · obtain rfl : k = 64 := by omega
      have HR := HB1'.kept HG.out (by simp)
      have HBr := HB.out
      have Hlen : Hid ((ints .i64 (fromK cs 64)).length = 64) := by show _ = _; rw [ints_length, fromK_length]
      have hone := ints_one (k := .i64) (l := fromK cs 64)
      have hbg : Below w.heap.size w wr := hbw.grown HG.out hbw.size (fun j hj => by injection hj with hj; omega)
      have Hz := veil zeroB_length
      obtain ⟨xs, hxs⟩ : ∃ xs, xs = ints .i64 (fromK cs 64) := ⟨_, rfl⟩
      rw [← hxs] at Hlen hone HBr
      have HX := veil hxs
      generalize zeroB = x0 at *
      clear HB HG HBX HO2 h1 hxs
      go_wp2_with (first
        | (refine wpList_load_mid rfl 37 (.tmp 3) rfl (w.heap.size + 1 + 1) 0 rfl xs _ HBr.range Tryz.underlying37 rfl (info_blkn Hlen.out) ?_)
        | (refine wpList_store_blk wr rfl 37 (.tmp 2) (.tmp 19) rfl (w.heap.size + 1) x0 xs 37 HR rfl rfl (info_blkn Hlen.out) (by rw [Hlen.out, Hz.out]) hone ?_; intro w5 HB5 hg5)
        | fail)
      refine bodyPost_ret (v := .agg xs.toArray) (results_cell_row rfl _ _ (w.heap.size + 1) 37 xs.toArray (0, 0) _ rfl HB5 Tryz.underlying37 rfl (by simp only [List.size_toArray]; exact info_blkn Hlen.out)) rfl ⟨by rw [HX.out]; rfl, hbg.grown hg5 hbg.size (fun j hj => by injection hj with hj; omega)⟩
end Go.Proofs.YtddkhkpdbjjboaaGreat

/- The reference's outside, in a text of its own. -/
namespace Go.Proofs.YtddkhkpdbjjboaaGreat
open Go.RowKit
set_option linter.unusedVariables false
set_option linter.unusedSimpArgs false
set_option maxRecDepth 100000

theorem out_yes (n lo hi : Int) (h : n < lo ∨ hi < n) (w : World) : Calls Tryz.prog 29 #[.int .i64 n, .int .i64 lo, .int .i64 hi] w fun e w' => e = .returned (.bool true) ∧ w' = w := by
  go_enter Tryz.func29, Tryz.ntmps29
  go_wp2
  all_goals (go_ret; exact ⟨ret_bool (by simp <;> omega), rfl⟩)
theorem out_no (n lo hi : Int) (h : lo ≤ n ∧ n ≤ hi) (w : World) : Calls Tryz.prog 29 #[.int .i64 n, .int .i64 lo, .int .i64 hi] w fun e w' => e = .returned (.bool false) ∧ w' = w := by
  go_enter Tryz.func29, Tryz.ntmps29
  go_wp2
  all_goals (go_ret; exact ⟨ret_bool (by simp <;> omega), rfl⟩)
end Go.Proofs.YtddkhkpdbjjboaaGreat

/- The reference's power, SizeBits and SizeBack: their contracts. -/
namespace Go.Proofs.YtddkhkpdbjjboaaGreat
open Go.RowKit
set_option linter.unusedVariables false
set_option linter.unusedSimpArgs false
set_option maxRecDepth 100000

theorem powr_any (k : Nat) (w : World) (h : k ≤ 24) : Calls Tryz.prog 78 #[.int .i64 k] w fun e w' => e = .returned (.int .i64 (pw k)) ∧ w' = w := by
  go_enter Tryz.func78, Tryz.ntmps78
  go_wp2
  go_ret
  refine ⟨?_, rfl⟩
  have h1 : 2 ^ k ≤ 2 ^ 24 := two_pow_lt _ _ h
  have e : wrap64 ((2 : Int) ^ k) = ((2 ^ k : Nat) : Int) := by rw [show ((2 : Int) ^ k) = ((2 ^ k : Nat) : Int) by simp]; exact wrap64_nat _ (by omega)
  exact congrArg (fun x => Ending.returned (.int .i64 x)) e
theorem pw_le_of {n : Int} {k : Nat} (h : k < szZ n) : pw k ≤ max n (-n) := by
  have h0 : n ≠ 0 := by intro e; subst e; rw [szZ_zero] at h; omega
  have h1 := szZ_ge h0
  have h2 := pw_mono (a := k + 1) (b := szZ n) (by omega)
  rw [pw_succ] at h2
  omega
theorem vb_ref (n : Int) : vbZ n = if n < 0 then n + pw (szZ n) - 1 else n := by
  unfold vbZ
  rcases Int.lt_trichotomy n 0 with h | h | h
  · rw [if_neg (by omega), if_pos h]
  · subst h; rfl
  · rw [if_pos h, if_neg (by omega)]
set_option maxHeartbeats 1000000 in
theorem refBits_ok (n : Int) (w : World) (h1 : -4095 ≤ n) (h2 : n ≤ 4095) :
    Calls Tryz.prog 79 #[.int .i64 n] w fun e w' => e = .returned (.tuple #[.int .i64 (szZ n : Nat), .int .i64 (vbZ n), .int .i64 0]) ∧ w' = w := by
  have HO := veil (out_no n (-4095) 4095 ⟨h1, h2⟩ w)
  have HV := veil (vb_ref n)
  have hs := sz_12 h1 h2
  have HL : Hid (∀ k, k < szZ n → pw k ≤ max n (-n)) := fun k h => pw_le_of h
  have HG : Hid (max n (-n) < pw (szZ n)) := by show _ < _; have := szZ_lt n; omega
  have HP : Hid (∀ k W, k ≤ 12 → _) := fun k W (h : k ≤ 12) => powr_any k W (by omega)
  have HB := veil (pow_pw (szZ n) hs).2
  generalize vbZ n = V at *
  generalize szZ n = s at *
  go_enter Tryz.func79, Tryz.ntmps79
  go_wp2_with fail
  refine HO.out.mono ?_
  rintro e w' ⟨rfl, rfl⟩
  go_wp2_with fail
  go_loopg [5] s (fun gk i wr => ∃ k : Nat, gk = s - k ∧ k ≤ s ∧ i = .int .i64 (k : Int) ∧ wr = w')
  case atStart => exact ⟨0, rfl, by omega, rfl, rfl⟩
  case round =>
    obtain ⟨k, rfl, hk, rfl, rfl⟩ := hrel
    have HQ := veil (HP.out k wr (by omega))
    by_cases hlt : k < s
    · have h3 := HL.out k hlt
      go_wp2_with fail
      refine HQ.out.mono ?_
      rintro e w1 ⟨rfl, rfl⟩
      go_wp2
      go_roundg (s - (k + 1))
      case rel => exact ⟨k + 1, rfl, by omega, by go_num, rfl⟩
      case measure => omega
    · obtain rfl : k = s := by omega
      have h3 := HG.out
      go_wp2_with fail
      refine HQ.out.mono ?_
      rintro e w1 ⟨rfl, rfl⟩
      by_cases hn : n < 0
      · go_wp2_with fail
        refine HQ.out.mono ?_
        rintro e w2 ⟨rfl, rfl⟩
        go_wp2
        go_ret3
        refine ⟨ret_three rfl (congrArg (Value.int .i64) ?_) rfl, rfl⟩
        rw [HV.out, if_pos hn]
        have := HB.out
        unfold wrap64
        omega
      · go_wp2
        go_ret3
        refine ⟨ret_three rfl (congrArg (Value.int .i64) ?_) rfl, rfl⟩
        rw [HV.out, if_neg (by omega)]
/-- Which of the two numbers is told. -/
theorem two_first {k : Nat} {v : Int} (h0 : 0 ≤ v) (h1 : v < pw k) (h : szZ v = k) : bkZ k v = v := by
  have e : vbZ v = v := by rw [vb_ref, if_neg (by omega)]
  have := bk_vb v
  rw [e, h] at this
  exact this
theorem two_second {k : Nat} {v : Int} (h0 : 0 ≤ v) (h1 : v < pw k) (h : szZ v ≠ k) : bkZ k v = v - pw k + 1 := by
  unfold bkZ
  rw [if_neg]
  intro h2
  have e := sz_bk h0 h1
  unfold bkZ at e
  rw [if_pos h2] at e
  exact h e
theorem two_cells (w : World) (a b : Value) (t : TypeId) : (w.alloc (.cells #[a, b] t)).cell? ⟨w.heap.size, 0, none⟩ = some a ∧ (w.alloc (.cells #[a, b] t)).cell? ⟨w.heap.size, 1, none⟩ = some b := by
  rcases Seen.new w [a, b] t (w.heap.size + 1) (by omega) with h | ⟨g, o, e, _, h⟩
  · cases h
  · obtain ⟨rfl, rfl⟩ : w.heap.size = g ∧ 0 = o := by simpa using e
    exact ⟨h 0 a rfl, h 1 b rfl⟩
set_option maxHeartbeats 2000000 in
set_option maxRecDepth 100000 in
theorem refBack_in (k : Nat) (v : Int) (w : World) (hk : k ≤ 12) (h1 : 0 ≤ v) (h2 : v < pw k) :
    Calls Tryz.prog 57 #[.int .i64 (k : Int), .int .i64 v] w fun e w' => e = .returned (.tuple #[.int .i64 (bkZ k v), .int .i64 0]) ∧ Below w.heap.size w w' := by
  have hp := (pow_pw k hk).2
  have HO1 := veil (out_no (k : Int) 0 12 ⟨by omega, by omega⟩ w)
  have HP := veil (fun W => powr_any k W (by omega))
  have HO2 := veil (out_no v 0 (pw k - 1) ⟨h1, by omega⟩ w)
  have H1 := veil (fun W => refBits_ok v W (by omega) (by omega))
  have H2 := veil (fun W => refBits_ok (v - pw k + 1) W (by omega) (by omega))
  have HE1 : Hid (szZ v = k → v = bkZ k v) := fun h => (two_first h1 h2 h).symm
  have HE2 : Hid (szZ v ≠ k → v - pw k + 1 = bkZ k v) := fun h => (two_second h1 h2 h).symm
  have HE3 : Hid (szZ (bkZ k v) = k ∧ vbZ (bkZ k v) = v) := ⟨sz_bk h1 h2, vb_bk h1 h2⟩
  have HV1 : Hid (vbZ v = v) := by show _ = _; rw [vb_ref, if_neg (by omega)]
  have hb := below1 w (.cells (ints .i64 [v, v - pw k + 1]).toArray 3)
  have hc : (w.alloc (.cells (ints .i64 [v, v - pw k + 1]).toArray 3)).cell? ⟨w.heap.size, 0, none⟩ = some (.int .i64 v) ∧ (w.alloc (.cells (ints .i64 [v, v - pw k + 1]).toArray 3)).cell? ⟨w.heap.size, 1, none⟩ = some (.int .i64 (v - pw k + 1)) := two_cells w _ _ _
  generalize bkZ k v = R at *
  go_enter Tryz.func57, Tryz.ntmps57
  go_wp2_with fail
  refine HO1.out.mono ?_
  rintro e w' ⟨rfl, rfl⟩
  go_wp2_with fail
  refine (HP.out _).mono ?_
  rintro e w1 ⟨rfl, rfl⟩
  go_wp2_with fail
  refine HO2.out.mono ?_
  rintro e w2 ⟨rfl, rfl⟩
  go_wp2_with fail
  refine (HP.out _).mono ?_
  rintro e w3 ⟨rfl, rfl⟩
  clear HO1 HO2 HP
  go_wp2_with fail
  go_loopg [28] 2 (fun gk i wr => ((gk = 2 ∧ i = .int .i64 0) ∨ (gk = 1 ∧ i = .int .i64 1 ∧ Hid (szZ v ≠ k))) ∧ wr.cell? ⟨w3.heap.size, 0, none⟩ = some (.int .i64 v) ∧ wr.cell? ⟨w3.heap.size, 1, none⟩ = some (.int .i64 (v - pw k + 1)) ∧ Below w3.heap.size w3 wr)
  case atStart => exact ⟨.inl ⟨rfl, rfl⟩, hc.1, hc.2, hb⟩
  case round =>
    obtain ⟨hi, hc0, hc1, hbw⟩ := hrel
    clear hb hc
    rcases hi with ⟨rfl, rfl⟩ | ⟨rfl, rfl, Hne⟩
    · go_wp2_with fail
      refine (H1.out _).mono ?_
      rintro e w4 ⟨rfl, rfl⟩
      by_cases hz : szZ v = k
      · have hR := HE1.out hz
        have hv := HV1.out
        rw [hv, hz]
        clear hz hv HE2 HE3 HV1 H1 H2
        subst hR
        go_wp2
        go_ret2
        exact ⟨rfl, hbw⟩
      · have hzz : ¬ ((szZ v : Nat) : Int) = (k : Int) := by omega
        have HZ := veil hz
        clear hz
        go_wp2
        go_roundg 1
        case rel => exact ⟨.inr ⟨rfl, rfl, HZ⟩, hc0, hc1, hbw⟩
        case measure => omega
    · have hR := HE2.out Hne.out
      obtain ⟨h3, h4⟩ := HE3.out
      rw [hR] at hc1 H2
      rw [h3, h4] at H2
      clear hc0 HE2 hR
      go_wp2_with fail
      refine (H2.out _).mono ?_
      rintro e w4 ⟨rfl, rfl⟩
      go_wp2
      go_ret2
      exact ⟨rfl, hbw⟩
theorem refBack_bad1 (n v : Int) (w : World) (h : n < 0 ∨ 12 < n) :
    Calls Tryz.prog 57 #[.int .i64 n, .int .i64 v] w fun e w' => e = .returned (.tuple #[.int .i64 0, .int .i64 1]) ∧ Below w.heap.size w w' := by
  have HO1 := veil (out_yes n 0 12 h w)
  clear h
  go_enter Tryz.func57, Tryz.ntmps57
  go_wp2_with fail
  refine HO1.out.mono ?_
  rintro e w' ⟨rfl, rfl⟩
  go_wp2
  go_ret2
  exact ⟨rfl, Below.refl _ _⟩
theorem refBack_bad2 (k : Nat) (v : Int) (w : World) (hk : k ≤ 12) (h : v < 0 ∨ pw k ≤ v) :
    Calls Tryz.prog 57 #[.int .i64 (k : Int), .int .i64 v] w fun e w' => e = .returned (.tuple #[.int .i64 0, .int .i64 1]) ∧ Below w.heap.size w w' := by
  have hp := (pow_pw k hk).2
  have HO1 := veil (out_no (k : Int) 0 12 ⟨by omega, by omega⟩ w)
  have HP := veil (fun W => powr_any k W (by omega))
  have HO2 := veil (out_yes v 0 (pw k - 1) (by omega) w)
  clear h
  go_enter Tryz.func57, Tryz.ntmps57
  go_wp2_with fail
  refine HO1.out.mono ?_
  rintro e w' ⟨rfl, rfl⟩
  go_wp2_with fail
  refine (HP.out _).mono ?_
  rintro e w1 ⟨rfl, rfl⟩
  go_wp2_with fail
  refine HO2.out.mono ?_
  rintro e w2 ⟨rfl, rfl⟩
  go_wp2
  go_ret2
  exact ⟨rfl, Below.refl _ _⟩
theorem refBack_any (n v : Int) (w : World) :
    Calls Tryz.prog 57 #[.int .i64 n, .int .i64 v] w fun e w' => e = .returned (.tuple #[.int .i64 (oB n v), .int .i64 (eB n v)]) ∧ Below w.heap.size w w' := by
  by_cases h0 : n < 0 ∨ 12 < n
  · rw [oB_bad (by omega), eB_bad (by omega)]; exact refBack_bad1 n v w h0
  · obtain ⟨k, rfl⟩ : ∃ k : Nat, n = k := ⟨n.toNat, by omega⟩
    by_cases h3 : 0 ≤ v ∧ v < pw k
    · rw [oB_ok (by omega) h3.1 h3.2, eB_ok (by omega) h3.1 h3.2]; exact refBack_in k v w (by omega) h3.1 h3.2
    · rw [oB_bad (by rw [Int.toNat_natCast]; omega), eB_bad (by rw [Int.toNat_natCast]; omega)]; exact refBack_bad2 k v w (by omega) (by omega)
end Go.Proofs.YtddkhkpdbjjboaaGreat

/- quant.Round, clamp, within, Check, checkBoth: their contracts. -/
namespace Go.Proofs.YtddkhkpdbjjboaaGreat
open Go.RowKit
set_option linter.unusedVariables false
set_option linter.unusedSimpArgs false
set_option maxRecDepth 100000

/-- A long load, also behind a guard that lets it run. -/
theorem wpList_load_long {P : Program} {ops : Array Oper} {rest : List Oper} {op : Oper} {a : Act} {w : World} {Q : Exit → Act → World → Prop} (hgd : Region.wanted op (yielded ops a.tmps) = true) (ty : TypeId) (x : Operand) (ho : op.op = .load ty x)
    (b o : Nat) (hx : a.eval x = .pointer (some ⟨b, o, none⟩)) (cs : List Value) (d : TypeDesc) (hc : w.rangeAt b o cs)
    (hu : P.underlying ty = some d) (hd : d.isRow = true) (hi : (P.info? ty).map (·.size) = some cs.length)
    (h : wpList P ops Q rest (a.put op.dst (.agg cs.toArray)) w) : wpList P ops Q (op :: rest) a w :=
  wpList_step fun K hK => by
    rw [if_pos hgd]
    exact wp_load_mid ty x ho b o hx cs d hc hu hd hi (hK _ _ h)
theorem inB_take {lo hi : Int} {cs : List Int} {k : Nat} {x : Int} (hx : cs[k]? = some x) (h : inB lo hi (cs.take k) = true) (h1 : lo ≤ x) (h2 : x ≤ hi) : inB lo hi (cs.take (k + 1)) = true := by
  rw [take_snoc hx]; unfold inB at *; rw [List.all_append, h]; simp [h1, h2]
end Go.Proofs.YtddkhkpdbjjboaaGreat

/- The reference's clamp, Round and BlockWithin: their contracts. -/
namespace Go.Proofs.YtddkhkpdbjjboaaGreat
open Go.RowKit
set_option linter.unusedVariables false
set_option linter.unusedSimpArgs false
set_option maxRecDepth 100000

theorem inB_bad {lo hi : Int} {cs : List Int} {k : Nat} {x : Int} (hx : cs[k]? = some x) (h : ¬ (lo ≤ x ∧ x ≤ hi)) : inB lo hi cs = false := by
  cases e : inB lo hi cs with
  | false => rfl
  | true => exact absurd (inB_at e hx) h
set_option maxHeartbeats 1000000 in
set_option maxRecDepth 100000 in
theorem bwithin_any (cs : List Int) (lo hi : Int) (w : World) (hc : cs.length = 64) :
    Calls Tryz.prog 81 #[blkV cs, .int .i64 lo, .int .i64 hi] w fun e w' => e = .returned (.bool (inB lo hi cs)) ∧ Below w.heap.size w w' := by
  have hb0 := below1 w (.cells (ints .i64 cs).toArray 37)
  have hr := range_new w (ints .i64 cs) 37
  have Hl : Hid ((ints .i64 cs).length = 64) := by show _ = _; rw [ints_length, hc]
  have Hat : Hid (∀ (k : Nat) (x : Int), cs[k]? = some x → (ints .i64 cs)[k]? = some (.int .i64 x)) := fun _ _ h => ints_at h
  obtain ⟨E, hE⟩ : ∃ E, E = inB lo hi cs := ⟨_, rfl⟩
  rw [← hE]
  have HE := veil hE; clear hE
  unfold blkV
  generalize ints .i64 cs = xs at *
  go_enter Tryz.func81, Tryz.ntmps81
  go_wp2_with (first
    | (refine wpList_load_mid rfl 37 (.tmp 3) rfl w.heap.size 0 rfl xs _ hr Tryz.underlying37 rfl (info_blkn Hl.out) ?_)
    | fail)
  go_loopg [10] 64 (fun gk i wr => ∃ k : Nat, gk = 64 - k ∧ k ≤ 64 ∧ i = .int .i64 (k : Int) ∧ Hid (inB lo hi (cs.take k) = true) ∧ Below w.heap.size w wr)
  case atStart => exact ⟨0, rfl, by omega, rfl, by simp [inB, Hid], hb0⟩
  case round =>
    clear hr hb0
    obtain ⟨k, rfl, hk, rfl, HI, hb⟩ := hrel
    by_cases hlt : k < 64
    · have hltz : (k : Int) < 64 := by omega
      obtain ⟨x, hx⟩ := some_at (xs := cs) (j := k) (by omega)
      have hxs := Hat.out _ _ hx
      by_cases h1 : lo ≤ x ∧ x ≤ hi
      · have HI2 := veil (inB_take hx HI.out h1.1 h1.2)
        have HO := veil (out_no x lo hi h1 wr)
        clear HI hx
        go_wp2_with (first
          | (refine wpList_index_arr rfl 37 (.tmp 9) (.tmp 10) rfl 64 3 .i64 Tryz.underlying37 Tryz.underlying3 (by kernel_rfl) xs rfl .i64 k rfl (.int .i64 x) hlt hxs ?_)
          | fail)
        refine HO.out.mono ?_
        rintro e w1 ⟨rfl, rfl⟩
        go_wp2_with fail
        go_roundg (64 - (k + 1))
        case rel => exact ⟨k + 1, rfl, by omega, by go_num, HI2, hb⟩
        case measure => omega
      · have h2 := inB_bad hx h1
        have HO := veil (out_yes x lo hi (by omega) wr)
        rw [← HE.out] at h2
        subst h2
        clear HI hx
        go_wp2_with (first
          | (refine wpList_index_arr rfl 37 (.tmp 9) (.tmp 10) rfl 64 3 .i64 Tryz.underlying37 Tryz.underlying3 (by kernel_rfl) xs rfl .i64 k rfl (.int .i64 x) hlt hxs ?_)
          | fail)
        refine HO.out.mono ?_
        rintro e w1 ⟨rfl, rfl⟩
        go_wp2
        go_ret
        exact ⟨rfl, hb⟩
    · obtain rfl : k = 64 := by omega
      have h2 : inB lo hi cs = true := by have := HI.out; rw [List.take_of_length_le (by omega)] at this; exact this
      rw [← HE.out] at h2
      subst h2
      go_wp2
      go_ret
      exact ⟨rfl, hb⟩
end Go.Proofs.YtddkhkpdbjjboaaGreat
