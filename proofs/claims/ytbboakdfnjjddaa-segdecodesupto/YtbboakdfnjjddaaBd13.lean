/- Texts shared by the claims of this seat, in one. -/
import Derived.Test.YtbboakdfnjjddaaBd12
import Derived.Test.YtbboakdfnjjddaaBd5
import Derived.Test.YtbboakdfnjjddaaBd10
import Derived.Test.YtbboakdfnjjddaaBd11
import Derived.Test.YtbboakdfnjjddaaBd3
/- seg's writer: add, whatever is pending; bytes; their contracts. -/
namespace Go.Proofs.Ytbboakdfnjjddaa
open Go.RowKit
set_option linter.unusedVariables false
set_option linter.unusedSimpArgs false
set_option maxRecDepth 100000

set_option maxRecDepth 100000 in
set_option maxHeartbeats 4000000 in
theorem add_big (B g : Nat) (D0 : List Int) (P0 : List (Int × Int)) (vd0 vp0 : Value) (f1 f2 : Int) (w0 : World) (h0 : Wr B g D0 P0 vd0 vp0 w0) (hf : okF (f1, f2)) (hP0 : P0.length = 20000) (hD0 : D0.length ≤ 1000000) :
    Calls Try.prog 30 #[.pointer (some ⟨g, 0, none⟩), .agg #[.int .i64 f1, .int .i64 f2]] w0 fun e w' => e = .returned (.tuple #[]) ∧ ∃ D' P' vd' vp', Wr B g D' P' vd' vp' w' ∧ unpack D' ++ fieldBits P' = unpack D0 ++ fieldBits P0 ++ bitsN f1.toNat f2.toNat ∧ Only (wrF g vd0 vp0) w0 w' ∧ ∀ q, wrF g vd' vp' q → wrF g vd0 vp0 q ∨ w0.heap.size ≤ q := by
  have hgl := h0.blk.lt
  have hlow := h0.low
  have hb0 := below1 w0 (.cells #[.int .i64 f1, .int .i64 f2] 69)
  have hW := h0.below hb0
  have HB : Blk (w0.alloc (.cells #[.int .i64 f1, .int .i64 f2] 69)) w0.heap.size [.int .i64 f1, .int .i64 f2] 69 := Blk.new w0 [.int .i64 f1, .int .i64 f2] 69
  obtain ⟨Av0, cv0, hv0, _, _, _⟩ := h0.own.seen (List.mem_cons_of_mem _ (List.mem_cons_self ..))
  simp only [fieldRow] at hv0
  have hfoot := fun q hq => (h0.foot (q := q) hq).1
  subst hv0
  rw [hP0] at *
  have k1 := hW.blk.cell (i := 1) (v := .slice Av0 20000 cv0) rfl
  have HFl := veil (flush_any B g D0 P0 _ _ _ hW hD0)
  have hz1 : (w0.alloc (.cells #[.int .i64 f1, .int .i64 f2] 69)).heap.size = w0.heap.size + 1 := by simp
  have Hf := veil hf
  have HBv := veil HB
  have Hfoot := veil hfoot
  have Hb0 := veil hb0
  clear h0 hf hW HB hfoot hb0
  go_enter Try.func30, Try.ntmps30
  go_wp2_with fail
  refine HFl.out.mono ?_
  rintro e W0 ⟨rfl, D, P, vd, vp, hWr, hbits, hPl, honF, hsubF⟩
  obtain ⟨Av, cv, hv, _, _, _⟩ := hWr.own.seen (List.mem_cons_of_mem _ (List.mem_cons_self ..))
  simp only [fieldRow] at hv
  subst hv
  obtain ⟨fb, hfb⟩ : ∃ fb, fb = w0.heap.size := ⟨_, rfl⟩
  have hnF : ¬ wrF g vd0 (.slice Av0 20000 cv0) w0.heap.size := fun h => by have := Hfoot.out _ h; omega
  have HBf := honF.blk HBv.out hnF
  have hvn : ∀ q, (Value.slice Av P.length cv).ownBlock = some q → q ≠ fb := fun q hq e => by
    rcases hsubF q (.inr (.inr hq)) with h | h
    · rw [e, hfb] at h; exact hnF h
    · omega
  have honA : Only (wrF g vd0 (.slice Av0 20000 cv0)) w0 W0 := ((Only.of_below Hb0.out (Nat.le_refl _) : Only (wrF g vd0 (.slice Av0 20000 cv0)) _ _)).trans honF (fun q h => .inl h)
  have hsubA : ∀ q, wrF g vd (.slice Av P.length cv) q → wrF g vd0 (.slice Av0 20000 cv0) q ∨ w0.heap.size ≤ q := fun q hq => by
    rcases hsubF q hq with h | h
    · exact .inl h
    · right; omega
  have hfin : unpack D ++ fieldBits (P ++ [(f1, f2)]) = unpack D0 ++ fieldBits P0 ++ bitsN f1.toNat f2.toNat := by rw [fieldBits_snoc, ← List.append_assoc, hbits]
  rw [← hfb] at HBf
  have hfg : fb ≠ g := by omega
  have hfz : fb < W0.heap.size := by have := honF.size; omega
  have hgl0 : g < W0.heap.size := hWr.blk.lt
  have Hh := veil hWr; have HW := veil hWr; have HBv := veil HBf; have Hvn := veil hvn; have HonA := veil honA; have HsubA := veil hsubA; have Hfin := veil hfin
  have hP : P.length < 20000 := by omega
  clear hWr hbits honF hsubF hnF HBf hvn honA hsubA hfin HFl k1
  go_upto_region 3 with fail
  rw [← hfb]
  have Hfb := veil hfb
  have Hz0 : Hid (w0.heap.size ≤ W0.heap.size) := by show _ ≤ _; omega
  clear hfb
  have hnf : some fb ≠ (Value.slice Av P.length cv).ownBlock := fun e => Hvn.out _ e.symm rfl
  have Hnf := veil hnf
  have hP1 : P.length + 1 ≤ 1000000 := by omega
  clear hnf
  refine wp_region_held_drew (S := fun w' => Blk w' fb [.int .i64 f1, .int .i64 f2] 69) (by kernel_rfl) (show Blk W0.drew fb _ _ from HBv.out) (fun hHeld0 => ?_)
  refine take_pure 0 12 (Value.pointer (some ⟨g, 0, none⟩)) _ rfl rfl (by kernel_rfl) (by kernel_rfl) (by kernel_rfl) (fun _ _ _ h => h) rfl (fun w' hS => by go_simp) hHeld0 rfl ?_
  refine take_pure 1 13 (Value.pointer (some ⟨g, 0, none⟩)) _ rfl rfl (by kernel_rfl) (by kernel_rfl) (by kernel_rfl) (fun _ _ _ h => h) rfl (fun w' hS => by go_simp) hHeld0 rfl ?_
  refine take_pure 2 14 (Value.pointer (some ⟨g, 0, none⟩)) _ rfl rfl (by kernel_rfl) (by kernel_rfl) (by kernel_rfl) (fun _ _ _ h => h) rfl (fun w' hS => by go_simp) hHeld0 rfl ?_
  refine take_pure 3 15 (Value.pointer (some ⟨g, 1, none⟩)) _ rfl rfl (by kernel_rfl) (by kernel_rfl) (by kernel_rfl) (fun _ _ _ h => h) rfl (fun w' hS => by go_simp) hHeld0 rfl ?_
  refine take_pure 5 17 (Value.agg #[.int .i64 f1, .int .i64 f2]) _ rfl rfl (by kernel_rfl) (by kernel_rfl) (by kernel_rfl) (fun _ _ _ h => h) rfl (fun w' hS => by have q0 := hS.cell (i := 0) rfl; have q1 := hS.cell (i := 1) rfl; go_simp) hHeld0 rfl ?_
  refine wpAnyH_ready (rs := [4, 6]) (by kernel_rfl) (by simp) ?_
  have kA : W0.drew.cell? ⟨g, 1, none⟩ = some (.slice Av P.length cv) := HW.out.blk.cell (i := 1) rfl
  have hb1 := below1 W0 (.cells #[.int .i64 f1, .int .i64 f2] 69)
  have hB1 : Blk (W0.alloc (.cells #[.int .i64 f1, .int .i64 f2] 69)).drew g [vd, .slice Av P.length cv, .int .i64 ((fieldBits P).length : Int)] 67 := HW.out.blk.below hb1.drew (by omega)
  have hF1 : Blk (W0.alloc (.cells #[.int .i64 f1, .int .i64 f2] 69)).drew fb [.int .i64 f1, .int .i64 f2] 69 := HBv.out.below hb1.drew (by omega)
  have hO1 : Owns B [fieldRow (.slice Av P.length cv) P, byteRow vd D] (W0.alloc (.cells #[.int .i64 f1, .int .i64 f2] 69)).drew := (HW.out.own.swap.below hb1).drew
  have hsn : Seen (W0.alloc (.cells #[.int .i64 f1, .int .i64 f2] 69)).drew (W0.heap.size + 1) (some ⟨W0.heap.size, 0, none⟩) (pairCells [(f1, f2)]) := Seen.new W0 (pairCells [(f1, f2)]) _ _ (Nat.lt_succ_self _)
  have hzW : (W0.alloc (.cells #[.int .i64 f1, .int .i64 f2] 69)).drew.heap.size = W0.heap.size + 1 := by show (W0.alloc _).heap.size = _; simp
  have kB := hB1.cell (i := 1) (v := .slice Av P.length cv) rfl
  have hoW : Only (fun _ => False) W0 (W0.alloc (.cells #[.int .i64 f1, .int .i64 f2] 69)).drew := Only.of_below hb1.drew (Nat.le_refl _)
  refine AllReadyH.cons rfl (fun K hK => ?_) (AllReadyH.cons rfl (fun K hK => ?_) AllReadyH.nil)
  · go_simp
    refine hK.out _ _ hHeld0 (fun hHeld1 => ?_)
    clear hK K
    refine wpAnyH_ready (rs := [6]) (by kernel_rfl) (by simp) ?_
    refine AllReadyH.cons rfl (fun K hK => ?_) AllReadyH.nil
    go_simp
    refine hK.out _ _ hF1 (fun hHeld2 => ?_)
    clear hK K
    refine wpAnyH_ready (rs := [7]) (by kernel_rfl) (by simp) ?_
    refine AllReadyH.cons rfl (fun K hK => ?_) AllReadyH.nil
    refine step_ownV2 _ rfl (.tmp 16) (.tmp 18) 65 rfl B 69 2 16 elem_field (.slice Av P.length cv) P.length (pairCells P) [byteRow vd D] rfl hO1 (W0.heap.size + 1) (some ⟨W0.heap.size, 0, none⟩) 1 1 (pairCells [(f1, f2)]) rfl hsn (by simp [pairCells]) (by intro u hu; simp [pairCells] at hu; rcases hu with rfl | rfl <;> rfl) (by unfold maxLen; omega) (by omega) ?_
    intro vp' w3 hO3 hg3 hb3 hw3
    obtain ⟨A', c', hv', _, _, _⟩ := hO3.seen (List.mem_cons_self ..)
    simp only at hv'
    subst hv'
    rw [hzW] at hw3
    have hB3 := hB1.below hb3 hlow
    have hF3 := hF1.kept hg3 Hnf.out
    refine hK.out _ _ hF3 (fun hHeld3 => ?_)
    clear hK K hHeld2 hHeld1
    refine take_pure 8 20 (Value.pointer (some ⟨g, 0, none⟩)) _ rfl rfl (by kernel_rfl) (by kernel_rfl) (by kernel_rfl) (fun _ _ _ h => h) rfl (fun w' hS => by go_simp) hHeld3 rfl ?_
    refine take_pure 9 21 (Value.pointer (some ⟨g, 1, none⟩)) _ rfl rfl (by kernel_rfl) (by kernel_rfl) (by kernel_rfl) (fun _ _ _ h => h) rfl (fun w' hS => by go_simp) hHeld3 rfl ?_
    refine wpAnyH_ready (rs := [10]) (by kernel_rfl) (by simp) ?_
    refine AllReadyH.cons rfl (fun K hK => ?_) AllReadyH.nil
    have k3 := hB3.cell (i := 1) (v := .slice Av P.length cv) rfl
    have z3 := hB3.frozen 1
    have hg4 := grown_setCell w3 g 1 (.slice A' (P.length + 1) c')
    have hB4 : Blk (w3.setCell ⟨g, 1, none⟩ (.slice A' (P.length + 1) c')) g [vd, .slice A' (P.length + 1) c', .int .i64 ((fieldBits P).length : Int)] 67 := hB3.set 1 (.slice A' (P.length + 1) c')
    have hF4 := hF3.kept hg4 (by simp; omega)
    have hO4 : Owns B [fieldRow (.slice A' (P.length + 1) c') (P ++ [(f1, f2)]), byteRow vd D] (w3.setCell ⟨g, 1, none⟩ (.slice A' (P.length + 1) c')) := by rw [← fieldRow_append]; exact hO3.setCell (a := ⟨g, 1, none⟩) hlow _
    have hon1 : Only (wrF g vd (.slice Av P.length cv)) W0 (w3.setCell ⟨g, 1, none⟩ (.slice A' (P.length + 1) c')) := (((hoW.mono (fun q h => h.elim) : Only (wrF g vd (.slice Av P.length cv)) W0 _).trans (Only.of_grown hg3 (F := wrF g vd (.slice Av P.length cv)) (fun q e => .inl (.inr (.inr e)))) (fun q h => .inl h) : Only (wrF g vd (.slice Av P.length cv)) W0 w3)).trans (Only.of_grown hg4 (F := wrF g vd (.slice Av P.length cv)) (fun q e => by injection e with e; exact .inl (.inl e.symm))) (fun q h => .inl h)
    go_simp
    refine hK.out _ _ hF4 (fun hHeld4 => ?_)
    clear hK K hHeld3
    refine wpAnyH_done (by kernel_rfl) ?_ _
    clear hHeld4 hHeld0 kA kB hb1 hB1 hF1 hO1 hsn hzW hoW hB3 hF3 k3 z3 hg4 hO3 hg3 hb3
    have hzz := hon1.size
    obtain ⟨W4, hW4⟩ : ∃ W4, W4 = w3.setCell ⟨g, 1, none⟩ (.slice A' (P.length + 1) c') := ⟨_, rfl⟩
    rw [← hW4] at hB4 hF4 hO4 hon1 hzz ⊢
    have hB4' := hB4
    clear hB4 hW4
    have hlen : (fieldBits (P ++ [(f1, f2)])).length = (fieldBits P).length + f1.toNat := by rw [fieldBits_snoc, List.length_append, bitsN_length]
    have hf0 := Hf.out.1
    simp only at hf0
    have hfb := fieldBits_len_le P Hh.out.ok
    have hsum : IntKind.i64.wrap (((fieldBits P).length : Int) + f1) = ((fieldBits (P ++ [(f1, f2)])).length : Int) := by rw [IntKind.wrap_i64, hlen]; omega
    have c2 := hB4'.cell (i := 2) (v := .int .i64 ((fieldBits P).length : Int)) rfl
    have z2 := hB4'.frozen 2
    have d0 := hF4.cell (i := 0) (v := .int .i64 f1) rfl
    obtain ⟨N2, hN2⟩ : ∃ N2 : Int, N2 = ((fieldBits (P ++ [(f1, f2)])).length : Int) := ⟨_, rfl⟩
    have HN2 := veil hN2
    rw [← hN2] at hsum
    have HB4 := veil hB4'
    have HO4 := veil hO4
    have Hon1 := veil hon1
    have hP2 : (P ++ [(f1, f2)]).length ≤ 20000 := by rw [List.length_append]; simp; omega
    clear hlen hN2 hB4' hO4 hon1 hF4
    go_upto_region 4 with fail
    go_still_tail 9, (by kernel_rfl)
    repeat still_step
    try refine wpStill_nil ?_
    change wpList _ _ _ _ _ W4.drew
    go_wp2_with fail
    go_end0
    have hWr9 : Wr B g D (P ++ [(f1, f2)]) vd (.slice A' (P.length + 1) c') (W4.drew.setCell ⟨g, 2, none⟩ (.int .i64 N2)) := ⟨by rw [← HN2.out]; exact HB4.out.set 2 (.int .i64 N2), (HO4.out.setCell (a := ⟨g, 2, none⟩) hlow _).swap.drew, hlow, Hh.out.byt, by
      intro f hf
      rcases List.mem_append.1 hf with hf | hf
      · exact Hh.out.ok f hf
      · rw [List.mem_singleton.1 hf]; exact Hf.out, hP2⟩
    have hon9 : Only (wrF g vd (.slice Av P.length cv)) W0 (W4.drew.setCell ⟨g, 2, none⟩ (.int .i64 N2)) := (Hon1.out.trans (Only.of_grown (grown_setCell W4 g 2 (.int .i64 N2)) (F := wrF g vd (.slice Av P.length cv)) (fun q e => by injection e with e; exact .inl (.inl e.symm))) (fun q h => .inl h)).trans (Only.of_below ((Below.refl _ _).drew) (Nat.le_refl _) : Only (fun _ => False) _ _) (fun q h => h.elim)
    exact ⟨rfl, D, P ++ [(f1, f2)], vd, .slice A' (P.length + 1) c', hWr9, (by rw [Hfin.out, List.append_assoc]), HonA.out.trans hon9 (fun q hq => HsubA.out q hq), fun q hq => by
      rcases hq with h | h | h
      · exact HsubA.out q (.inl h)
      · exact HsubA.out q (.inr (.inl h))
      · rcases hw3 with h2 | h2
        · rw [h2] at h; exact HsubA.out q (.inr (.inr h))
        · rw [h2] at h; injection h with h; right; have := HonA.out.size; omega⟩
  · go_simp
    refine hK.out _ _ hF1 (fun hHeld1 => ?_)
    clear hK K
    refine wpAnyH_ready (rs := [4]) (by kernel_rfl) (by simp) ?_
    refine AllReadyH.cons rfl (fun K hK => ?_) AllReadyH.nil
    go_simp
    refine hK.out _ _ hF1 (fun hHeld2 => ?_)
    clear hK K
    refine wpAnyH_ready (rs := [7]) (by kernel_rfl) (by simp) ?_
    refine AllReadyH.cons rfl (fun K hK => ?_) AllReadyH.nil
    refine step_ownV2 _ rfl (.tmp 16) (.tmp 18) 65 rfl B 69 2 16 elem_field (.slice Av P.length cv) P.length (pairCells P) [byteRow vd D] rfl hO1 (W0.heap.size + 1) (some ⟨W0.heap.size, 0, none⟩) 1 1 (pairCells [(f1, f2)]) rfl hsn (by simp [pairCells]) (by intro u hu; simp [pairCells] at hu; rcases hu with rfl | rfl <;> rfl) (by unfold maxLen; omega) (by omega) ?_
    intro vp' w3 hO3 hg3 hb3 hw3
    obtain ⟨A', c', hv', _, _, _⟩ := hO3.seen (List.mem_cons_self ..)
    simp only at hv'
    subst hv'
    rw [hzW] at hw3
    have hB3 := hB1.below hb3 hlow
    have hF3 := hF1.kept hg3 Hnf.out
    refine hK.out _ _ hF3 (fun hHeld3 => ?_)
    clear hK K hHeld2 hHeld1
    refine take_pure 8 20 (Value.pointer (some ⟨g, 0, none⟩)) _ rfl rfl (by kernel_rfl) (by kernel_rfl) (by kernel_rfl) (fun _ _ _ h => h) rfl (fun w' hS => by go_simp) hHeld3 rfl ?_
    refine take_pure 9 21 (Value.pointer (some ⟨g, 1, none⟩)) _ rfl rfl (by kernel_rfl) (by kernel_rfl) (by kernel_rfl) (fun _ _ _ h => h) rfl (fun w' hS => by go_simp) hHeld3 rfl ?_
    refine wpAnyH_ready (rs := [10]) (by kernel_rfl) (by simp) ?_
    refine AllReadyH.cons rfl (fun K hK => ?_) AllReadyH.nil
    have k3 := hB3.cell (i := 1) (v := .slice Av P.length cv) rfl
    have z3 := hB3.frozen 1
    have hg4 := grown_setCell w3 g 1 (.slice A' (P.length + 1) c')
    have hB4 : Blk (w3.setCell ⟨g, 1, none⟩ (.slice A' (P.length + 1) c')) g [vd, .slice A' (P.length + 1) c', .int .i64 ((fieldBits P).length : Int)] 67 := hB3.set 1 (.slice A' (P.length + 1) c')
    have hF4 := hF3.kept hg4 (by simp; omega)
    have hO4 : Owns B [fieldRow (.slice A' (P.length + 1) c') (P ++ [(f1, f2)]), byteRow vd D] (w3.setCell ⟨g, 1, none⟩ (.slice A' (P.length + 1) c')) := by rw [← fieldRow_append]; exact hO3.setCell (a := ⟨g, 1, none⟩) hlow _
    have hon1 : Only (wrF g vd (.slice Av P.length cv)) W0 (w3.setCell ⟨g, 1, none⟩ (.slice A' (P.length + 1) c')) := (((hoW.mono (fun q h => h.elim) : Only (wrF g vd (.slice Av P.length cv)) W0 _).trans (Only.of_grown hg3 (F := wrF g vd (.slice Av P.length cv)) (fun q e => .inl (.inr (.inr e)))) (fun q h => .inl h) : Only (wrF g vd (.slice Av P.length cv)) W0 w3)).trans (Only.of_grown hg4 (F := wrF g vd (.slice Av P.length cv)) (fun q e => by injection e with e; exact .inl (.inl e.symm))) (fun q h => .inl h)
    go_simp
    refine hK.out _ _ hF4 (fun hHeld4 => ?_)
    clear hK K hHeld3
    refine wpAnyH_done (by kernel_rfl) ?_ _
    clear hHeld4 hHeld0 kA kB hb1 hB1 hF1 hO1 hsn hzW hoW hB3 hF3 k3 z3 hg4 hO3 hg3 hb3
    have hzz := hon1.size
    obtain ⟨W4, hW4⟩ : ∃ W4, W4 = w3.setCell ⟨g, 1, none⟩ (.slice A' (P.length + 1) c') := ⟨_, rfl⟩
    rw [← hW4] at hB4 hF4 hO4 hon1 hzz ⊢
    have hB4' := hB4
    clear hB4 hW4
    have hlen : (fieldBits (P ++ [(f1, f2)])).length = (fieldBits P).length + f1.toNat := by rw [fieldBits_snoc, List.length_append, bitsN_length]
    have hf0 := Hf.out.1
    simp only at hf0
    have hfb := fieldBits_len_le P Hh.out.ok
    have hsum : IntKind.i64.wrap (((fieldBits P).length : Int) + f1) = ((fieldBits (P ++ [(f1, f2)])).length : Int) := by rw [IntKind.wrap_i64, hlen]; omega
    have c2 := hB4'.cell (i := 2) (v := .int .i64 ((fieldBits P).length : Int)) rfl
    have z2 := hB4'.frozen 2
    have d0 := hF4.cell (i := 0) (v := .int .i64 f1) rfl
    obtain ⟨N2, hN2⟩ : ∃ N2 : Int, N2 = ((fieldBits (P ++ [(f1, f2)])).length : Int) := ⟨_, rfl⟩
    have HN2 := veil hN2
    rw [← hN2] at hsum
    have HB4 := veil hB4'
    have HO4 := veil hO4
    have Hon1 := veil hon1
    have hP2 : (P ++ [(f1, f2)]).length ≤ 20000 := by rw [List.length_append]; simp; omega
    clear hlen hN2 hB4' hO4 hon1 hF4
    go_upto_region 4 with fail
    go_still_tail 9, (by kernel_rfl)
    repeat still_step
    try refine wpStill_nil ?_
    change wpList _ _ _ _ _ W4.drew
    go_wp2_with fail
    go_end0
    have hWr9 : Wr B g D (P ++ [(f1, f2)]) vd (.slice A' (P.length + 1) c') (W4.drew.setCell ⟨g, 2, none⟩ (.int .i64 N2)) := ⟨by rw [← HN2.out]; exact HB4.out.set 2 (.int .i64 N2), (HO4.out.setCell (a := ⟨g, 2, none⟩) hlow _).swap.drew, hlow, Hh.out.byt, by
      intro f hf
      rcases List.mem_append.1 hf with hf | hf
      · exact Hh.out.ok f hf
      · rw [List.mem_singleton.1 hf]; exact Hf.out, hP2⟩
    have hon9 : Only (wrF g vd (.slice Av P.length cv)) W0 (W4.drew.setCell ⟨g, 2, none⟩ (.int .i64 N2)) := (Hon1.out.trans (Only.of_grown (grown_setCell W4 g 2 (.int .i64 N2)) (F := wrF g vd (.slice Av P.length cv)) (fun q e => by injection e with e; exact .inl (.inl e.symm))) (fun q h => .inl h)).trans (Only.of_below ((Below.refl _ _).drew) (Nat.le_refl _) : Only (fun _ => False) _ _) (fun q h => h.elim)
    exact ⟨rfl, D, P ++ [(f1, f2)], vd, .slice A' (P.length + 1) c', hWr9, (by rw [Hfin.out, List.append_assoc]), HonA.out.trans hon9 (fun q hq => HsubA.out q hq), fun q hq => by
      rcases hq with h | h | h
      · exact HsubA.out q (.inl h)
      · exact HsubA.out q (.inr (.inl h))
      · rcases hw3 with h2 | h2
        · rw [h2] at h; exact HsubA.out q (.inr (.inr h))
        · rw [h2] at h; injection h with h; right; have := HonA.out.size; omega⟩
end Go.Proofs.Ytbboakdfnjjddaa

/- seg's writer: add, whatever is pending; bytes: their contracts. -/
namespace Go.Proofs.Ytbboakdfnjjddaa
open Go.RowKit
set_option linter.unusedVariables false
set_option linter.unusedSimpArgs false
set_option maxRecDepth 100000

theorem add_any (B g : Nat) (D : List Int) (P : List (Int × Int)) (vd vp : Value) (f1 f2 : Int) (w : World) (h : Wr B g D P vd vp w) (hf : okF (f1, f2)) (hD : D.length ≤ 1000000) :
    Calls Try.prog 30 #[.pointer (some ⟨g, 0, none⟩), .agg #[.int .i64 f1, .int .i64 f2]] w fun e w' => e = .returned (.tuple #[]) ∧ ∃ D' P' vd' vp', Wr B g D' P' vd' vp' w' ∧ unpack D' ++ fieldBits P' = unpack D ++ fieldBits P ++ bitsN f1.toNat f2.toNat ∧ Only (wrF g vd vp) w w' ∧ ∀ q, wrF g vd' vp' q → wrF g vd vp q ∨ w.heap.size ≤ q := by
  by_cases hP : P.length < 20000
  · refine (add_small B g D P vd vp f1 f2 w h hf hP).mono ?_
    rintro e w' ⟨he, vp', h1, h2, h3⟩
    exact ⟨he, D, _, vd, vp', h1, by rw [fieldBits_snoc, List.append_assoc], h2, h3⟩
  · exact add_big B g D P vd vp f1 f2 w h hf (by have := h.few; omega) hD
set_option maxRecDepth 100000 in
set_option maxHeartbeats 4000000 in
theorem bytes_any (B g : Nat) (D : List Int) (P : List (Int × Int)) (vd vp : Value) (w : World) (h : Wr B g D P vd vp w) (hD : D.length ≤ 1000000) :
    Calls Try.prog 32 #[.pointer (some ⟨g, 0, none⟩)] w fun e w' => ∃ v out, e = .returned v ∧ Owns B [byteRow v out] w' ∧ (Bytes out ∧ ∃ p, p < 8 ∧ unpack out = unpack D ++ fieldBits P ++ List.replicate p true) ∧ Below B w w' := by
  have hgl := h.blk.lt
  have hlow := h.low
  have hbase := h.own.base
  obtain ⟨Av, cv, hv, hsv, hcv, hmv⟩ := h.own.seen (List.mem_cons_of_mem _ (List.mem_cons_self ..))
  simp only [fieldRow] at hv hcv hsv
  obtain ⟨Ad, cd, hvd, _, _, _⟩ := h.own.seen (List.mem_cons_self ..)
  simp only [byteRow, intRow] at hvd
  subst hv
  subst hvd
  have hw0 : writeErr P = 0 := by unfold writeErr; rw [if_neg (by have := h.few; omega), if_pos h.ok]
  have HC := veil (write_any Av cv w.heap.size P w hsv (Nat.le_refl _) (by have := h.few; unfold maxLen; omega))
  have k1 := h.blk.cell (i := 1) (v := .slice Av P.length cv) rfl
  have Hh := veil h
  rw [hw0] at HC
  have hfb := fieldBits_len_le P h.ok
  have hfew := h.few
  clear h hsv hcv hmv
  go_enter Try.func32, Try.ntmps32
  go_wp2_with fail
  refine HC.out.mono ?_
  rintro e w2 ⟨v2, out, rfl, hown2, hW2, hb2⟩
  obtain ⟨hby, p, hp, hunp⟩ := hW2.2 hw0
  have hl := congrArg List.length hunp
  rw [unpack_length, List.length_append, List.length_replicate] at hl
  obtain ⟨A2, c2, hv2, hs2, hc2, hm2⟩ := own_form' hown2
  subst hv2
  have hB2 := Hh.out.blk.below hb2 hgl
  have hO2 := Hh.out.own.below hb2
  have k0 := hB2.cell (i := 0) (v := .slice Ad D.length cd) rfl
  have hm3 : D.length + out.length ≤ maxLen := by unfold maxLen; omega
  have hm4 : (D.length + out.length) * 1 ≤ 140737488355328 := by omega
  have hbB : Below B w w2 := hb2.mono hbase
  have Hunp := veil hunp; have Hby := veil hby; have HbB := veil hbB
  clear hunp hby hl hown2 hW2 hb2 hB2 HC hw0 k1 hbB
  go_wp2_with (first
    | (at_builtin; go_loud (refine wpList_ownV w2 rfl (.tmp 16) (.tmp 17) 37 rfl B 5 1 1 elem_byte (.slice Ad D.length cd) D.length (ints .u8 D) [fieldRow (.slice Av P.length cv) P] rfl hO2 w2.heap.size A2 out.length c2 (ints .u8 out) rfl hs2 (by rw [ints_length, Nat.mul_one]) ints_one hm3 hm4 ?_); intro vd' w5 hO5 hb5)
    | fail)
  go_ret
  refine ⟨vd', D ++ out, rfl, ?_, ⟨fun x hx => ?_, p, hp, ?_⟩, HbB.out.trans hb5⟩
  · have e : byteRow vd' (D ++ out) = ⟨5, 1, vd', D.length + out.length, ints .u8 D ++ ints .u8 out⟩ := by
      simp only [byteRow, intRow, ints_append, List.length_append]
    rw [e]
    exact Owns.one hO5.base hO5.head
  · rcases List.mem_append.1 hx with hx | hx
    · exact Hh.out.byt x hx
    · exact Hby.out x hx
  · rw [unpack_append, Hunp.out]; simp
end Go.Proofs.Ytbboakdfnjjddaa

/- What the tokens of blocks are like. No program is named here. -/
namespace Go.Proofs.Ytbboakdfnjjddaa
set_option linter.unusedVariables false
set_option linter.unusedSimpArgs false
set_option maxRecDepth 100000

/-- A token that a block may tell. -/
def goodT (t : Int × Int × Int) : Prop := fitT t = true ∧ 0 ≤ t.1 ∧ t.1 ≤ 255
theorem goodT_fit {t : Int × Int × Int} (h : goodT t) : (0 ≤ t.2.1 ∧ t.2.1 ≤ 12) ∧ 0 ≤ t.2.2 ∧ t.2.2 < pw t.2.1.toNat := by
  have h2 := h.1
  unfold fitT at h2
  have h3 := of_decide_eq_true h2
  exact ⟨⟨h3.1, h3.2.1⟩, h3.2.2.1, h3.2.2.2⟩
theorem rest_good : ∀ (zs : List Int) (r : Nat), (∀ z ∈ zs, -2047 ≤ z ∧ z ≤ 2047) → ∀ t ∈ restT r zs, goodT t
  | [], r, _, t, ht => by
    rw [restT_nil] at ht
    split at ht
    · simp at ht
    · rw [List.mem_singleton.1 ht]; exact ⟨by decide, by decide, by decide⟩
  | z :: zs, r, h, t, ht => by
    have hzs : ∀ z ∈ zs, -2047 ≤ z ∧ z ≤ 2047 := fun x hx => h x (List.mem_cons_of_mem _ hx)
    have hz := h z List.mem_cons_self
    by_cases h0 : z = 0
    · subst h0
      rw [restT_zero] at ht
      exact rest_good zs (r + 1) hzs t ht
    · rw [restT_cons r zs h0] at ht
      rcases List.mem_append.1 ht with ht | ht
      · rw [(List.mem_replicate.1 ht).2]; exact ⟨by decide, by decide, by decide⟩
      · rcases List.mem_cons.1 ht with rfl | ht
        · have := sz_11 hz.1 hz.2
          refine ⟨tkN_fit (by omega) (by omega), ?_, ?_⟩ <;> (unfold tkN; simp only []; omega)
        · exact rest_good zs 0 hzs t ht
theorem toks_good {b : Int} {zs : List Int} (hb : -2047 ≤ b ∧ b ≤ 2047) (h : ∀ z ∈ zs, -2047 ≤ z ∧ z ≤ 2047) : ∀ t ∈ toksZ b zs, goodT t := by
  intro t ht
  match zs, h, ht with
  | z :: zs, h, ht =>
    rw [toksZ] at ht
    have hz := h z List.mem_cons_self
    rcases List.mem_cons.1 ht with rfl | ht
    · have := sz_12 (n := z - b) (by omega) (by omega)
      refine ⟨tkN_fit (by omega) (by omega), ?_, ?_⟩ <;> (unfold tkN; simp only []; omega)
    · exact rest_good zs 0 (fun x hx => h x (List.mem_cons_of_mem _ hx)) t ht
theorem toksB_len : ∀ (L : List (List Int)) (b : Int), (toksB b L).length ≤ 64 * L.length
  | [], b => by simp [toksB]
  | r :: L, b => by
    have h1 := toksB_len L (r.headD 0)
    have h2 := toks_len b (toL_length r)
    simp only [toksB, List.length_append, flagT_length, List.length_cons]
    omega
theorem ahead_in {L : List (List Int)} {k : Nat} (hl : ∀ r ∈ L, r.length = 64) (h : ∀ r ∈ L.take k, inB (-2047) 2047 r = true) (hk : k ≤ L.length) : -2047 ≤ ahead L k ∧ ahead L k ≤ 2047 := by
  unfold ahead
  by_cases h0 : k = 0
  · rw [if_pos h0]; omega
  · rw [if_neg h0]
    obtain ⟨r, hr⟩ := some_at (xs := L) (j := k - 1) (by omega)
    have hm : r ∈ L.take k := by
      refine List.mem_of_getElem? (i := k - 1) ?_
      rw [List.getElem?_take, if_pos (by omega)]; exact hr
    have h2 := inB_mem.1 (h r hm)
    have h3 := hl r (List.mem_of_getElem? hr)
    rw [List.getD_eq_getElem?_getD, hr]
    match r, h3, h2 with
    | z :: r, _, h2 => exact h2 z List.mem_cons_self
end Go.Proofs.Ytbboakdfnjjddaa

/- seg.eachToken: its contract, whatever function it hands the tokens to. -/
namespace Go.Proofs.Ytbboakdfnjjddaa
open Go.RowKit
set_option linter.unusedVariables false
set_option linter.unusedSimpArgs false
set_option maxRecDepth 100000

/-- A function that takes tokens: what it keeps, and which blocks it writes. -/
structure Taker (f : FuncId) (caps : Array Value) (G : Nat) (I : World → (Nat → Prop) → List (Bool × Int × Int × Int) → Prop) : Prop where
  enters : Enters Try.prog f
  foot : ∀ {W F acc}, I W F acc → ∀ q, F q → q < W.heap.size ∧ G ≤ q
  keep : ∀ {W W' F acc}, I W F acc → Below W.heap.size W W' → I W' F acc
  take : ∀ {W F acc} (first : Bool) (t : Int × Int × Int), I W F acc → acc.length < 25600 → goodT t → Calls Try.prog f (#[tokV t, .bool first] ++ caps) W fun e W' => e = .returned (.tuple #[]) ∧ ∃ F', I W' F' (acc ++ [(first, t)]) ∧ Only F W W' ∧ ∀ q, F' q → F q ∨ W.heap.size ≤ q
set_option maxRecDepth 100000 in
set_option maxHeartbeats 8000000 in
theorem eachToken_any (f : FuncId) (caps : Array Value) (G : Nat) (I : World → (Nat → Prop) → List (Bool × Int × Int × Int) → Prop) (hT : Taker f caps G I) (F0 : Nat → Prop) (L : List (List Int)) (A : Option Addr) (c : Nat) (w : World)
    (hl : ∀ r ∈ L, r.length = 64) (hm : L.length ≤ maxLen) (hs0 : L.length ≤ 400 → Seen w G A (rowsC L)) (hG : G ≤ w.heap.size) (hI : I w F0 []) :
    Calls Try.prog 24 #[.slice A L.length c, .func (.func f) #[] caps] w fun e w' => e = .returned (.int .i64 (eL L)) ∧ ∃ F acc, I w' F acc ∧ Only F0 w w' ∧ (∀ q, F q → F0 q ∨ w.heap.size ≤ q) ∧ (eL L = 0 → acc = toksB 0 L) := by
  unfold maxLen at hm
  obtain ⟨E, hE⟩ : ∃ E, E = eL L := ⟨_, rfl⟩
  rw [← hE]
  by_cases hbig : 400 < L.length
  · have hbz : (400 : Int) < (L.length : Int) := by omega
    rw [eL_large hbig] at hE
    subst hE
    clear hs0
    go_enter Try.func24, Try.ntmps24
    go_wp2
    go_ret
    exact ⟨rfl, F0, [], hI, Only.refl _ _, fun q h => .inl h, fun h => by cases h⟩
  · have hbz : ¬ (400 : Int) < (L.length : Int) := by omega
    have hs := hs0 (by omega)
    clear hs0
    have HE := veil hE
    have Hbig := veil hbig
    have HTk := veil hT
    have HI0 := veil hI
    have hF0 := hT.foot hI
    have HF0 := veil hF0
    have HTo := veil (fun b cs W h => tokens_any b cs W h)
    unfold blkV at HTo
    clear hE hbig hI hF0 hT
    go_enter Try.func24, Try.ntmps24
    go_wp2_with fail
    go_loopg [5, 17] L.length (fun gk v5 iv wr => ∃ (k : Nat) (before : Int) (F : Nat → Prop), gk = L.length - k ∧ k ≤ L.length ∧ iv = .int .i64 (k : Int) ∧ v5 = .int .i64 before ∧ Hid (before = ahead L k) ∧ Hid (∀ r ∈ L.take k, inB (-2047) 2047 r = true) ∧ Hid (I wr F (toksB 0 (L.take k))) ∧ Hid (Only F0 w wr) ∧ Hid (∀ q, F q → F0 q ∨ w.heap.size ≤ q))
    case atStart => exact ⟨0, 0, F0, rfl, Nat.zero_le _, rfl, rfl, veil rfl, veil (by simp), HI0, veil (Only.refl _ _), veil (fun q h => .inl h)⟩
    case round =>
      clear HI0
      obtain ⟨k, before, F, rfl, hk, rfl, rfl, HA, HIn, HI, HOn, HFs⟩ := hrel
      obtain ⟨W1, hW1⟩ : ∃ W1, W1 = wr := ⟨_, rfl⟩
      subst hW1
      have hzr := HOn.out.size
      by_cases hlt : k < L.length
      · have hltz : (k : Int) < (L.length : Int) := by omega
        have hbe := HOn.out.below hG (fun q hq => (HF0.out q hq).2)
        obtain ⟨g, o, r, rfl, hg, hr, hrl, hrange⟩ := hs.row hl (by omega) hlt
        have hrg := range_below hrange hbe hg
        have hbin := ahead_in (k := k) hl HIn.out hk
        rw [← HA.out] at hbin
        have Hl : Hid ((ints .i64 r).length = 64) := by show _ = _; rw [ints_length, hrl]
        have hone := ints_one (k := .i64) (l := r)
        have hr2 := range_new W1 (ints .i64 r) 47
        have hB2 := Blk.new W1 (ints .i64 r) 47
        have hb2 := below1 W1 (.cells (ints .i64 r).toArray 47)
        have HT2 := veil (HTo.out before r (W1.alloc (.cells (ints .i64 r).toArray 47)) hrl)
        have hI2 := HTk.out.keep HI.out hb2
        have hOn2 : Only F0 w (W1.alloc (.cells (ints .i64 r).toArray 47)) := HOn.out.trans (Only.of_below hb2 (Nat.le_refl _) : Only (fun _ => False) _ _) (fun q h => h.elim)
        have hz2 : (W1.alloc (.cells (ints .i64 r).toArray 47)).heap.size = W1.heap.size + 1 := by simp
        have hF2 := HTk.out.foot HI.out
        have hhd : (ints .i64 r)[0]? = some (.int .i64 (r.headD 0)) := by
          match r, hrl with
          | z :: r, _ => rfl
        have Hr := veil hr
        have Hbin := veil hbin
        have HI2 := veil hI2
        have HOn2 := veil hOn2
        have HF2 := veil hF2
        have Hrl := veil hrl
        obtain ⟨ys, hys⟩ : ∃ ys, ys = ints .i64 r := ⟨_, rfl⟩
        rw [← hys] at hrg Hl hone hr2 hB2 hb2 HT2 HI2 HOn2 hz2 hhd
        have Hys := veil hys
        have hc0 := hB2.cell hhd
        have Hhd := veil hhd
        clear hrange hr hrl hbin hI2 hOn2 hF2 hys hhd hc0 hb2 HI hbe
        go_wp2_with (first
          | (refine wpList_load_mid rfl 47 (.tmp 19) rfl g (o + k * 64) rfl ys _ hrg Try.underlying47 rfl (info_blkn Hl.out) ?_)
          | (refine wpList_store_new W1 rfl 47 (.tmp 7) (.tmp 20) rfl zeroB.toArray ys rfl rfl (info_blkn Hl.out) (by rw [Hl.out]; rfl) hone ?_)
          | (refine wpList_load_mid rfl 47 (.tmp 7) rfl W1.heap.size 0 rfl ys _ hr2 Try.underlying47 rfl (info_blkn Hl.out) ?_)
          | fail)
        refine HT2.out.mono ?_
        rintro e w3 ⟨v, rfl, HO3, hb3⟩
        have hz3 := hb3.size
        have hI3 := HTk.out.keep HI2.out hb3
        have hOn3 : Only F0 w w3 := HOn2.out.trans (Only.of_below hb3 (Nat.le_refl _) : Only (fun _ => False) _ _) (fun q h => h.elim)
        have hB3 := hB2.below hb3 (by omega)
        rw [hz2] at HO3 hz3
        clear hrg hr2 HT2 hb3 hB2 HI2 HOn2
        by_cases hin : inB (-2047) 2047 r = true
        · have hT0 := eT_ok Hbin.out.1 Hbin.out.2 hin
          rw [oT_ok hT0] at HO3
          rw [hT0]
          obtain ⟨T, hT⟩ : ∃ T, T = toksZ before (toL r) := ⟨_, rfl⟩
          have hgood : ∀ t ∈ T, goodT t := by rw [hT]; exact toks_good Hbin.out (toL_in Hrl.out hin)
          have hTl : T.length ≤ 64 := by rw [hT]; exact toks_len _ (toL_length _)
          have hacc : toksB 0 (L.take (k + 1)) = toksB 0 (L.take k) ++ flagT T := by rw [toksB_next Hr.out, hT, HA.out]
          rw [← hT] at HO3
          have hown : ∀ q, v.ownBlock = some q → W1.heap.size + 1 ≤ q ∧ q < w3.heap.size := fun q hq => (HO3.head).lt q hq
          obtain ⟨A5, c5, hv5, hs5, hc5, hm5⟩ := tok_form HO3
          have Hgood := veil hgood
          have Hacc := veil hacc
          have Hown := veil hown
          have Hin : Hid (∀ x ∈ L.take (k + 1), inB (-2047) 2047 x = true) := by
            intro x hx
            rw [take_snoc Hr.out] at hx
            rcases List.mem_append.1 hx with hx | hx
            · exact HIn.out x hx
            · rw [List.mem_singleton.1 hx]; exact hin
          have HO3 := veil HO3
          have Hv5 := veil hv5
          have hlen0 : (toksB 0 (L.take k)).length ≤ 64 * k := by have := toksB_len (L.take k) 0; rw [List.length_take, Nat.min_eq_left hk] at this; exact this
          have hL400 : L.length ≤ 400 := by have := Hbig.out; omega
          have Hlen0 := veil hlen0
          have HI3 := veil hI3; have HOn3 := veil hOn3; have HB3 := veil hB3
          subst v
          clear hT0 hT hgood hacc hown hin hlen0 hI3 hOn3 hB3 hs5 HIn
          go_wp2_with fail
          go_loopg [32] T.length (fun gk iv wi => ∃ (j : Nat) (F' : Nat → Prop), gk = T.length - j ∧ j ≤ T.length ∧ iv = .int .i64 (j : Int) ∧ Hid (I wi F' (toksB 0 (L.take k) ++ flagT (T.take j))) ∧ Hid (Only F0 w wi) ∧ Hid (∀ q, F' q → F q ∨ w3.heap.size ≤ q) ∧ Hid (Owns (W1.heap.size + 1) [tokRow (.slice A5 T.length c5) T] wi) ∧ Hid (Blk wi W1.heap.size ys 47) ∧ w3.heap.size ≤ wi.heap.size)
          case atStart => exact ⟨0, F, rfl, Nat.zero_le _, rfl, by rw [List.take_zero]; simpa [flagT] using HI3, HOn3, veil (fun q h => .inl h), HO3, HB3, Nat.le_refl _⟩
          case round =>
            clear HI3 HOn3 HB3 HO3
            obtain ⟨j, F', rfl, hj, rfl, HI, HOn, HFs', HO, HB, hzi⟩ := hrel
            by_cases hltj : j < T.length
            · have hltjz : (j : Int) < (T.length : Int) := by omega
              obtain ⟨A6, c6, hv6, hs6, hc6, hm6⟩ := tok_form HO.out
              obtain ⟨rfl, rfl⟩ : A5 = A6 ∧ c5 = c6 := by simpa using hv6
              obtain ⟨g6, o6, t0, t1, t2, rfl, hg6, htj, d0, d1, d2⟩ := hs6.tok hltj
              obtain ⟨bf, hbf⟩ : ∃ bf : Bool, ((j : Int) == 0) = bf := ⟨_, rfl⟩
              have hbf2 : bf = decide (j = 0) := by rw [← hbf, Bool.eq_iff_iff]; simp
              have hg := Hgood.out _ (List.mem_of_getElem? htj)
              have hb7 := below1 wr (.cells (tokC (t0, t1, t2)).toArray 56)
              have hI7 := HTk.out.keep HI.out hb7
              have hfl : (toksB 0 (L.take k) ++ flagT (T.take j)).length < 25600 := by
                rw [List.length_append, flagT_length, List.length_take]; have := Hlen0.out; omega
              have HTt := veil (HTk.out.take bf (t0, t1, t2) hI7 hfl hg)
              have hsn : (toksB 0 (L.take k) ++ flagT (T.take j)) ++ [(bf, t0, t1, t2)] = toksB 0 (L.take k) ++ flagT (T.take (j + 1)) := by
                rw [List.append_assoc]
                congr 1
                have h9 := flagT_at htj
                rw [← flagT_take, ← flagT_take, take_snoc h9, hbf2]
              rw [hsn] at HTt
              have hz7 : (wr.alloc (.cells (tokC (t0, t1, t2)).toArray 56)).heap.size = wr.heap.size + 1 := by simp
              have hF7 := HTk.out.foot HI.out
              have hO7 := HO.out.alloc (.cells (tokC (t0, t1, t2)).toArray 56)
              have hB7 := HB.out.below hb7 (by have := HB.out.lt; omega)
              have hOn7 : Only F0 w (wr.alloc (.cells (tokC (t0, t1, t2)).toArray 56)) := HOn.out.trans (Only.of_below hb7 (Nat.le_refl _) : Only (fun _ => False) _ _) (fun q h => h.elim)
              have Hz7 := veil hz7; have HF7 := veil hF7; have HO7 := veil hO7; have HB7 := veil hB7; have HOn7 := veil hOn7
              have hen := HTk.out.enters
              have Hen := veil hen
              clear hbf2 hg hb7 hI7 hfl hsn hz7 hF7 hO7 hB7 hOn7 hen htj hs6 hv6
              go_wp2_with fail
              rw [Hen.out, Oper.upon_enter]
              refine HTt.out.mono ?_
              rintro e w8 ⟨rfl, F8, hI8, hOn8, hF8⟩
              have hz8 := hOn8.size
              have hz7 := Hz7.out
              have hnF : ∀ q, F' q → q < W1.heap.size ∨ w3.heap.size ≤ q := fun q hq => by
                rcases HFs'.out q hq with h | h
                · exact .inl (HF2.out q h).1
                · exact .inr h
              have hOn9 : Only F0 w w8 := HOn7.out.trans hOn8 (fun q hq => by
                rcases HFs'.out q hq with h | h
                · exact HFs.out q h
                · right; omega)
              have hF9 : ∀ q, F8 q → F q ∨ w3.heap.size ≤ q := fun q hq => by
                rcases hF8 q hq with h | h
                · exact HFs'.out q h
                · right; omega
              have hO9 := HO7.out.only hOn8 (fun r hr q hq hFq => by
                rw [List.mem_singleton.1 hr] at hq
                have h1 := Hown.out q hq
                have h2 := hnF q hFq
                omega)
              have hB9 := hOn8.blk HB7.out (fun hFq => by have := hnF _ hFq; omega)
              have HI9 := veil hI8; have HOn9 := veil hOn9; have HF9 := veil hF9; have HO9 := veil hO9; have HB9 := veil hB9
              have hz9 : w3.heap.size ≤ w8.heap.size := by omega
              clear hI8 hOn8 hF8 hnF hOn9 hF9 hO9 hB9 hz7
              go_wp2_with fail
              go_roundg (T.length - (j + 1))
              case rel => exact ⟨j + 1, F8, rfl, by omega, by go_num, HI9, HOn9, HF9, HO9, HB9, hz9⟩
              case measure => omega
            · obtain rfl : j = T.length := by omega
              have hI9 := HI.out
              rw [List.take_length, ← Hacc.out] at hI9
              have HI9 := veil hI9
              have hc0 := HB.out.cell Hhd.out
              have hF9 : ∀ q, F' q → F0 q ∨ w.heap.size ≤ q := fun q hq => by
                rcases HFs'.out q hq with h | h
                · exact HFs.out q h
                · right; omega
              have HF9 := veil hF9
              have HA9 : Hid (r.headD 0 = ahead L (k + 1)) := (ahead_next Hr.out).symm
              clear hI9 hF9
              go_wp2_with fail
              go_roundg (L.length - (k + 1))
              case rel => exact ⟨k + 1, r.headD 0, F', rfl, by omega, by go_num, by rw [List.headD_eq_head?_getD], HA9, Hin, HI9, HOn, HF9⟩
              case measure => omega
        · have h5 := eL_bad Hbig.out Hr.out (by simpa using hin)
          rw [← HE.out] at h5
          subst h5
          rw [eT_bad (fun h => hin h.2.2)]
          have HI3 := veil hI3; have HOn3 := veil hOn3
          clear hI3 hOn3 HO3 hB3 hin
          go_wp2_with fail
          go_ret
          exact ⟨rfl, F, _, HI3.out, HOn3.out, HFs.out, fun h => by cases h⟩
      · obtain rfl : k = L.length := by omega
        have h5 := eL_ok Hbig.out (fun r hr => HIn.out r (by rw [List.take_of_length_le (Nat.le_refl _)]; exact hr))
        rw [← HE.out] at h5
        subst h5
        go_wp2_with fail
        go_ret
        exact ⟨rfl, F, _, HI.out, HOn.out, HFs.out, by rw [List.take_length]⟩
end Go.Proofs.Ytbboakdfnjjddaa

/- seg.Encode's function that takes tokens: its contract. -/
namespace Go.Proofs.Ytbboakdfnjjddaa
open Go.RowKit
set_option linter.unusedVariables false
set_option linter.unusedSimpArgs false
set_option maxRecDepth 100000

theorem allW_snoc {fw rw_ : List (Int × Nat × Nat)} {acc : List (Bool × Int × Int × Int)} {x : Bool × Int × Int × Int} : AllW fw rw_ (acc ++ [x]) ↔ AllW fw rw_ acc ∧ (symF (wsOf fw rw_ x.1) x.2.1).isSome = true := by
  unfold AllW
  constructor
  · intro h; exact ⟨fun y hy => h y (by simp [hy]), h x (by simp)⟩
  · rintro ⟨h1, h2⟩ y hy
    rcases List.mem_append.1 hy with hy | hy
    · exact h1 y hy
    · rw [List.mem_singleton.1 hy]; exact h2
theorem sym_ok {ws : List (Int × Nat × Nat)} (hpf : PF ws) {x p1 p2 : Int} (h : symF ws x = some (p1, p2)) : okF (p1, p2) := by
  obtain ⟨t, ht, _, e⟩ := symF_mem h
  have := hpf.small t ht
  simp only [fi, Prod.mk.injEq] at e
  rw [← e.1, ← e.2]
  exact (okF_nat _ _).2 ⟨by omega, this.2⟩
theorem sym_short {ws : List (Int × Nat × Nat)} (hpf : PF ws) {x p1 p2 : Int} (h : symF ws x = some (p1, p2)) : p1.toNat ≤ 16 := by
  obtain ⟨t, ht, _, e⟩ := symF_mem h
  have := hpf.small t ht
  simp only [fi, Prod.mk.injEq] at e
  omega
theorem good_ok {t0 t1 t2 : Int} (h : goodT (t0, t1, t2)) : okF (t1, t2) := by
  obtain ⟨h1, h2, h3⟩ := goodT_fit h
  simp only at h1 h2 h3
  obtain ⟨a, rfl⟩ := Int.eq_ofNat_of_zero_le h1.1
  obtain ⟨b, rfl⟩ := Int.eq_ofNat_of_zero_le h2
  unfold pw at h3
  rw [Int.toNat_natCast] at h3
  exact (okF_nat a b).2 ⟨by omega, by omega⟩
theorem MapF.kept {w w' : World} {b n g : Nat} {f : Int → Option (Int × Int)} {s : Nat} (h : MapF w b n f s) (hg : w.grownBy w' (some g)) (hn : b ≠ g) : MapF w' b n f s := by
  have hlt := h.lt
  obtain ⟨D, ⟨es, clock, h1, h2⟩, h3⟩ := h
  exact ⟨D, ⟨es, clock, by rw [hg.block b hlt (by simpa using hn)]; exact h1, h2⟩, h3⟩
theorem MapF.only {w w' : World} {b n : Nat} {F : Nat → Prop} {f : Int → Option (Int × Int)} {s : Nat} (h : MapF w b n f s) (hg : Only F w w') (hn : ¬ F b) : MapF w' b n f s := by
  have hlt := h.lt
  obtain ⟨D, ⟨es, clock, h1, h2⟩, h3⟩ := h
  exact ⟨D, ⟨es, clock, by rw [hg.block b hlt hn]; exact h1, h2⟩, h3⟩
/-- What the encoding keeps. -/
def encI (fw rw_ : List (Int × Nat × Nat)) (n1 s1 n2 s2 b1 b2 f r m g B : Nat) (W : World) (F : Nat → Prop) (acc : List (Bool × Int × Int × Int)) : Prop :=
  ∃ D P vd vp, Wr B g D P vd vp W ∧ MapF W b1 n1 (symF fw) s1 ∧ MapF W b2 n2 (symF rw_) s2 ∧ Blk W f [.map (some b1)] 62 ∧ Blk W r [.map (some b2)] 62 ∧ Blk W m [.bool (!decide (AllW fw rw_ acc))] 4 ∧
    (AllW fw rw_ acc → unpack D ++ fieldBits P = segBits fw rw_ acc) ∧ (unpack D ++ fieldBits P).length ≤ 40 * acc.length ∧ F = fun q => q = m ∨ wrF g vd vp q

set_option maxRecDepth 100000 in
set_option maxHeartbeats 4000000 in
theorem enc_true (fw rw_ : List (Int × Nat × Nat)) (n1 s1 n2 s2 b1 b2 f r m g B : Nat) (hpf : PF fw) (t : Int × Int × Int) (W : World) (F : Nat → Prop) (acc : List (Bool × Int × Int × Int)) (h : encI fw rw_ n1 s1 n2 s2 b1 b2 f r m g B W F acc) (hacc : acc.length < 25600) (hgt : goodT t) (hf : f < g) (hr : r < g) (hb1 : b1 < g) (hb2 : b2 < g) (hgm : g < m) (hmB : m < B) :
    Calls Try.prog 29 #[tokV t, .bool true, .pointer (some ⟨r, 0, none⟩), .pointer (some ⟨f, 0, none⟩), .pointer (some ⟨m, 0, none⟩), .pointer (some ⟨g, 0, none⟩)] W fun e W' => e = .returned (.tuple #[]) ∧ ∃ F', encI fw rw_ n1 s1 n2 s2 b1 b2 f r m g B W' F' (acc ++ [(true, t)]) ∧ Only F W W' ∧ ∀ q, F' q → F q ∨ W.heap.size ≤ q := by
  obtain ⟨D, P, vd, vp, hW, hM1, hM2, hf0, hr0, hm0, hbits, hlen, rfl⟩ := h
  obtain ⟨t0, t1, t2⟩ := t
  have hgl := hW.blk.lt
  have hml := hm0.lt
  have hft := fun (q : Nat) (hq : wrF g vd vp q) => hW.foot hq
  have hbk := below1 W (.cells #[.int .i64 t0, .int .i64 t1, .int .i64 t2] 56)
  have hz1 : (W.alloc (.cells #[.int .i64 t0, .int .i64 t1, .int .i64 t2] 56)).heap.size = W.heap.size + 1 := by simp
  have hM1a := hM1.below hbk (by omega)
  have hM2a := hM2.below hbk (by omega)
  have cf := (hf0.below hbk (by omega)).cell (i := 0) (v := .map (some b1)) rfl
  have cr := (hr0.below hbk (by omega)).cell (i := 0) (v := .map (some b2)) rfl
  have hB1 : Blk (W.alloc (.cells #[.int .i64 t0, .int .i64 t1, .int .i64 t2] 56)) W.heap.size [.int .i64 t0, .int .i64 t1, .int .i64 t2] 56 := Blk.new W [.int .i64 t0, .int .i64 t1, .int .i64 t2] 56
  have hgf := goodT_fit hgt
  have hwx : WF t0 := wf_of (by have := hgt.2; simp only at this; omega)
  have Hwx := veil hwx
  have Hgt := veil hgt
  have Hnm : Hid (¬ wrF g vd vp m) := fun h => by
    rcases h with h | h | h
    · omega
    · have := (hW.own.head.lt m h).1; omega
    · have := (hW.own.tail.head.lt m h).1; omega
  cases hq : symF fw t0 with
  | none =>
    have hno : ¬ AllW fw rw_ (acc ++ [(true, t0, t1, t2)]) := fun h => by
      have h2 := (allW_snoc.1 h).2
      have h3 : (symF fw t0).isSome = true := h2
      rw [hq] at h3; cases h3
    have hbk2 := below1 (W.alloc (.cells #[.int .i64 t0, .int .i64 t1, .int .i64 t2] 56)) (.cells #[.int .i64 0, .int .i64 0] 69)
    have hbk3 := hbk.trans (hbk2.mono (by omega))
    have hm3 := hm0.below hbk3 hml
    have cm := hm3.cell (i := 0) (v := .bool (!decide (AllW fw rw_ acc))) rfl
    have zm := hm3.frozen 0
    have hg3 := grown_setCell W m 0 (.bool true)
    have hzs : (W.setCell ⟨m, 0, none⟩ (.bool true)).heap.size = W.heap.size := by simp [World.setCell]
    have hbn := below2 (W.setCell ⟨m, 0, none⟩ (.bool true)) (.cells #[.int .i64 t0, .int .i64 t1, .int .i64 t2] 56) (.cells #[.int .i64 0, .int .i64 0] 69)
    have hres : Hid (∃ F', encI fw rw_ n1 s1 n2 s2 b1 b2 f r m g B (((W.setCell ⟨m, 0, none⟩ (.bool true)).alloc (.cells #[.int .i64 t0, .int .i64 t1, .int .i64 t2] 56)).alloc (.cells #[.int .i64 0, .int .i64 0] 69)) F' (acc ++ [(true, t0, t1, t2)]) ∧ Only (fun q => q = m ∨ wrF g vd vp q) W (((W.setCell ⟨m, 0, none⟩ (.bool true)).alloc (.cells #[.int .i64 t0, .int .i64 t1, .int .i64 t2] 56)).alloc (.cells #[.int .i64 0, .int .i64 0] 69)) ∧ ∀ q, F' q → (q = m ∨ wrF g vd vp q) ∨ W.heap.size ≤ q) := by
      refine ⟨fun q => q = m ∨ wrF g vd vp q, ⟨D, P, vd, vp, (hW.only (Only.of_grown hg3 (F := fun q => q = m) (fun q e => by injection e with e; exact .inl e.symm)) (fun q hq e => Hnm.out (e ▸ hq))).below hbn, (hM1.kept hg3 (by omega)).below hbn (by rw [hzs]; omega), (hM2.kept hg3 (by omega)).below hbn (by rw [hzs]; omega), (hf0.kept hg3 (by simp; omega)).below hbn (by rw [hzs]; omega), (hr0.kept hg3 (by simp; omega)).below hbn (by rw [hzs]; omega), ?_, fun h => absurd h hno, ?_, rfl⟩, ?_, fun q h => .inl h⟩
      · have := (hm0.set 0 (.bool true)).below hbn (by rw [hzs]; omega)
        rw [decide_eq_false hno]; exact this
      · have h9 : (acc ++ [(true, t0, t1, t2)]).length = acc.length + 1 := by simp
        rw [h9]; omega
      · exact (Only.of_grown hg3 (F := fun q => q = m ∨ wrF g vd vp q) (fun q e => by injection e with e; exact .inl (.inl e.symm))).trans (Only.of_below hbn (Nat.le_refl _) : Only (fun _ => False) _ _) (fun q h => h.elim)
    have Hq := veil hq
    clear hzs hbn hno hbk2 hbk3 hm3 hg3 hW hM1 hM2 hf0 hr0 hm0 hbits hlen hft hbk hgf hgt hwx hq
    unfold tokV
    go_enter Try.func29, Try.ntmps29
    go_wp2_with (first
      | (at_lookup; refine wpList_lookF _ rfl (.tmp 15) (.tmp 17) rfl b1 n1 (symF fw) s1 rfl hM1a t0 rfl Hwx.out (0, 0) false (by rw [Hq.out]; rfl) (by rw [Hq.out]; rfl) ?_)
      | fail)
    exact bodyPost_ret (results_none (fn := Try.f29) rfl _ _ _) rfl ⟨rfl, hres.out⟩
  | some p =>
    obtain ⟨p1, p2⟩ := p
    have hok := sym_ok hpf hq
    have hok2 := good_ok hgt
    have hbk2 := below1 (W.alloc (.cells #[.int .i64 t0, .int .i64 t1, .int .i64 t2] 56)) (.cells #[.int .i64 p1, .int .i64 p2] 69)
    have hbk3 := hbk.trans (hbk2.mono (by omega))
    have hW3 := hW.below hbk3
    have hDl : D.length ≤ 200000 := by rw [List.length_append, unpack_length] at hlen; omega
    have HA := veil (add_any B g D P vd vp p1 p2 _ hW3 hok (by omega))
    have hM13 := hM1.below hbk3 (by omega)
    have hM23 := hM2.below hbk3 (by omega)
    have hf3 := hf0.below hbk3 (by omega)
    have hr3 := hr0.below hbk3 (by omega)
    have hm3 := hm0.below hbk3 hml
    have hB3 := hB1.below hbk2 (by omega)
    have hz3 : ((W.alloc (.cells #[.int .i64 t0, .int .i64 t1, .int .i64 t2] 56)).alloc (.cells #[.int .i64 p1, .int .i64 p2] 69)).heap.size = W.heap.size + 2 := by simp
    have hon3 : Only (fun _ => False) W ((W.alloc (.cells #[.int .i64 t0, .int .i64 t1, .int .i64 t2] 56)).alloc (.cells #[.int .i64 p1, .int .i64 p2] 69)) := Only.of_below hbk3 (Nat.le_refl _)
    have Hq := veil hq
    have Hbits := veil hbits
    have HM13 := veil hM13; have HM23 := veil hM23; have Hf3 := veil hf3; have Hr3 := veil hr3; have Hm3 := veil hm3; have HB3 := veil hB3; have Hon3 := veil hon3; have Hft := veil hft; have Hlen := veil hlen; have Hok2 := veil hok2; have Hok := veil hok; have Hpf := veil hpf
    clear hbk2 hbk3 hW hM1 hM2 hf0 hr0 hm0 hbits hlen hft hbk hgf hgt hwx hq hok hok2 hW3 hM13 hM23 hf3 hr3 hm3 hB3 hon3 hpf
    unfold tokV
    go_enter Try.func29, Try.ntmps29
    go_wp2_with (first
      | (at_lookup; refine wpList_lookF _ rfl (.tmp 15) (.tmp 17) rfl b1 n1 (symF fw) s1 rfl hM1a t0 rfl Hwx.out (p1, p2) true (by rw [Hq.out]; rfl) (by rw [Hq.out]; rfl) ?_)
      | fail)
    refine HA.out.mono ?_
    rintro e w4 ⟨rfl, D4, P4, vd4, vp4, hW4, hb4, hon4, hsub4⟩
    have hz4 := hon4.size
    rw [hz3] at hz4 hsub4
    have hnw : ∀ q, q < g → ¬ wrF g vd vp q := fun q hq h => by have := (Hft.out q h).2; omega
    have hnw2 : ∀ q, W.heap.size ≤ q → ¬ wrF g vd vp q := fun q hq h => by have := (Hft.out q h).1; omega
    have hnm := Hnm.out
    have hT4 := hon4.blk HB3.out (hnw2 _ (Nat.le_refl _))
    have k1 := hT4.cell (i := 1) (v := .int .i64 t1) rfl
    have k2 := hT4.cell (i := 2) (v := .int .i64 t2) rfl
    have hl4 := congrArg List.length hb4
    rw [show (unpack D ++ fieldBits P ++ bitsN p1.toNat p2.toNat).length = (unpack D ++ fieldBits P).length + (bitsN p1.toNat p2.toNat).length from List.length_append, bitsN_length] at hl4
    have hp16 : p1.toNat ≤ 24 := by have := Hok.out.1; simp only at this; omega
    have hlen4 := Hlen.out
    have hD4 : D4.length ≤ 1000000 := by
      have h9 : (unpack D4 ++ fieldBits P4).length = 8 * D4.length + (fieldBits P4).length := by rw [List.length_append, unpack_length]
      omega
    have HA2 := veil (add_any B g D4 P4 vd4 vp4 t1 t2 w4 hW4 Hok2.out hD4)
    have Hnm4 : Hid (¬ wrF g vd4 vp4 m) := fun h => by
      rcases h with h | h | h
      · omega
      · have := (hW4.own.head.lt m h).1; omega
      · have := (hW4.own.tail.head.lt m h).1; omega
    have hnw4 : ∀ q, q < g → ¬ wrF g vd4 vp4 q := fun q hq h => by have := (hW4.foot h).2; omega
    have HM14 := veil (HM13.out.only hon4 (hnw _ hb1)); have HM24 := veil (HM23.out.only hon4 (hnw _ hb2)); have Hf4 := veil (hon4.blk Hf3.out (hnw _ hf)); have Hr4 := veil (hon4.blk Hr3.out (hnw _ hr)); have Hm4 := veil (hon4.blk Hm3.out hnm)
    have Hnw4 := veil hnw4; have Hon4 := veil hon4; have Hsub4 := veil hsub4; have Hb4 := veil hb4; have Hl4 := veil hl4
    have Hlen4 := veil hlen4
    clear HA hW4 hb4 hl4 hnw4 hon4 hsub4 hT4 hnm hlen4 hD4
    go_wp2_with fail
    refine HA2.out.mono ?_
    rintro e w5 ⟨rfl, D5, P5, vd5, vp5, hW5, hb5, hon5, hsub5⟩
    have hm5 := hon5.blk Hm4.out Hnm4.out
    have hiff : AllW fw rw_ (acc ++ [(true, t0, t1, t2)]) ↔ AllW fw rw_ acc := by
      rw [allW_snoc]
      have h3 : (symF fw t0).isSome = true := by rw [Hq.out]; rfl
      exact ⟨fun h => h.1, fun h => ⟨h, h3⟩⟩
    have hdec : (!decide (AllW fw rw_ (acc ++ [(true, t0, t1, t2)]))) = (!decide (AllW fw rw_ acc)) := by rw [decide_eq_decide.2 hiff]
    have hlen5 : (unpack D5 ++ fieldBits P5).length ≤ 40 * (acc ++ [(true, t0, t1, t2)]).length := by
      have h9 : (acc ++ [(true, t0, t1, t2)]).length = acc.length + 1 := by simp
      have h8 := congrArg List.length hb5
      rw [show (unpack D4 ++ fieldBits P4 ++ bitsN t1.toNat t2.toNat).length = (unpack D4 ++ fieldBits P4).length + (bitsN t1.toNat t2.toNat).length from List.length_append, bitsN_length] at h8
      have h7 : t1.toNat ≤ 12 := by have := (goodT_fit Hgt.out).1; simp only at this; omega
      have h6 := Hl4.out
      have h5 := Hlen4.out
      have h4 : p1.toNat ≤ 16 := sym_short Hpf.out Hq.out
      rw [h9]; omega
    have hbits5 : AllW fw rw_ (acc ++ [(true, t0, t1, t2)]) → unpack D5 ++ fieldBits P5 = segBits fw rw_ (acc ++ [(true, t0, t1, t2)]) := fun h => by
      have h2 := Hbits.out (hiff.1 h)
      rw [hb5, Hb4.out, h2, segBits_append, segBits_one]
      show _ = segBits fw rw_ acc ++ (symBits fw t0 ++ bitsN t1.toNat t2.toNat)
      unfold symBits
      rw [Hq.out, List.append_assoc]; rfl
    have hsub6 : ∀ q, (q = m ∨ wrF g vd5 vp5 q) → (q = m ∨ wrF g vd vp q) ∨ W.heap.size ≤ q := fun q hq => by
      rcases hq with h | h
      · exact .inl (.inl h)
      · rcases hsub5 q h with h | h
        · rcases Hsub4.out q h with h | h
          · exact .inl (.inr h)
          · right; omega
        · right; omega
    have hon6 : Only (fun q => q = m ∨ wrF g vd vp q) W w5 := ((((Hon3.out.mono (fun q h => h.elim) : Only (fun q => q = m ∨ wrF g vd vp q) W _)).trans Hon4.out (fun q h => .inl (.inr h)))).trans hon5 (fun q h => by
      rcases Hsub4.out q h with h | h
      · exact .inl (.inr h)
      · right; omega)
    have hres : Hid (∃ F', encI fw rw_ n1 s1 n2 s2 b1 b2 f r m g B w5 F' (acc ++ [(true, t0, t1, t2)]) ∧ Only (fun q => q = m ∨ wrF g vd vp q) W w5 ∧ ∀ q, F' q → (q = m ∨ wrF g vd vp q) ∨ W.heap.size ≤ q) :=
      ⟨fun q => q = m ∨ wrF g vd5 vp5 q, ⟨D5, P5, vd5, vp5, hW5, HM14.out.only hon5 (Hnw4.out _ hb1), HM24.out.only hon5 (Hnw4.out _ hb2), hon5.blk Hf4.out (Hnw4.out _ hf), hon5.blk Hr4.out (Hnw4.out _ hr), by rw [hdec]; exact hm5, hbits5, hlen5, rfl⟩, hon6, hsub6⟩
    clear hW5 hb5 hon5 hsub5 hm5 hiff hdec hlen5 hbits5 hsub6 hon6 k1 k2
    go_wp2_with fail
    go_end0
    exact ⟨rfl, hres.out⟩

set_option maxRecDepth 100000 in
set_option maxHeartbeats 4000000 in
theorem enc_false (fw rw_ : List (Int × Nat × Nat)) (n1 s1 n2 s2 b1 b2 f r m g B : Nat) (hpf : PF rw_) (t : Int × Int × Int) (W : World) (F : Nat → Prop) (acc : List (Bool × Int × Int × Int)) (h : encI fw rw_ n1 s1 n2 s2 b1 b2 f r m g B W F acc) (hacc : acc.length < 25600) (hgt : goodT t) (hf : f < g) (hr : r < g) (hb1 : b1 < g) (hb2 : b2 < g) (hgm : g < m) (hmB : m < B) :
    Calls Try.prog 29 #[tokV t, .bool false, .pointer (some ⟨r, 0, none⟩), .pointer (some ⟨f, 0, none⟩), .pointer (some ⟨m, 0, none⟩), .pointer (some ⟨g, 0, none⟩)] W fun e W' => e = .returned (.tuple #[]) ∧ ∃ F', encI fw rw_ n1 s1 n2 s2 b1 b2 f r m g B W' F' (acc ++ [(false, t)]) ∧ Only F W W' ∧ ∀ q, F' q → F q ∨ W.heap.size ≤ q := by
  obtain ⟨D, P, vd, vp, hW, hM1, hM2, hf0, hr0, hm0, hbits, hlen, rfl⟩ := h
  obtain ⟨t0, t1, t2⟩ := t
  have hgl := hW.blk.lt
  have hml := hm0.lt
  have hft := fun (q : Nat) (hq : wrF g vd vp q) => hW.foot hq
  have hbk := below1 W (.cells #[.int .i64 t0, .int .i64 t1, .int .i64 t2] 56)
  have hz1 : (W.alloc (.cells #[.int .i64 t0, .int .i64 t1, .int .i64 t2] 56)).heap.size = W.heap.size + 1 := by simp
  have hM1a := hM1.below hbk (by omega)
  have hM2a := hM2.below hbk (by omega)
  have cf := (hf0.below hbk (by omega)).cell (i := 0) (v := .map (some b1)) rfl
  have cr := (hr0.below hbk (by omega)).cell (i := 0) (v := .map (some b2)) rfl
  have hB1 : Blk (W.alloc (.cells #[.int .i64 t0, .int .i64 t1, .int .i64 t2] 56)) W.heap.size [.int .i64 t0, .int .i64 t1, .int .i64 t2] 56 := Blk.new W [.int .i64 t0, .int .i64 t1, .int .i64 t2] 56
  have hgf := goodT_fit hgt
  have hwx : WF t0 := wf_of (by have := hgt.2; simp only at this; omega)
  have Hwx := veil hwx
  have Hgt := veil hgt
  have Hnm : Hid (¬ wrF g vd vp m) := fun h => by
    rcases h with h | h | h
    · omega
    · have := (hW.own.head.lt m h).1; omega
    · have := (hW.own.tail.head.lt m h).1; omega
  cases hq : symF rw_ t0 with
  | none =>
    have hno : ¬ AllW fw rw_ (acc ++ [(false, t0, t1, t2)]) := fun h => by
      have h2 := (allW_snoc.1 h).2
      have h3 : (symF rw_ t0).isSome = true := h2
      rw [hq] at h3; cases h3
    have hbk2 := below1 (W.alloc (.cells #[.int .i64 t0, .int .i64 t1, .int .i64 t2] 56)) (.cells #[.int .i64 0, .int .i64 0] 69)
    have hbk3 := hbk.trans (hbk2.mono (by omega))
    have hm3 := hm0.below hbk3 hml
    have cm := hm3.cell (i := 0) (v := .bool (!decide (AllW fw rw_ acc))) rfl
    have zm := hm3.frozen 0
    have hg3 := grown_setCell W m 0 (.bool true)
    have hzs : (W.setCell ⟨m, 0, none⟩ (.bool true)).heap.size = W.heap.size := by simp [World.setCell]
    have hbn := below2 (W.setCell ⟨m, 0, none⟩ (.bool true)) (.cells #[.int .i64 t0, .int .i64 t1, .int .i64 t2] 56) (.cells #[.int .i64 0, .int .i64 0] 69)
    have hres : Hid (∃ F', encI fw rw_ n1 s1 n2 s2 b1 b2 f r m g B (((W.setCell ⟨m, 0, none⟩ (.bool true)).alloc (.cells #[.int .i64 t0, .int .i64 t1, .int .i64 t2] 56)).alloc (.cells #[.int .i64 0, .int .i64 0] 69)) F' (acc ++ [(false, t0, t1, t2)]) ∧ Only (fun q => q = m ∨ wrF g vd vp q) W (((W.setCell ⟨m, 0, none⟩ (.bool true)).alloc (.cells #[.int .i64 t0, .int .i64 t1, .int .i64 t2] 56)).alloc (.cells #[.int .i64 0, .int .i64 0] 69)) ∧ ∀ q, F' q → (q = m ∨ wrF g vd vp q) ∨ W.heap.size ≤ q) := by
      refine ⟨fun q => q = m ∨ wrF g vd vp q, ⟨D, P, vd, vp, (hW.only (Only.of_grown hg3 (F := fun q => q = m) (fun q e => by injection e with e; exact .inl e.symm)) (fun q hq e => Hnm.out (e ▸ hq))).below hbn, (hM1.kept hg3 (by omega)).below hbn (by rw [hzs]; omega), (hM2.kept hg3 (by omega)).below hbn (by rw [hzs]; omega), (hf0.kept hg3 (by simp; omega)).below hbn (by rw [hzs]; omega), (hr0.kept hg3 (by simp; omega)).below hbn (by rw [hzs]; omega), ?_, fun h => absurd h hno, ?_, rfl⟩, ?_, fun q h => .inl h⟩
      · have := (hm0.set 0 (.bool true)).below hbn (by rw [hzs]; omega)
        rw [decide_eq_false hno]; exact this
      · have h9 : (acc ++ [(false, t0, t1, t2)]).length = acc.length + 1 := by simp
        rw [h9]; omega
      · exact (Only.of_grown hg3 (F := fun q => q = m ∨ wrF g vd vp q) (fun q e => by injection e with e; exact .inl (.inl e.symm))).trans (Only.of_below hbn (Nat.le_refl _) : Only (fun _ => False) _ _) (fun q h => h.elim)
    have Hq := veil hq
    clear hzs hbn hno hbk2 hbk3 hm3 hg3 hW hM1 hM2 hf0 hr0 hm0 hbits hlen hft hbk hgf hgt hwx hq
    unfold tokV
    go_enter Try.func29, Try.ntmps29
    go_wp2_with (first
      | (at_lookup; refine wpList_lookF _ rfl (.tmp 15) (.tmp 17) rfl b2 n2 (symF rw_) s2 rfl hM2a t0 rfl Hwx.out (0, 0) false (by rw [Hq.out]; rfl) (by rw [Hq.out]; rfl) ?_)
      | fail)
    exact bodyPost_ret (results_none (fn := Try.f29) rfl _ _ _) rfl ⟨rfl, hres.out⟩
  | some p =>
    obtain ⟨p1, p2⟩ := p
    have hok := sym_ok hpf hq
    have hok2 := good_ok hgt
    have hbk2 := below1 (W.alloc (.cells #[.int .i64 t0, .int .i64 t1, .int .i64 t2] 56)) (.cells #[.int .i64 p1, .int .i64 p2] 69)
    have hbk3 := hbk.trans (hbk2.mono (by omega))
    have hW3 := hW.below hbk3
    have hDl : D.length ≤ 200000 := by rw [List.length_append, unpack_length] at hlen; omega
    have HA := veil (add_any B g D P vd vp p1 p2 _ hW3 hok (by omega))
    have hM13 := hM1.below hbk3 (by omega)
    have hM23 := hM2.below hbk3 (by omega)
    have hf3 := hf0.below hbk3 (by omega)
    have hr3 := hr0.below hbk3 (by omega)
    have hm3 := hm0.below hbk3 hml
    have hB3 := hB1.below hbk2 (by omega)
    have hz3 : ((W.alloc (.cells #[.int .i64 t0, .int .i64 t1, .int .i64 t2] 56)).alloc (.cells #[.int .i64 p1, .int .i64 p2] 69)).heap.size = W.heap.size + 2 := by simp
    have hon3 : Only (fun _ => False) W ((W.alloc (.cells #[.int .i64 t0, .int .i64 t1, .int .i64 t2] 56)).alloc (.cells #[.int .i64 p1, .int .i64 p2] 69)) := Only.of_below hbk3 (Nat.le_refl _)
    have Hq := veil hq
    have Hbits := veil hbits
    have HM13 := veil hM13; have HM23 := veil hM23; have Hf3 := veil hf3; have Hr3 := veil hr3; have Hm3 := veil hm3; have HB3 := veil hB3; have Hon3 := veil hon3; have Hft := veil hft; have Hlen := veil hlen; have Hok2 := veil hok2; have Hok := veil hok; have Hpf := veil hpf
    clear hbk2 hbk3 hW hM1 hM2 hf0 hr0 hm0 hbits hlen hft hbk hgf hgt hwx hq hok hok2 hW3 hM13 hM23 hf3 hr3 hm3 hB3 hon3 hpf
    unfold tokV
    go_enter Try.func29, Try.ntmps29
    go_wp2_with (first
      | (at_lookup; refine wpList_lookF _ rfl (.tmp 15) (.tmp 17) rfl b2 n2 (symF rw_) s2 rfl hM2a t0 rfl Hwx.out (p1, p2) true (by rw [Hq.out]; rfl) (by rw [Hq.out]; rfl) ?_)
      | fail)
    refine HA.out.mono ?_
    rintro e w4 ⟨rfl, D4, P4, vd4, vp4, hW4, hb4, hon4, hsub4⟩
    have hz4 := hon4.size
    rw [hz3] at hz4 hsub4
    have hnw : ∀ q, q < g → ¬ wrF g vd vp q := fun q hq h => by have := (Hft.out q h).2; omega
    have hnw2 : ∀ q, W.heap.size ≤ q → ¬ wrF g vd vp q := fun q hq h => by have := (Hft.out q h).1; omega
    have hnm := Hnm.out
    have hT4 := hon4.blk HB3.out (hnw2 _ (Nat.le_refl _))
    have k1 := hT4.cell (i := 1) (v := .int .i64 t1) rfl
    have k2 := hT4.cell (i := 2) (v := .int .i64 t2) rfl
    have hl4 := congrArg List.length hb4
    rw [show (unpack D ++ fieldBits P ++ bitsN p1.toNat p2.toNat).length = (unpack D ++ fieldBits P).length + (bitsN p1.toNat p2.toNat).length from List.length_append, bitsN_length] at hl4
    have hp16 : p1.toNat ≤ 24 := by have := Hok.out.1; simp only at this; omega
    have hlen4 := Hlen.out
    have hD4 : D4.length ≤ 1000000 := by
      have h9 : (unpack D4 ++ fieldBits P4).length = 8 * D4.length + (fieldBits P4).length := by rw [List.length_append, unpack_length]
      omega
    have HA2 := veil (add_any B g D4 P4 vd4 vp4 t1 t2 w4 hW4 Hok2.out hD4)
    have Hnm4 : Hid (¬ wrF g vd4 vp4 m) := fun h => by
      rcases h with h | h | h
      · omega
      · have := (hW4.own.head.lt m h).1; omega
      · have := (hW4.own.tail.head.lt m h).1; omega
    have hnw4 : ∀ q, q < g → ¬ wrF g vd4 vp4 q := fun q hq h => by have := (hW4.foot h).2; omega
    have HM14 := veil (HM13.out.only hon4 (hnw _ hb1)); have HM24 := veil (HM23.out.only hon4 (hnw _ hb2)); have Hf4 := veil (hon4.blk Hf3.out (hnw _ hf)); have Hr4 := veil (hon4.blk Hr3.out (hnw _ hr)); have Hm4 := veil (hon4.blk Hm3.out hnm)
    have Hnw4 := veil hnw4; have Hon4 := veil hon4; have Hsub4 := veil hsub4; have Hb4 := veil hb4; have Hl4 := veil hl4
    have Hlen4 := veil hlen4
    clear HA hW4 hb4 hl4 hnw4 hon4 hsub4 hT4 hnm hlen4 hD4
    go_wp2_with fail
    refine HA2.out.mono ?_
    rintro e w5 ⟨rfl, D5, P5, vd5, vp5, hW5, hb5, hon5, hsub5⟩
    have hm5 := hon5.blk Hm4.out Hnm4.out
    have hiff : AllW fw rw_ (acc ++ [(false, t0, t1, t2)]) ↔ AllW fw rw_ acc := by
      rw [allW_snoc]
      have h3 : (symF rw_ t0).isSome = true := by rw [Hq.out]; rfl
      exact ⟨fun h => h.1, fun h => ⟨h, h3⟩⟩
    have hdec : (!decide (AllW fw rw_ (acc ++ [(false, t0, t1, t2)]))) = (!decide (AllW fw rw_ acc)) := by rw [decide_eq_decide.2 hiff]
    have hlen5 : (unpack D5 ++ fieldBits P5).length ≤ 40 * (acc ++ [(false, t0, t1, t2)]).length := by
      have h9 : (acc ++ [(false, t0, t1, t2)]).length = acc.length + 1 := by simp
      have h8 := congrArg List.length hb5
      rw [show (unpack D4 ++ fieldBits P4 ++ bitsN t1.toNat t2.toNat).length = (unpack D4 ++ fieldBits P4).length + (bitsN t1.toNat t2.toNat).length from List.length_append, bitsN_length] at h8
      have h7 : t1.toNat ≤ 12 := by have := (goodT_fit Hgt.out).1; simp only at this; omega
      have h6 := Hl4.out
      have h5 := Hlen4.out
      have h4 : p1.toNat ≤ 16 := sym_short Hpf.out Hq.out
      rw [h9]; omega
    have hbits5 : AllW fw rw_ (acc ++ [(false, t0, t1, t2)]) → unpack D5 ++ fieldBits P5 = segBits fw rw_ (acc ++ [(false, t0, t1, t2)]) := fun h => by
      have h2 := Hbits.out (hiff.1 h)
      rw [hb5, Hb4.out, h2, segBits_append, segBits_one]
      show _ = segBits fw rw_ acc ++ (symBits rw_ t0 ++ bitsN t1.toNat t2.toNat)
      unfold symBits
      rw [Hq.out, List.append_assoc]; rfl
    have hsub6 : ∀ q, (q = m ∨ wrF g vd5 vp5 q) → (q = m ∨ wrF g vd vp q) ∨ W.heap.size ≤ q := fun q hq => by
      rcases hq with h | h
      · exact .inl (.inl h)
      · rcases hsub5 q h with h | h
        · rcases Hsub4.out q h with h | h
          · exact .inl (.inr h)
          · right; omega
        · right; omega
    have hon6 : Only (fun q => q = m ∨ wrF g vd vp q) W w5 := ((((Hon3.out.mono (fun q h => h.elim) : Only (fun q => q = m ∨ wrF g vd vp q) W _)).trans Hon4.out (fun q h => .inl (.inr h)))).trans hon5 (fun q h => by
      rcases Hsub4.out q h with h | h
      · exact .inl (.inr h)
      · right; omega)
    have hres : Hid (∃ F', encI fw rw_ n1 s1 n2 s2 b1 b2 f r m g B w5 F' (acc ++ [(false, t0, t1, t2)]) ∧ Only (fun q => q = m ∨ wrF g vd vp q) W w5 ∧ ∀ q, F' q → (q = m ∨ wrF g vd vp q) ∨ W.heap.size ≤ q) :=
      ⟨fun q => q = m ∨ wrF g vd5 vp5 q, ⟨D5, P5, vd5, vp5, hW5, HM14.out.only hon5 (Hnw4.out _ hb1), HM24.out.only hon5 (Hnw4.out _ hb2), hon5.blk Hf4.out (Hnw4.out _ hf), hon5.blk Hr4.out (Hnw4.out _ hr), by rw [hdec]; exact hm5, hbits5, hlen5, rfl⟩, hon6, hsub6⟩
    clear hW5 hb5 hon5 hsub5 hm5 hiff hdec hlen5 hbits5 hsub6 hon6 k1 k2
    go_wp2_with fail
    go_end0
    exact ⟨rfl, hres.out⟩
end Go.Proofs.Ytbboakdfnjjddaa
