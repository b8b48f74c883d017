/- BestMakes returns true: what Make makes is as short as can be; where the counts may not be, it makes the empty table. -/
import Derived.Test.YthelblkpfkngmaaRefShort
namespace Go.Proofs.Ythelblkpfkngmaa
open Go.RowKit
set_option linter.unusedVariables false
set_option linter.unusedSimpArgs false

theorem errB_neg : errB [-1] = 1 := by decide
theorem make_neg (w3 : World) (b : Nat) (hb : b = w3.heap.size) : Calls Try.prog 16 #[.slice (some ⟨b, 0, none⟩) 1 1] (w3.alloc (.cells #[.int .i64 (-1)] 3)) fun e w' => ∃ ys : List Value, e = .returned (.tuple #[.agg ys.toArray, .int .i64 1]) ∧ ys.length = 17 ∧ (∀ u ∈ ys, u.oneCell' = true) ∧ Below w3.heap.size w3 w' := by
  subst hb
  have h := make_any (some ⟨w3.heap.size, 0, none⟩) 1 (w3.heap.size + 1) [-1] (w3.alloc (.cells (ints .i64 [-1]).toArray 3)) (Seen.new w3 (ints .i64 [-1]) 3 (w3.heap.size + 1) (Nat.lt_succ_self _)) (by simp) (by unfold maxLen; simp)
  refine Calls.mono h ?_
  rintro e w' ⟨cs, syms, A', c', rfl, hM, _, hb⟩
  exact ⟨_, by rw [errB_neg], tabCells_length hM.len, tabCells_one, (below1 _ _).trans (hb.mono (by simp))⟩
set_option maxRecDepth 100000 in
set_option maxHeartbeats 4000000 in
theorem bestMakes_walk (A2 : Option Addr) (c2 : Nat) (zs : List Int) (w : World) (hz : Seen w w.heap.size A2 (ints .i64 zs)) (hzw : ∀ x ∈ zs, (Lit.int .i64 x).wf = true) (hzl : zs.length ≤ maxLen) :
    Calls Try.prog 4 #[.slice A2 zs.length c2] w fun e w' => e = .returned (.bool true) ∧ Below w.heap.size w w' := by
  clear hzw
  have HM := veil (make_any A2 c2 w.heap.size zs w hz (Nat.le_refl _) hzl)
  go_enter Try.func4, Try.ntmps4
  go_wp2_with fail
  refine HM.out.mono ?_
  rintro e w2 ⟨cs2, syms2, A', c', rfl, hM, HO, hb2⟩
  have hsy := MadeT.seen (zs := zs) (cs := cs2) HO
  have hcap : syms2.length ≤ c' := by
    obtain ⟨A1, c1, e, _, h1, _⟩ := HO.seen (List.mem_singleton.2 rfl)
    simp only [intRow, Value.slice.injEq] at e h1
    rw [e.2.2]; exact h1
  have Hl2 := veil (tabCells_length (A := A') (n := syms2.length) (c := c') hM.len)
  have hone := tabCells_one (cs := cs2) (A := A') (n := syms2.length) (c := c')
  have hz2 := hb2.size
  have HS : Hid (errB zs = 0 → ∀ w3 G, Seen w3 G A' (ints .i64 syms2) → Seen w3 G A2 (ints .i64 zs) → G ≤ w3.heap.size → Calls Try.prog 19 #[tabV cs2 A' syms2.length c', .slice A2 zs.length c2] w3 fun e w' => e = .returned (.bool true) ∧ Below w3.heap.size w3 w') := fun he w3 G h1 h2 h3 => shortest_any cs2 syms2 zs A' A2 c' c2 G w3 hM he hcap h1 h2 h3
  have HT : Hid (errB zs ≠ 0 → ∀ w3, Calls Try.prog 18 #[tabV cs2 A' syms2.length c', tabV (List.replicate 16 0) none 0 0] w3 fun e w' => e = .returned (.bool true) ∧ Below w3.heap.size w3 w') := fun he w3 => by
    obtain ⟨h1, h2⟩ := hM.bad he
    rw [h1, h2]; exact tabEq_zero A' c' w3
  unfold tabV at HS HT ⊢
  generalize tabCells cs2 A' syms2.length c' = ys at *
  have HBk := veil (fun w1 h1 => refBestCheck_any A2 c2 w.heap.size zs w1 h1 hzl)
  clear HM HO hM hcap
  generalize errB zs = E at *
  go_wp2_with (first
    | (refine wpList_store_tab w2 rfl (.tmp 3) (.tmp 11) rfl ys Hl2.out hone rfl rfl ?_)
    | fail)
  refine (make_neg (w2.alloc (.cells ys.toArray 25)) (w2.heap.size + 1) (by simp)).mono ?_
  rintro e w4 ⟨ys4, rfl, hl4, hone4, hb4⟩
  have hb24 : Below w2.heap.size w2 w4 := (below1 _ _).trans (hb4.mono (by simp))
  have hz4 : w2.heap.size < w4.heap.size := by have := hb4.size; simp at this; omega
  have Hr4 := veil (range_below (range_new w2 ys 25) hb4 (by simp))
  clear hb4
  go_wp2_with (first
    | (refine wpList_store_tab w4 rfl (.tmp 5) (.tmp 16) rfl ys4 hl4 hone4 rfl rfl ?_)
    | fail)
  have hb25 : Below w2.heap.size w2 (w4.alloc (.cells ys4.toArray 25)) := hb24.trans ((below1 _ _).mono (by omega))
  have hb05 : Below w.heap.size w (w4.alloc (.cells ys4.toArray 25)) := hb2.trans (hb25.mono hz2)
  have Hr5 := veil (range_below Hr4.out (below1 w4 (.cells ys4.toArray 25)) hz4)
  refine (HBk.out _ (hz.below hb05 (Nat.le_refl _))).mono ?_
  rintro e w5 ⟨rfl, rfl⟩
  clear HBk Hr4 hone hone4
  have h25 := hb25.size
  have h05 := hb05.size
  by_cases hE : E = 0
  · have HSk := veil (HS.out hE)
    clear HS HT
    subst hE
    go_wp2_with (first
      | (refine wpList_load_mid rfl 25 (.tmp 3) rfl w2.heap.size 0 rfl ys _ Hr5.out Try.underlying25 rfl (by rw [Hl2.out]; exact info_tab) ?_)
      | fail)
    refine (HSk.out _ w2.heap.size (hsy.below hb25 (Nat.le_refl _)) (((hz.below hb2 (Nat.le_refl _)).up hz2).below hb25 (Nat.le_refl _)) h25).mono ?_
    rintro e w6 ⟨rfl, hb6⟩
    have hbf : Below w.heap.size w w6 := hb05.trans (hb6.mono h05)
    go_wp2
    go_ret
    exact ⟨by simp, hbf⟩
  · have hne : (E != 0) = true := by simpa using hE
    have HTk := veil (HT.out hE)
    clear HT HS hE
    go_wp2_with (first
      | (refine wpList_load_mid rfl 25 (.tmp 3) rfl w2.heap.size 0 rfl ys _ Hr5.out Try.underlying25 rfl (by rw [Hl2.out]; exact info_tab) ?_)
      | fail)
    refine (HTk.out _).mono ?_
    rintro e w6 ⟨rfl, hb6⟩
    have hbf : Below w.heap.size w w6 := hb05.trans (hb6.mono h05)
    go_wp2
    go_ret
    exact ⟨by simp, hbf⟩
end Go.Proofs.Ythelblkpfkngmaa
