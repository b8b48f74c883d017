/- BestBelow returns true: no table at hand takes less. -/
import Derived.Test.YthelblkpfkngmaaBested
namespace Go.Proofs.Ythelblkpfkngmaa
open Go.RowKit
set_option linter.unusedVariables false
set_option linter.unusedSimpArgs false

set_option maxRecDepth 100000 in
set_option maxHeartbeats 4000000 in
theorem bestBelow_walk (cs : List Int) (A : Option Addr) (c : Nat) (syms : List Int) (A2 : Option Addr) (c2 : Nat) (zs : List Int) (w : World) (hcs : cs.length = 16) (hcb : ∀ x ∈ cs, -9223372036854775808 ≤ x ∧ x ≤ 9223372036854775807) (hs : Seen w w.heap.size A (ints .i64 syms)) (hsw : ∀ x ∈ syms, (Lit.int .i64 x).wf = true) (hsl : syms.length ≤ maxLen) (hz : Seen w w.heap.size A2 (ints .i64 zs)) (hzw : ∀ x ∈ zs, (Lit.int .i64 x).wf = true) (hzl : zs.length ≤ maxLen) :
    Calls Try.prog 5 #[tabV cs A syms.length c, .slice A2 zs.length c2] w fun e w' => e = .returned (.bool true) ∧ Below w.heap.size w w' := by
  have Hcs := veil hcs
  have HC := veil (fun w1 h1 h2 h3 => cost_any cs syms zs A A2 c c2 w.heap.size w1 hcs hsl hcb h1 h2 h3 hzl)
  have Hl := veil (tabCells_length (A := A) (n := syms.length) (c := c) hcs)
  clear hcs hsw hzw hcb
  obtain ⟨xs, hxs⟩ : ∃ xs, xs = tabCells cs A syms.length c := ⟨_, rfl⟩
  unfold tabV at HC ⊢
  rw [← hxs] at Hl HC ⊢
  clear hxs
  have Hr := veil (range_new w xs 25)
  go_enter Try.func5, Try.ntmps5
  go_wp2_with fail
  refine (bested_any _).mono ?_
  rintro e w0 ⟨rfl, hb0⟩
  have hbel0 : Below w.heap.size w w0 := (below1 _ _).trans (hb0.mono (by simp))
  have hz0 := hbel0.size
  have hr0 : w0.rangeAt w.heap.size 0 xs := range_below Hr.out hb0 (by simp)
  have Hr0 := veil hr0
  clear Hr hr0 hb0
  go_wp2_with (first
    | (refine wpList_load_mid rfl 25 (.tmp 2) rfl w.heap.size 0 rfl xs _ Hr0.out Try.underlying25 rfl (by rw [Hl.out]; exact info_tab) ?_)
    | fail)
  refine (HC.out _ (hs.below hbel0 (Nat.le_refl _)) (hz.below hbel0 (Nat.le_refl _)) hz0).mono ?_
  rintro e w1 ⟨rfl, hb1⟩
  have hbel1 : Below w.heap.size w w1 := hbel0.trans (hb1.mono hz0)
  have hz1 := hbel1.size
  have HM := veil (make_any A2 c2 w.heap.size zs w1 (hz.below hbel1 (Nat.le_refl _)) hz1 hzl)
  clear HC hb1
  go_wp2_with fail
  refine HM.out.mono ?_
  rintro e w2 ⟨cs2, syms2, A', c', rfl, hM, HO, hb2⟩
  have hsy := MadeT.seen (zs := zs) (cs := cs2) HO
  have hbel2 : Below w.heap.size w w2 := hbel1.trans (hb2.mono hz1)
  have Hl2 := veil (tabCells_length (A := A') (n := syms2.length) (c := c') hM.len)
  have hone := tabCells_one (cs := cs2) (A := A') (n := syms2.length) (c := c')
  have hz2 := hbel2.size
  have HK := veil (fun w3 G h1 h2 h3 => cost_any cs2 syms2 zs A' A2 c' c2 G w3 hM.len (by have := hM.short; unfold maxLen; omega) hM.bnd h1 h2 h3 hzl)
  have Hok := veil hM.ok
  unfold tabV at HK ⊢
  generalize tabCells cs2 A' syms2.length c' = ys at *
  clear HM hb2 HO hM
  by_cases he : costE cs syms zs = 0
  · obtain ⟨h1, h2, h3⟩ := (costE_zero Hcs.out).1 he
    obtain ⟨_, _, _, k4, L, k5, k6, _⟩ := Hok.out h2
    have hle : costV cs2 syms2 zs ≤ costV cs syms zs := by
      rw [k6, costV_eq Hcs.out he]
      have := k5.least _ (tab_code Hcs.out h1 h3)
      omega
    rw [k4] at HK
    rw [he, h2]
    generalize costV cs2 syms2 zs = v2 at *
    generalize costV cs syms zs = v1 at *
    clear he h1 h2 h3 k4 k5 k6 Hok
    go_wp2_with (first
      | (refine wpList_store_tab w2 rfl (.tmp 7) (.tmp 22) rfl ys Hl2.out hone rfl rfl ?_)
      | (refine wpList_load_mid rfl 25 (.tmp 7) rfl w2.heap.size 0 rfl ys _ (range_new w2 ys 25) Try.underlying25 rfl (by rw [Hl2.out]; exact info_tab) ?_)
      | fail)
    refine (HK.out _ w2.heap.size (hsy.alloc (Nat.le_refl _) _) (((hz.below hbel2 (Nat.le_refl _)).alloc hz2 _).up hz2) (by simp)).mono ?_
    rintro e w3 ⟨rfl, hb3⟩
    have hbel3 : Below w.heap.size w w3 := (hbel2.trans ((below1 w2 _).mono hz2)).trans (hb3.mono (by simp; omega))
    go_wp2
    go_ret
    exact ⟨by simp [hle], hbel3⟩
  · have hne : (costE cs syms zs != 0) = true := by simpa using he
    have hE : Below w.heap.size w (w2.alloc (.cells ys.toArray 25)) := hbel2.trans ((below1 w2 _).mono hz2)
    clear he HK Hok
    generalize costE cs syms zs = E at *
    generalize costV cs syms zs = v1 at *
    by_cases hf : errB zs = 0
    · rw [hf]
      clear hf
      go_wp2_with (first
        | (refine wpList_store_tab w2 rfl (.tmp 7) (.tmp 22) rfl ys Hl2.out hone rfl rfl ?_)
        | fail)
      go_ret
      exact ⟨rfl, hE⟩
    · have hnf : (errB zs != 0) = true := by simpa using hf
      clear hf
      generalize errB zs = E2 at *
      go_wp2_with (first
        | (refine wpList_store_tab w2 rfl (.tmp 7) (.tmp 22) rfl ys Hl2.out hone rfl rfl ?_)
        | fail)
      go_ret
      exact ⟨rfl, hE⟩
end Go.Proofs.Ythelblkpfkngmaa
