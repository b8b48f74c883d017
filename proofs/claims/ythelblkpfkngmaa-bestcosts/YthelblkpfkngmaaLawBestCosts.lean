/- BestCosts returns true: Cost is the reference's. -/
import Derived.Test.YthelblkpfkngmaaRefCost
import Derived.Test.YthelblkpfkngmaaRefBad
namespace Go.Proofs.Ythelblkpfkngmaa
open Go.RowKit
set_option linter.unusedVariables false
set_option linter.unusedSimpArgs false

theorem badCostE : costE cs0 [1] [] = 4 := by unfold costE; rw [check0]; rfl
theorem badCostV : costV cs0 [1] [] = 0 := by unfold costV; rw [badCostE]; rfl
theorem badCost_any (A : Option Addr) (w : World) (hs : Seen w w.heap.size A (ints .i64 [1])) : Calls Try.prog 13 #[tabV cs0 A 1 1, .slice none 0 0] w fun e w' => e = .returned (.tuple #[.int .i64 0, .int .i64 4]) ∧ Below w.heap.size w w' := by
  have h := cost_any cs0 [1] [] A none 1 0 w.heap.size w rfl (by unfold maxLen; decide) cs0_b hs (.inl rfl) (Nat.le_refl _) (by unfold maxLen; decide)
  rw [badCostE, badCostV] at h
  exact h
set_option maxRecDepth 100000 in
set_option maxHeartbeats 4000000 in
theorem bestCosts_walk (cs : List Int) (A : Option Addr) (c : Nat) (syms : List Int) (A2 : Option Addr) (c2 : Nat) (zs : List Int) (w : World) (hcs : cs.length = 16) (hcb : ∀ x ∈ cs, -9223372036854775808 ≤ x ∧ x ≤ 9223372036854775807) (hs : Seen w w.heap.size A (ints .i64 syms)) (hsw : ∀ x ∈ syms, (Lit.int .i64 x).wf = true) (hsl : syms.length ≤ maxLen) (hcap : syms.length ≤ c) (hz : Seen w w.heap.size A2 (ints .i64 zs)) (hzw : ∀ x ∈ zs, (Lit.int .i64 x).wf = true) (hzl : zs.length ≤ maxLen) :
    Calls Try.prog 3 #[tabV cs A syms.length c, .slice A2 zs.length c2] w fun e w' => e = .returned (.bool true) ∧ Below w.heap.size w w' := by
  have HC := veil (fun w1 h1 h2 h3 => cost_any cs syms zs A A2 c c2 w.heap.size w1 hcs hsl hcb h1 h2 h3 hzl)
  have HR := veil (fun w1 h1 h2 h3 => refCost_any cs syms zs A A2 c c2 w.heap.size w1 hcs hsl hcap hcb h1 h2 h3 hzl)
  have Hl := veil (tabCells_length (A := A) (n := syms.length) (c := c) hcs)
  clear hcs hsw hzw hcb hcap
  obtain ⟨xs, hxs⟩ : ∃ xs, xs = tabCells cs A syms.length c := ⟨_, rfl⟩
  unfold tabV at HC HR ⊢
  rw [← hxs] at Hl HC HR ⊢
  clear hxs
  have Hr := veil (range_new w xs 25)
  generalize costV cs syms zs = v at *
  generalize costE cs syms zs = E at *
  go_enter Try.func3, Try.ntmps3
  go_wp2_with (first
    | (refine wpList_load_mid rfl 25 (.tmp 2) rfl w.heap.size 0 rfl xs _ Hr.out Try.underlying25 rfl (by rw [Hl.out]; exact info_tab) ?_)
    | fail)
  refine (HC.out _ (hs.alloc (Nat.le_refl _) _) (hz.alloc (Nat.le_refl _) _) (by simp)).mono ?_
  rintro e w1 ⟨rfl, hb1⟩
  have hbel1 : Below w.heap.size w w1 := (below1 _ _).trans (hb1.mono (by simp))
  have Hr1 := veil (range_below Hr.out hb1 (by simp))
  have hz1 := hbel1.size
  clear HC Hr hb1
  go_wp2_with (first
    | (refine wpList_load_mid rfl 25 (.tmp 2) rfl w.heap.size 0 rfl xs _ Hr1.out Try.underlying25 rfl (by rw [Hl.out]; exact info_tab) ?_)
    | fail)
  refine (HR.out _ (hs.below hbel1 (Nat.le_refl _)) (hz.below hbel1 (Nat.le_refl _)) hz1).mono ?_
  rintro e w2 ⟨rfl, hb2⟩
  have hbel2 : Below w.heap.size w w2 := hbel1.trans (hb2.mono hz1)
  clear HR hb2 Hr1
  go_wp2_with fail
  refine (bad_any _).mono ?_
  rintro e w3 ⟨A3, rfl, hs3, hb3⟩
  have hbel3 : Below w.heap.size w w3 := hbel2.trans (hb3.mono hbel2.size)
  have HB := veil (badCost_any A3 w3 hs3)
  unfold tabV at HB ⊢
  generalize tabCells cs0 A3 1 1 = ys at *
  go_wp2_with fail
  refine HB.out.mono ?_
  rintro e w4 ⟨rfl, hb4⟩
  have hbel4 : Below w.heap.size w w4 := hbel3.trans (hb4.mono hbel3.size)
  go_wp2
  go_ret
  exact ⟨by simp, hbel4⟩
end Go.Proofs.Ythelblkpfkngmaa
