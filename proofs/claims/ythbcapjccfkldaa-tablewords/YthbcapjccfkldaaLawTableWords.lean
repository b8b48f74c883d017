/- law.TableWords returns true: Words returns what the reference does. -/
import Derived.Test.YthbcapjccfkldaaRefTabWords
namespace Go.Proofs.Ythbcapjccfkldaa
open Go.RowKit
set_option linter.unusedVariables false
set_option linter.unusedSimpArgs false

theorem badCheck_any (A : Option Addr) (w : World) (hs : Seen w w.heap.size A (ints .i64 [1])) : Calls Try.prog 14 #[tabV cs0 A 1 1] w fun e w' => e = .returned (.int .i64 4) ∧ Below w.heap.size w w' := by
  have := check_any cs0 [1] A 1 w.heap.size w rfl (by decide) cs0_b hs (Nat.le_refl _)
  rw [check0] at this
  exact this

set_option maxRecDepth 100000 in
set_option maxHeartbeats 2000000 in
theorem tableWords_walk (cs : List Int) (A : Option Addr) (c : Nat) (syms : List Int) (w : World) (hcs : cs.length = 16) (hb : ∀ x ∈ cs, -9223372036854775808 ≤ x ∧ x ≤ 9223372036854775807) (hs : Seen w w.heap.size A (ints .i64 syms)) (hwf : ∀ x ∈ syms, (Lit.int .i64 x).wf = true) (hn : syms.length ≤ maxLen) (hcap : syms.length ≤ c) :
    Calls Try.prog 4 #[tabV cs A syms.length c] w fun e w' => e = .returned (.bool true) ∧ Below w.heap.size w w' := by
  have hlen17 : (tabCells cs A syms.length c).length = 17 := tabCells_length hcs
  have hwd := fun w1 h1 hG1 => words_any cs syms A c w.heap.size w1 hcs hn hb h1 hG1
  have hrc := fun w1 h1 hG1 => refCheck_any cs syms A c w.heap.size w1 hcs hn hcap hb h1 hG1
  have hrw := fun l hf w1 h1 hG1 => refTabWords_any cs syms l A c w.heap.size w1 hcs hf h1 hG1
  clear hcs hb hwf hn
  obtain ⟨ys, hys⟩ : ∃ ys, ys = tabCells cs A syms.length c := ⟨_, rfl⟩
  have Hr := veil (range_new w ys 25)
  unfold tabV at hwd hrc hrw ⊢
  rw [← hys] at hlen17 hwd hrc hrw ⊢
  clear hys
  have Hwd := veil hwd; have Hrc := veil hrc; have Hrw := veil hrw; clear hwd hrc hrw
  have H17 := veil hlen17; clear hlen17
  go_enter Try.func4, Try.ntmps4
  go_wp2_with (first
    | (refine wpList_load_mid rfl 25 (.tmp 1) rfl w.heap.size 0 rfl ys _ Hr.out Try.underlying25 rfl (by rw [H17.out]; exact info_tab) ?_)
    | fail)
  refine (Hwd.out _ (hs.alloc (Nat.le_refl _) _) (by simp)).mono ?_
  rintro e w1 ⟨v, rfl, HO, hb1⟩
  have hbel1 : Below w.heap.size w w1 := (below1 _ _).trans (hb1.mono (by simp))
  have hr1 : w1.rangeAt w.heap.size 0 ys := range_below Hr.out hb1 (by simp)
  have Hr1 := veil hr1
  have hz1 := hb1.size
  simp at hz1
  clear Hr hb1 Hwd hr1
  go_wp2_with (first
    | (refine wpList_load_mid rfl 25 (.tmp 1) rfl w.heap.size 0 rfl ys _ Hr1.out Try.underlying25 rfl (by rw [H17.out]; exact info_tab) ?_)
    | fail)
  refine (Hrc.out _ (hs.below hbel1 (Nat.le_refl _)) (by omega)).mono ?_
  rintro e w2 ⟨rfl, hb2⟩
  have hbel2 : Below w.heap.size w w2 := hbel1.trans (hb2.mono (by omega))
  have hr2 : w2.rangeAt w.heap.size 0 ys := range_below Hr1.out hb2 (by omega)
  have Hr2 := veil hr2
  have hz2 := hb2.size
  have HO2 := HO.below hb2
  clear Hr1 hb2 Hrc hr2 HO
  by_cases h0 : checkErr cs syms = 0
  · obtain ⟨l, hf, how, hll⟩ := fine_of h0
    have h256 := hf.good.le
    rw [how] at HO2
    rw [h0]
    have hwl : (mkWords syms l).length = syms.length := by rw [mkWords_length _ _ (by omega), hll]
    obtain ⟨A5, c5, e5, hs5, _, _⟩ := HO2.seen (List.mem_cons_self ..)
    simp only [wordRow] at e5 hs5
    rw [hwl] at e5
    subst e5
    have hrw := Hrw.out l hf w2 (hs.below hbel2 (Nat.le_refl _)) (by omega)
    have Hw := veil hrw; have Hwl := veil hwl
    clear hrw Hrw hf hll how h0 hwl
    go_wp2_with (first
      | (refine wpList_load_mid rfl 25 (.tmp 1) rfl w.heap.size 0 rfl ys _ Hr2.out Try.underlying25 rfl (by rw [H17.out]; exact info_tab) ?_)
      | fail)
    refine Hw.out.mono ?_
    rintro e w3 ⟨v3, rfl, HO3, hb3⟩
    have hbel3 : Below w.heap.size w w3 := hbel2.trans (hb3.mono (by omega))
    obtain ⟨A6, c6, e6, hs6, _, _⟩ := HO3.seen (List.mem_cons_self ..)
    simp only [wordRow] at e6 hs6
    rw [Hwl.out] at e6
    subst e6
    have hE := eqWord A5 A6 c5 c6 w3.heap.size (mkWords syms l) (mkWords syms l) w3 ((hs5.below hb3 (Nat.le_refl _)).up hb3.size) hs6 (Nat.le_refl _) (by rw [Hwl.out]; omega) (by rw [Hwl.out]; omega)
    rw [Hwl.out, decide_eq_true (rfl : mkWords syms l = mkWords syms l)] at hE
    have HE := veil hE
    clear Hw HO2 HO3 hs5 hs6 hE hb3
    go_wp2_with fail
    refine HE.out.mono ?_
    rintro e w4 ⟨rfl, hb4⟩
    have hbel4 : Below w.heap.size w w4 := hbel3.trans (hb4.mono hbel3.size)
    clear HE hb4
    go_wp2_with fail
    refine (bad_any _).mono ?_
    rintro e w5 ⟨A7, rfl, hs7, hb5⟩
    have hbel5 : Below w.heap.size w w5 := hbel4.trans (hb5.mono hbel4.size)
    have HB := veil (badCheck_any A7 w5 hs7)
    clear hs7 hb5
    go_wp2_with fail
    refine HB.out.mono ?_
    rintro e w6 ⟨rfl, hb6⟩
    go_wp2
    go_ret
    exact ⟨rfl, hbel5.trans (hb6.mono hbel5.size)⟩
  · have how := outWords_err h0
    rw [how] at HO2
    obtain ⟨A5, c5, e5, hs5, _, _⟩ := HO2.seen (List.mem_cons_self ..)
    simp only [wordRow, List.length_nil] at e5
    subst e5
    have hne : (checkErr cs syms != 0) = true := by simpa using h0
    clear h0 HO2 how hs5 Hrw
    generalize checkErr cs syms = E at *
    go_wp2_with fail
    refine (bad_any _).mono ?_
    rintro e w5 ⟨A7, rfl, hs7, hb5⟩
    have hbel5 : Below w.heap.size w w5 := hbel2.trans (hb5.mono hbel2.size)
    have HB := veil (badCheck_any A7 w5 hs7)
    clear hs7 hb5
    go_wp2_with fail
    refine HB.out.mono ?_
    rintro e w6 ⟨rfl, hb6⟩
    go_wp2
    go_ret
    exact ⟨rfl, hbel5.trans (hb6.mono hbel5.size)⟩
end Go.Proofs.Ythbcapjccfkldaa
