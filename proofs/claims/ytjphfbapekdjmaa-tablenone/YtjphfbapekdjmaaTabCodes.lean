/- table.Codewords: its contract. -/
import Derived.Test.YtjphfbapekdjmaaTabWords
import Derived.Test.YtjphfbapekdjmaaSymMem
import Derived.Test.YtjphfbapekdjmaaTabEnc
namespace Go.Proofs.Ytjphfbapekdjmaa
open Go.RowKit
set_option linter.unusedVariables false
set_option linter.unusedSimpArgs false
set_option maxRecDepth 100000

set_option maxRecDepth 100000 in
set_option maxHeartbeats 2000000 in
theorem codewords_any (cs syms : List Int) (A : Option Addr) (c G : Nat) (w : World) (hcs : cs.length = 16) (hn : syms.length ≤ maxLen) (hb : ∀ x ∈ cs, -9223372036854775808 ≤ x ∧ x ≤ 9223372036854775807) (hs : Seen w G A (ints .i64 syms)) (hG : G ≤ w.heap.size) :
    Calls Try.prog 20 #[tabV cs A syms.length c] w fun e w' => ∃ v, e = .returned (.tuple #[v, .int .i64 (checkErr cs syms)]) ∧ (checkErr cs syms = 0 → ∃ b, v = .map (some b) ∧ w.heap.size ≤ b ∧ MapF w' b syms.length (symF (outWords cs syms)) (symS (outWords cs syms))) ∧ (checkErr cs syms ≠ 0 → v = .map none) ∧ Below w.heap.size w w' := by
  have hlen17 : (tabCells cs A syms.length c).length = 17 := tabCells_length hcs
  have hck := fun w1 h1 hG1 => words_any cs syms A c G w1 hcs hn hb h1 hG1
  have Hcs := veil hcs
  clear hcs hb
  obtain ⟨ys, hys⟩ : ∃ ys, ys = tabCells cs A syms.length c := ⟨_, rfl⟩
  have Hr := veil (range_new w ys 25)
  unfold tabV at hck ⊢
  rw [← hys] at hlen17 hck ⊢
  clear hys
  have Hck := veil hck; clear hck
  have H17 := veil hlen17; clear hlen17
  go_enter Try.func20, Try.ntmps20
  go_wp2_with (first
    | (refine wpList_load_mid rfl 25 (.tmp 1) rfl w.heap.size 0 rfl ys _ Hr.out Try.underlying25 rfl (by rw [H17.out]; exact info_tab) ?_)
    | fail)
  refine (Hck.out _ (hs.alloc hG _) (by simp; omega)).mono ?_
  rintro e w1 ⟨v, rfl, HO, hb1⟩
  have hbel1 : Below w.heap.size w w1 := (below1 _ _).trans (hb1.mono (by simp))
  have hz1 := hb1.size
  simp at hz1
  clear Hr hb1
  by_cases h0 : checkErr cs syms = 0
  · rw [h0]
    have H0 := veil h0
    obtain ⟨l, hf, how, hll⟩ := fine_of h0
    have h256 := hf.good.le
    rw [how] at HO
    have hwl : (mkWords syms l).length = syms.length := by rw [mkWords_length _ _ (by omega), hll]
    have hwf : ∀ t ∈ mkWords syms l, WF t.1 := fun t ht => (fi_small hf Hcs.out ht).1
    obtain ⟨A5, c5, e5, hs5, _, _⟩ := HO.seen (List.mem_cons_self ..)
    simp only [wordRow] at e5 hs5
    rw [hwl] at e5
    subst e5
    have hby := bySymbol_any A5 c5 w1.heap.size (mkWords syms l) w1 hs5 (Nat.le_refl _) (by rw [hwl]; omega) hwf
    rw [hwl] at hby
    have Hby := veil hby
    have How := veil how
    clear hby hwf hwl hll hf how HO hs5 h0
    go_wp2_with fail
    refine Hby.out.mono ?_
    rintro e w2 ⟨b, rfl, hbb, HM, hb2⟩
    rw [← How.out] at HM
    have hbel2 := hbel1.trans (hb2.mono hbel1.size)
    have hbb2 : w.heap.size ≤ b := by omega
    clear Hby hb2
    go_wp2
    go_ret2
    exact ⟨_, ret_two rfl (by rw [H0.out]; rfl), fun _ => ⟨b, rfl, hbb2, HM⟩, fun h => absurd H0.out h, hbel2⟩
  · have hne : (checkErr cs syms != 0) = true := by simpa using h0
    have H0 := veil h0
    clear h0 Hck HO
    obtain ⟨E, hE⟩ : ∃ E, E = checkErr cs syms := ⟨_, rfl⟩
    rw [← hE] at hne ⊢
    have HE := veil hE
    clear hE
    go_wp2
    go_ret2
    exact ⟨_, ret_two rfl (by rw [← HE.out]; rfl), fun h => absurd h H0.out, fun _ => rfl, hbel1⟩
end Go.Proofs.Ytjphfbapekdjmaa
