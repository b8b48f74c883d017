/- table.Words: its contract. -/
import Derived.Test.YtjphfbapekdjmaaTabCheck
namespace Go.Proofs.Ytjphfbapekdjmaa
open Go.RowKit
set_option linter.unusedVariables false
set_option linter.unusedSimpArgs false
set_option maxRecDepth 100000

/-- The words that Words hands back. -/
def outWords (cs syms : List Int) : List (Int × Nat × Nat) := if checkErr cs syms = 0 then tabWords (nats cs) syms else []
theorem outWords_err {cs syms : List Int} (h : checkErr cs syms ≠ 0) : outWords cs syms = [] := by unfold outWords; rw [if_neg h]
theorem outWords_ok {cs syms : List Int} (h : checkErr cs syms = 0) : outWords cs syms = tabWords (nats cs) syms := by unfold outWords; rw [if_pos h]
theorem fine_of {cs syms : List Int} (h : checkErr cs syms = 0) : ∃ l, Fine cs syms l ∧ outWords cs syms = mkWords syms l ∧ l.length = syms.length := by
  obtain ⟨h1, h2, h3, h4⟩ := checkErr_zero h
  obtain ⟨l, hl⟩ := Option.isSome_iff_exists.1 h3
  exact ⟨l, ⟨h1, h2, hl, h4⟩, by rw [outWords_ok h]; unfold tabWords; rw [hl]; rfl, (codes_length hl).trans h1.sum⟩

set_option maxRecDepth 100000 in
set_option maxHeartbeats 2000000 in
theorem words_any (cs syms : List Int) (A : Option Addr) (c G : Nat) (w : World) (hcs : cs.length = 16) (hn : syms.length ≤ maxLen) (hb : ∀ x ∈ cs, -9223372036854775808 ≤ x ∧ x ≤ 9223372036854775807) (hs : Seen w G A (ints .i64 syms)) (hG : G ≤ w.heap.size) :
    Calls Try.prog 33 #[tabV cs A syms.length c] w fun e w' => ∃ v, e = .returned (.tuple #[v, .int .i64 (checkErr cs syms)]) ∧ Owns w.heap.size [wordRow v (outWords cs syms)] w' ∧ Below w.heap.size w w' := by
  have hlen17 : (tabCells cs A syms.length c).length = 17 := tabCells_length hcs
  have hck := fun w1 h1 hG1 => check_any cs syms A c G w1 hcs hn hb h1 hG1
  have has : Hid (Good cs syms.length → ∀ w1, Seen w1 G A (ints .i64 syms) → G ≤ w1.heap.size → Calls Try.prog 26 #[tabV cs A syms.length c] w1 fun e w' => ∃ v, e = .returned (.tuple #[v, .bool (codes (nats cs)).isSome]) ∧ Owns w1.heap.size [wordRow v (tabWords (nats cs) syms)] w' ∧ Below w1.heap.size w1 w') := by
    show _ → _
    intro hg w1 hs1 hG1
    have := assign_any (nats cs) syms A c G w1 (by rw [nats_length]; exact hcs) hg.sum hg.le hs1 hG1
    rw [natI_nats hg.1] at this
    exact this
  clear hcs hb
  obtain ⟨xs, hxs⟩ : ∃ xs, xs = tabCells cs A syms.length c := ⟨_, rfl⟩
  have Hr := veil (range_new w xs 25)
  unfold tabV at hck has ⊢
  rw [← hxs] at hlen17 hck has ⊢
  clear hxs
  have Hck := veil hck; clear hck
  have H17 := veil hlen17; clear hlen17
  go_enter Try.func33, Try.ntmps33
  go_wp2_with (first
    | (refine wpList_load_mid rfl 25 (.tmp 1) rfl w.heap.size 0 rfl xs _ Hr.out Try.underlying25 rfl (by rw [H17.out]; exact info_tab) ?_)
    | fail)
  refine (Hck.out _ (hs.alloc hG _) (by simp; omega)).mono ?_
  rintro e w1 ⟨rfl, hb1⟩
  have hr1 : w1.rangeAt w.heap.size 0 xs := range_below Hr.out hb1 (by simp)
  have hbel1 : Below w.heap.size w w1 := (below1 _ _).trans (hb1.mono (by simp))
  have hz1 := hb1.size
  simp at hz1
  have Hr1 := veil hr1
  clear Hr hr1 hb1
  by_cases h0 : checkErr cs syms = 0
  · obtain ⟨hg, _, hco, _⟩ := checkErr_zero h0
    have Hg := veil hg; have Hco := veil hco; have Ho := veil (outWords_ok h0)
    have H0 := veil h0
    clear hg hco
    rw [h0]
    go_wp2_with (first
      | (refine wpList_load_mid rfl 25 (.tmp 1) rfl w.heap.size 0 rfl xs _ Hr1.out Try.underlying25 rfl (by rw [H17.out]; exact info_tab) ?_)
      | fail)
    refine (has.out Hg.out _ (hs.below hbel1 hG) (by omega)).mono ?_
    rintro e w2 ⟨v, rfl, HO, hb2⟩
    go_wp2
    go_ret2
    exact ⟨v, ret_two rfl (by rw [H0.out]; rfl), by rw [Ho.out]; exact HO.down (by omega), hbel1.trans (hb2.mono (by omega))⟩
  · have Ho := veil (outWords_err h0)
    have hne : (checkErr cs syms != 0) = true := by simpa using h0
    clear h0
    obtain ⟨E, hE⟩ : ∃ E, E = checkErr cs syms := ⟨_, rfl⟩
    rw [← hE] at hne ⊢
    have HE := veil hE; clear hE
    go_wp2
    go_ret2
    exact ⟨_, ret_two rfl (by rw [← HE.out]; rfl), by rw [Ho.out]; exact (Owns.nil hbel1.size).fresh _ _, hbel1⟩
end Go.Proofs.Ytjphfbapekdjmaa
