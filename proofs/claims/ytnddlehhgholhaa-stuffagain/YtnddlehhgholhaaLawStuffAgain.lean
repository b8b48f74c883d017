/- StuffAgain: its walk. -/
import Derived.Test.YtnddlehhgholhaaStuffed
namespace Go.Proofs.Ytnddlehhgholhaa
open Go.RowKit
set_option linter.unusedVariables false
set_option linter.unusedSimpArgs false

set_option maxHeartbeats 1000000 in
theorem stuffAgain_walk (A : Option Addr) (c : Nat) (bs : List Int) (w : World) (hb : Seen w w.heap.size A (ints .u8 bs)) (hbw : ∀ x ∈ bs, (Lit.int .u8 x).wf = true) (hbl : bs.length ≤ maxLen) (hl : bs.length ≤ 140737488355328) :
    Calls Try.prog 6 #[.slice A bs.length c] w fun e w' => e = .returned (.bool true) ∧ Below w.heap.size w w' := by
  clear hbw
  go_enter Try.func6, Try.ntmps6
  go_wp2_with fail
  refine (stuffed_any _).mono ?_
  rintro e w1 ⟨rfl, hb1⟩
  go_wp2_with fail
  refine (plain_any _ _ _ bs _ (hb.below hb1 (Nat.le_refl _)) hb1.size hl).mono ?_
  rintro e w2 ⟨v2, rfl, HO2, hb2⟩
  obtain ⟨A2, c2, f2, hs2, _, _⟩ := HO2.seen (List.mem_cons_self ..)
  simp only [byteRow, intRow] at f2 hs2
  subst f2
  have hbw2 := hb1.trans (hb2.mono hb1.size)
  clear HO2 hb1 hb2
  cases hp : plainR bs with
  | none =>
    obtain ⟨p1, p2⟩ := plain_none hp
    rw [p1, p2]
    clear hs2 p1 p2 hp
    go_wp2
    go_ret
    exact ⟨rfl, hbw2⟩
  | some p =>
    obtain ⟨p1, p2⟩ := plain_some hp
    rw [p1] at hs2
    rw [p1, p2]
    have hst := stuffB_plainR bs p hp
    have hpl : p.length ≤ bs.length := by have := length_le_stuffB p; rw [hst] at this; exact this
    clear hp p1 p2
    go_wp2_with fail
    refine (stuff_any _ _ _ p _ hs2 (Nat.le_refl _) (by rw [hst]; exact hl)).mono ?_
    rintro e w3 ⟨v3, rfl, HO3, hb3⟩
    rw [hst] at HO3
    obtain ⟨A3, c3, f3, hs3, _, _⟩ := HO3.seen (List.mem_cons_self ..)
    simp only [byteRow, intRow] at f3 hs3
    subst f3
    have hbw3 := hbw2.trans (hb3.mono hbw2.size)
    clear HO3 hst
    go_wp2_with (go_at_call 12; refine (eqByte A3 A c3 c w3.heap.size bs bs _ hs3 ((hb.below hbw3 (Nat.le_refl _)).up hbw3.size) hbl hbl).mono ?_; rintro e w5 ⟨rfl, rfl⟩)
    go_ret
    exact ⟨ret_bool (by simp), hbw3⟩
end Go.Proofs.Ytnddlehhgholhaa
