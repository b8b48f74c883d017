/- StuffTells: its walk. -/
import Derived.Test.YtnddlehhgholhaaRefStuff
import Derived.Test.YtnddlehhgholhaaEqByte
namespace Go.Proofs.Ytnddlehhgholhaa
open Go.RowKit
set_option linter.unusedVariables false
set_option linter.unusedSimpArgs false

theorem plainOut_le (bs : List Int) : (plainOut bs).length ≤ bs.length := by
  cases h : plainR bs with
  | none => rw [(plain_none h).1]; simp
  | some p =>
    rw [(plain_some h).1]
    have := length_le_stuffB p
    rw [stuffB_plainR bs p h] at this
    exact this
set_option maxHeartbeats 1000000 in
theorem stuffTells_walk (A : Option Addr) (c : Nat) (bs : List Int) (w : World) (hb : Seen w w.heap.size A (ints .u8 bs)) (hbw : ∀ x ∈ bs, (Lit.int .u8 x).wf = true) (hbl : bs.length ≤ maxLen) (hl : bs.length ≤ 1048576) :
    Calls Try.prog 3 #[.slice A bs.length c] w fun e w' => e = .returned (.bool true) ∧ Below w.heap.size w w' := by
  clear hbw
  have hsl := stuffB_length_le bs
  have hpl := plainOut_le bs
  go_enter Try.func3, Try.ntmps3
  go_wp2_with fail
  refine (plain_any _ _ _ bs _ hb (Nat.le_refl _) (by omega)).mono ?_
  rintro e w1 ⟨v1, rfl, HO1, hb1⟩
  obtain ⟨A1, c1, f1, hs1, _, _⟩ := HO1.seen (List.mem_cons_self ..)
  simp only [byteRow, intRow] at f1 hs1
  subst f1
  clear HO1
  go_wp2_with fail
  refine (refPlain_any _ _ _ bs _ (hb.below hb1 (Nat.le_refl _)) hb1.size (by omega)).mono ?_
  rintro e w2 ⟨v2, rfl, HO2, hb2⟩
  obtain ⟨A2, c2, f2, hs2, _, _⟩ := HO2.seen (List.mem_cons_self ..)
  simp only [byteRow, intRow] at f2 hs2
  subst f2
  have hbw2 := hb1.trans (hb2.mono hb1.size)
  have hs1a := (hs1.below hb2 (Nat.le_refl _)).up hb2.size
  clear HO2 hs1 hb1 hb2
  go_wp2_with fail
  have s3 : Seen (w2.alloc (Obj.cells #[.int .u8 255] 5)) (w2.heap.size + 1) (some ⟨w2.heap.size, 0, none⟩) (ints .u8 [255]) := Seen.new w2 (ints .u8 [255]) _ _ (by omega)
  refine (plain_any _ 1 _ [255] _ s3 (by simp) (by show 1 ≤ _; omega)).mono ?_
  rintro e w3 ⟨v3, rfl, HO3, hb3⟩
  have e3 : plainErr [255] = 4 := by decide
  rw [e3]
  have hb23 : Below w2.heap.size w2 w3 := (below1 _ _).trans (hb3.mono (by simp))
  have hbw3 := hbw2.trans (hb23.mono hbw2.size)
  have hs1b := (hs1a.below hb23 (Nat.le_refl _)).up hb23.size
  have hs2b := (hs2.below hb23 (Nat.le_refl _)).up hb23.size
  clear e3 s3 HO3 hb3 hb23 hs1a hs2 hbw2
  generalize plainErr bs = E at *
  have hE : (E == E) = true := by simp
  go_wp2_with fail
  refine (stuff_any _ _ _ bs _ (hb.below hbw3 (Nat.le_refl _)) hbw3.size (by omega)).mono ?_
  rintro e w4 ⟨v4, rfl, HO4, hb4⟩
  obtain ⟨A4, c4, f4, hs4, _, _⟩ := HO4.seen (List.mem_cons_self ..)
  simp only [byteRow, intRow] at f4 hs4
  subst f4
  have hbw4 := hbw3.trans (hb4.mono hbw3.size)
  have hs1c := (hs1b.below hb4 (Nat.le_refl _)).up hb4.size
  have hs2c := (hs2b.below hb4 (Nat.le_refl _)).up hb4.size
  clear HO4 hb4 hs1b hs2b hbw3
  go_wp2_with fail
  refine (refStuff_any _ _ _ bs _ (hb.below hbw4 (Nat.le_refl _)) hbw4.size (by omega)).mono ?_
  rintro e w5 ⟨v5, rfl, HO5, hb5⟩
  obtain ⟨A5, c5, f5, hs5, _, _⟩ := HO5.seen (List.mem_cons_self ..)
  simp only [byteRow, intRow] at f5 hs5
  subst f5
  have hbw5 := hbw4.trans (hb5.mono hbw4.size)
  have hs4d := (hs4.below hb5 (Nat.le_refl _)).up hb5.size
  have hs1d := (hs1c.below hb5 (Nat.le_refl _)).up hb5.size
  have hs2d := (hs2c.below hb5 (Nat.le_refl _)).up hb5.size
  clear HO5 hb5 hs1c hs2c hs4 hbw4
  go_wp2_with fail
  refine (eqByte A4 A5 c4 c5 _ (stuffB bs) (stuffB bs) _ hs4d hs5 (by unfold maxLen; omega) (by unfold maxLen; omega)).mono ?_
  rintro e w6 ⟨rfl, rfl⟩
  rw [decide_eq_true rfl]
  go_wp2_with fail
  refine (eqByte A1 A2 c1 c2 _ (plainOut bs) (plainOut bs) _ hs1d hs2d (by unfold maxLen; omega) (by unfold maxLen; omega)).mono ?_
  rintro e w6 ⟨rfl, rfl⟩
  rw [decide_eq_true rfl]
  go_wp2
  go_ret
  exact ⟨rfl, hbw5⟩
end Go.Proofs.Ytnddlehhgholhaa
