/- StuffBack: its walk. -/
import Derived.Test.YtnddlehhgholhaaStuffed
namespace Go.Proofs.Ytnddlehhgholhaa
open Go.RowKit
set_option linter.unusedVariables false
set_option linter.unusedSimpArgs false

theorem stuff1_bytes {x : Int} (h : 0 ≤ x ∧ x ≤ 255) : ∀ y ∈ stuff1 x, 0 ≤ y ∧ y ≤ 255 := by
  intro y hy
  unfold stuff1 at hy
  split at hy
  · simp at hy; omega
  · simp at hy; omega
theorem stuffB_bytes {bs : List Int} (h : ∀ x ∈ bs, 0 ≤ x ∧ x ≤ 255) : ∀ y ∈ stuffB bs, 0 ≤ y ∧ y ≤ 255 := by
  intro y hy
  obtain ⟨x, hx, hy⟩ := List.mem_flatMap.1 hy
  exact stuff1_bytes (h x hx) y hy
theorem plain_stuff (bs : List Int) : plainOut (stuffB bs) = bs ∧ plainErr (stuffB bs) = 0 := plain_some (plainR_stuffB bs)
theorem split_stuff (bs : List Int) : splitP (stuffB bs) = [stuffB bs] ∧ splitM (stuffB bs) = [] ∧ splitErr (stuffB bs) = 0 := split_some (splitR_stuffB bs [])

set_option maxHeartbeats 1000000 in
theorem stuffBack_walk (A : Option Addr) (c : Nat) (bs : List Int) (w : World) (hb : Seen w w.heap.size A (ints .u8 bs)) (hbw : ∀ x ∈ bs, (Lit.int .u8 x).wf = true) (hbl : bs.length ≤ maxLen) (hl : bs.length ≤ 1048576) :
    Calls Try.prog 5 #[.slice A bs.length c] w fun e w' => e = .returned (.bool true) ∧ Below w.heap.size w w' := by
  have hsb : ∀ y ∈ stuffB bs, 0 ≤ y ∧ y ≤ 255 := stuffB_bytes fun x hx => bounds_u8 (hbw x hx)
  obtain ⟨p1, p2⟩ := plain_stuff bs
  obtain ⟨q1, q2, q3⟩ := split_stuff bs
  have hsl : (stuffB bs).length ≤ 2097152 := by have := stuffB_length_le bs; omega
  go_enter Try.func5, Try.ntmps5
  go_wp2_with fail
  refine (stuffed_any _).mono ?_
  rintro e w1 ⟨rfl, hb1⟩
  go_wp2_with fail
  refine (stuff_any _ _ _ bs _ (hb.below hb1 (Nat.le_refl _)) hb1.size (by omega)).mono ?_
  rintro e w2 ⟨v2, rfl, HO2, hb2⟩
  obtain ⟨A2, c2, f2, hs2, _, _⟩ := HO2.seen (List.mem_cons_self ..)
  simp only [byteRow, intRow] at f2 hs2
  subst f2
  clear HO2
  have hbw2 := hb1.trans (hb2.mono hb1.size)
  clear hb1 hb2 hbw
  generalize stuffB bs = S at *
  go_wp2_with fail
  refine (plain_any _ _ _ S _ hs2 (Nat.le_refl _) (by omega)).mono ?_
  rintro e w3 ⟨v3, rfl, HO3, hb3⟩
  obtain ⟨A3, c3, f3, hs3, _, _⟩ := HO3.seen (List.mem_cons_self ..)
  simp only [byteRow, intRow, p1] at f3 hs3
  subst f3
  rw [p2]
  clear HO3 p1 p2
  have hs2' := hs2.below hb3 (Nat.le_refl _)
  have hz3 := hb3.size
  have hbw3 := hbw2.trans (hb3.mono hbw2.size)
  go_wp2_with fail
  refine (split_any _ _ _ S _ hs2' hz3 (by omega) hsb).mono ?_
  rintro e w4 ⟨vs, v4, m4, rfl, hvs, HO4, hb4⟩
  rw [q1] at hvs
  rw [q1, q2] at HO4
  rw [q3]
  clear q1 q2 q3
  obtain ⟨u, rfl⟩ : ∃ u, vs = [u] := by
    match vs, hvs with
    | [u], _ => exact ⟨u, rfl⟩
  obtain ⟨A4, c4, f4, hs4, _, _⟩ := HO4.seen (List.mem_cons_self ..)
  obtain ⟨A5, c5, f5, _, _, _⟩ := HO4.tail.seen (List.mem_cons_self ..)
  obtain ⟨A6, c6, f6, hs6, _, _⟩ := HO4.tail.tail.seen (List.mem_cons_self ..)
  simp only [pileRow, numRow, byteRow, intRow] at f4 hs4 f5 f6 hs6
  subst f4 f5 f6
  obtain ⟨g, o, rfl, hg, h0⟩ := hs4.cell (k := 0) rfl
  rw [Nat.add_zero] at h0
  have hbw4 := hbw3.trans (hb4.mono hbw3.size)
  have hz4 := hb4.size
  clear HO4 hvs hs4
  go_wp2_with fail
  refine (eqByte A3 A c3 c w4.heap.size bs bs _ ((hs3.below hb4 (Nat.le_refl _)).up hz4) ((hb.below hbw4 (Nat.le_refl _)).up hbw4.size) (by unfold maxLen; omega) (by unfold maxLen; omega)).mono ?_
  rintro e w5 ⟨rfl, rfl⟩
  rw [decide_eq_true rfl]
  go_wp2_with fail
  refine (eqByte A6 A2 c6 c2 w4.heap.size S S _ hs6 ((hs2'.below hb4 hz3).up (by omega)) (by unfold maxLen; omega) (by unfold maxLen; omega)).mono ?_
  rintro e w5 ⟨rfl, rfl⟩
  rw [decide_eq_true rfl]
  go_wp2
  go_ret
  exact ⟨rfl, hbw4⟩
end Go.Proofs.Ytnddlehhgholhaa
