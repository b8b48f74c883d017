/- StuffJoins: its walk. -/
import Derived.Test.YtnddlehhgholhaaStuffed
namespace Go.Proofs.Ytnddlehhgholhaa
open Go.RowKit
set_option linter.unusedVariables false
set_option linter.unusedSimpArgs false

set_option maxHeartbeats 1000000 in
theorem stuffJoins_walk (A : Option Addr) (c : Nat) (xs : List Int) (B : Option Addr) (d : Nat) (bs : List Int) (w : World) (ha : Seen w w.heap.size A (ints .u8 xs)) (haw : ∀ x ∈ xs, (Lit.int .u8 x).wf = true) (hal : xs.length ≤ maxLen) (hla : xs.length ≤ 1048576)
    (hb : Seen w w.heap.size B (ints .u8 bs)) (hbw : ∀ x ∈ bs, (Lit.int .u8 x).wf = true) (hbl : bs.length ≤ maxLen) (hlb : bs.length ≤ 1048576) :
    Calls Try.prog 8 #[.slice A xs.length c, .slice B bs.length d] w fun e w' => e = .returned (.bool true) ∧ Below w.heap.size w w' := by
  clear haw hbw hal hbl
  have hls := stuffB_length_le xs
  have hlt := stuffB_length_le bs
  have happ := stuffB_append xs bs
  have Happ := veil happ; clear happ
  have hlst : (stuffB (xs ++ bs)).length ≤ 4194304 := by rw [Happ.out]; simp; omega
  go_enter Try.func8, Try.ntmps8
  go_wp2_with (first
    | (at_builtin; go_loud (refine wpList_ownV _ rfl (.const (.slice none 0 0)) (.tmp 6) _ rfl w.heap.size 5 1 1 elem_byte (.slice none 0 0) 0 [] [] rfl ((Owns.start w).fresh _ _) w.heap.size A xs.length c (ints .u8 xs) rfl ha (by simp [ints_length]) ints_one (by unfold maxLen; omega) (by omega) ?_); intro v1 w1 HO1 hb1; have hs1 := hb.below hb1 (Nat.le_refl _); have hz1 := hb1.size)
    | (at_builtin; refine wpList_ownV _ rfl (.tmp 7) (.tmp 8) _ rfl w.heap.size 5 1 1 elem_byte v1 (0 + xs.length) ([] ++ ints .u8 xs) [] rfl HO1 w.heap.size B bs.length d (ints .u8 bs) rfl hs1 (by simp [ints_length]) ints_one (by unfold maxLen; omega) (by omega) ?_; intro v2 w2 HO2 hb2)
    | fail)
  obtain ⟨A2, c2, f2, hs2, _, _⟩ := HO2.seen (List.mem_cons_self ..)
  have e2 : 0 + xs.length + bs.length = (xs ++ bs).length := by simp
  simp only [List.nil_append, ← ints_append, e2] at f2 hs2
  subst f2
  have hbw2 := hb1.trans hb2
  clear HO1 HO2 hs1 e2
  refine (stuff_any _ _ _ (xs ++ bs) _ hs2 (Nat.le_refl _) (by omega)).mono ?_
  rintro e w3 ⟨v3, rfl, HO3, hb3⟩
  obtain ⟨A3, c3, f3, hs3, _, _⟩ := HO3.seen (List.mem_cons_self ..)
  simp only [byteRow, intRow] at f3 hs3
  subst f3
  have hbw3 := hbw2.trans (hb3.mono hbw2.size)
  clear HO3 hs2 hb2 hb3 hb1 hbw2
  go_wp2_with fail
  refine (stuffed_any _).mono ?_
  rintro e w4 ⟨rfl, hb4⟩
  have hbw4 := hbw3.trans (hb4.mono hbw3.size)
  have hs3' := (hs3.below hb4 (Nat.le_refl _)).up hb4.size
  clear hs3 hb4
  go_wp2_with fail
  refine (stuff_any _ _ _ xs _ (ha.below hbw4 (Nat.le_refl _)) hbw4.size (by omega)).mono ?_
  rintro e w5 ⟨v5, rfl, HO5, hb5⟩
  obtain ⟨A5, c5, f5, hs5, _, _⟩ := HO5.seen (List.mem_cons_self ..)
  simp only [byteRow, intRow] at f5 hs5
  subst f5
  have hbw5 := hbw4.trans (hb5.mono hbw4.size)
  have hs3'' := (hs3'.below hb5 (Nat.le_refl _)).up hb5.size
  clear HO5 hs3' hb5
  go_wp2_with (first
    | (at_builtin; go_loud (refine wpList_ownV _ rfl (.const (.slice none 0 0)) (.tmp 15) _ rfl w5.heap.size 5 1 1 elem_byte (.slice none 0 0) 0 [] [] rfl ((Owns.start w5).fresh _ _) w5.heap.size A5 (stuffB xs).length c5 (ints .u8 (stuffB xs)) rfl hs5 (by simp [ints_length]) ints_one (by unfold maxLen; omega) (by omega) ?_); intro v6 w6 HO6 hb6; have hz6 := hb6.size; have hbw6 := hbw5.trans (hb6.mono hbw5.size))
    | fail)
  refine (stuff_any _ _ _ bs _ (hb.below hbw6 (Nat.le_refl _)) hbw6.size (by omega)).mono ?_
  rintro e w7 ⟨v7, rfl, HO7, hb7⟩
  obtain ⟨A7, c7, f7, hs7, _, _⟩ := HO7.seen (List.mem_cons_self ..)
  simp only [byteRow, intRow] at f7 hs7
  subst f7
  have hbw7 := hbw6.trans (hb7.mono hbw6.size)
  have hz7 := hb7.size
  have HO6' := HO6.below hb7
  have hs3a := hs3''.below (hb6.trans (hb7.mono hz6)) (Nat.le_refl _)
  clear HO6 HO7 hs3'' hb6 hb7
  go_wp2_with (first
    | (at_builtin; go_loud (refine wpList_ownV _ rfl (.tmp 16) (.tmp 18) _ rfl w5.heap.size 5 1 1 elem_byte v6 (0 + (stuffB xs).length) ([] ++ ints .u8 (stuffB xs)) [] rfl HO6' w7.heap.size A7 (stuffB bs).length c7 (ints .u8 (stuffB bs)) rfl hs7 (by simp [ints_length]) ints_one (by unfold maxLen; omega) (by omega) ?_); intro v8 w8 HO8 hb8)
    | fail)
  obtain ⟨A8, c8, f8, hs8, _, _⟩ := HO8.seen (List.mem_cons_self ..)
  have e8 : 0 + (stuffB xs).length + (stuffB bs).length = (stuffB (xs ++ bs)).length := by rw [Happ.out]; simp
  simp only [List.nil_append, ← ints_append, e8] at f8 hs8
  rw [← Happ.out] at hs8
  subst f8
  have hs3b := (hs3a.below hb8 (Nat.le_refl _)).up (show w5.heap.size ≤ w8.heap.size by have := hb8.size; omega)
  have hbw8 := hbw7.trans (hb8.mono hbw5.size)
  clear HO8 e8
  refine (eqByte A3 A8 c3 c8 w8.heap.size (stuffB (xs ++ bs)) (stuffB (xs ++ bs)) _ hs3b hs8 (by unfold maxLen; omega) (by unfold maxLen; omega)).mono ?_
  rintro e w9 ⟨rfl, rfl⟩
  rw [decide_eq_true rfl]
  go_wp2
  go_ret
  exact ⟨rfl, hbw8⟩
end Go.Proofs.Ytnddlehhgholhaa
