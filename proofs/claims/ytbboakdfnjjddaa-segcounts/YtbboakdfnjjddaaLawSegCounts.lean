/- The law on Counts, walked. -/
import Derived.Test.YtbboakdfnjjddaaBd9
namespace Go.Proofs.Ytbboakdfnjjddaa
open Go.RowKit
set_option linter.unusedVariables false
set_option linter.unusedSimpArgs false
set_option maxRecDepth 100000

theorem cnt_form {w : World} {B : Nat} {v1 v2 : Value} {X Y : List Int} (h : Owns B [intRow 3 .i64 v1 X, intRow 3 .i64 v2 Y] w) : ∃ A1 c1 A2 c2, v1 = .slice A1 X.length c1 ∧ v2 = .slice A2 Y.length c2 ∧ Seen w w.heap.size A1 (ints .i64 X) ∧ Seen w w.heap.size A2 (ints .i64 Y) := by
  obtain ⟨A1, c1, e1, h1, _, _⟩ := h.seen (List.mem_cons_self ..)
  obtain ⟨A2, c2, e2, h2, _, _⟩ := h.seen (List.mem_cons_of_mem _ (List.mem_cons_self ..))
  exact ⟨A1, c1, A2, c2, e1, e2, h1, h2⟩
set_option maxRecDepth 100000 in
set_option maxHeartbeats 4000000 in
theorem segCounts_walk (A : Option Addr) (c : Nat) (L : List (List Int)) (w : World) (hs : Seen w w.heap.size A (rowsC L)) (hl : ∀ r ∈ L, r.length = 64) (hm : L.length ≤ maxLen) :
    Calls Try.prog 3 #[.slice A L.length c] w fun e w' => e = .returned (.bool true) ∧ Below w.heap.size w w' := by
  have H1 := veil (segCounts_any L A c w.heap.size w hl hm (fun _ => hs) (Nat.le_refl _))
  have H2 := veil (fun W h hG => blocksCheck_any L A c w.heap.size W hl hm h hG)
  have H3 := veil (fun A' c' W => segCounts_any (List.replicate 401 zero64) A' c' W.heap.size W (fun r hr => by rw [(List.mem_replicate.1 hr).2]; exact zero64_length) (by rw [List.length_replicate]; unfold maxLen; omega) (fun h => by rw [List.length_replicate] at h; omega) (Nat.le_refl _))
  have e3 : eL (List.replicate 401 zero64) = 2 := eL_large (by rw [List.length_replicate]; omega)
  rw [e3, List.length_replicate] at H3
  have H4 := veil (fun (h0 : eL L = 0) W h hG => refCounts_any L A c w.heap.size W hl (eL_zero h0).1 (eL_zero h0).2 h hG)
  have Hs := veil hs
  obtain ⟨E, hE⟩ : ∃ E, E = eL L := ⟨_, rfl⟩
  rw [← hE] at H1 H2
  have HX : Hid (E ≠ 0 → cntL true L = [] ∧ cntL false L = []) := fun h => ⟨if_neg (by rw [← hE]; exact h), if_neg (by rw [← hE]; exact h)⟩
  have HX0 : Hid (E = 0 → cntL true L = tally true (toksB 0 L) ∧ cntL false L = tally false (toksB 0 L)) := fun h => ⟨if_pos (by rw [← hE]; exact h), if_pos (by rw [← hE]; exact h)⟩
  have HE := veil hE
  clear hs hE e3
  go_enter Try.func3, Try.ntmps3
  go_wp2_with fail
  refine H1.out.mono ?_
  rintro e w1 ⟨v1, v2, rfl, HO1, hb1⟩
  obtain ⟨A1, c1, A2, c2, rfl, rfl, s1, s2⟩ := cnt_form HO1
  have hz1 := hb1.size
  clear H1 HO1
  go_wp2_with fail
  refine (H2.out w1 (Hs.out.below hb1 (Nat.le_refl _)) hz1).mono ?_
  rintro e w2 ⟨rfl, hb2⟩
  have hbw2 := hb1.trans (hb2.mono hz1)
  have s1b := s1.below hb2 (Nat.le_refl _)
  have s2b := s2.below hb2 (Nat.le_refl _)
  have hz2 := hb2.size
  obtain ⟨cur, hmk⟩ := run_make401 w2
  have hb3 := below1 w2 (.cells cur 47)
  have hz3 : (w2.alloc (.cells cur 47)).heap.size = w2.heap.size + 1 := by simp
  have s1c := s1b.below hb3 (by omega)
  have s2c := s2b.below hb3 (by omega)
  have hbw3 := hbw2.trans (hb3.mono (by omega))
  clear s1 s2 s1b s2b H2 hb1 hb2 hb3 hbw2
  go_wp2_with fail
  refine (H3.out (some ⟨w2.heap.size, 0, none⟩) 401 _).mono ?_
  rintro e w4 ⟨v3, v4, rfl, HO4, hb4⟩
  obtain ⟨A3, c3, A4, c4, rfl, rfl, _, _⟩ := cnt_form HO4
  rw [hz3] at hb4
  have s1d := s1c.below hb4 (by omega)
  have s2d := s2c.below hb4 (by omega)
  have hz4 := hb4.size
  have hbw4 := hbw3.trans (hb4.mono (by omega))
  rw [hz3] at hz4
  clear s1c s2c hmk hbw3 hb4 HO4 H3
  by_cases h0 : E = 0
  · subst h0
    obtain ⟨hX, hY⟩ := HX0.out rfl
    rw [hX] at s1d
    rw [hY] at s2d
    rw [hX, hY]
    have hl1 := tally_length true (toksB 0 L)
    have hl2 := tally_length false (toksB 0 L)
    have HR := veil (H4.out HE.out.symm w4 (Hs.out.below hbw4 (Nat.le_refl _)) (by omega))
    clear hX hY H4
    obtain ⟨X, hX⟩ : ∃ X, X = tally true (toksB 0 L) := ⟨_, rfl⟩
    obtain ⟨Y, hY⟩ : ∃ Y, Y = tally false (toksB 0 L) := ⟨_, rfl⟩
    rw [← hX] at s1d hl1 HR ⊢
    rw [← hY] at s2d hl2 HR ⊢
    clear hX hY
    have Hl1 := veil hl1
    have Hl2 := veil hl2
    clear hl1 hl2
    go_wp2_with fail
    refine HR.out.mono ?_
    rintro e w5 ⟨v5, v6, rfl, HO5, hb5⟩
    obtain ⟨A5, c5, A6, c6, rfl, rfl, s5, s6⟩ := cnt_form HO5
    have hz5 := hb5.size
    have s1e := (s1d.below hb5 (by omega)).up (B' := w5.heap.size) (by omega)
    have s2e := (s2d.below hb5 (by omega)).up (B' := w5.heap.size) (by omega)
    have hbw5 := hbw4.trans (hb5.mono (by omega))
    have HA := veil (eqInt A1 A5 c1 c5 w5.heap.size X X w5 s1e s5 (by have := Hl1.out; unfold maxLen; omega) (by have := Hl1.out; unfold maxLen; omega))
    have HB := veil (eqInt A2 A6 c2 c6 w5.heap.size Y Y w5 s2e s6 (by have := Hl2.out; unfold maxLen; omega) (by have := Hl2.out; unfold maxLen; omega))
    rw [decide_eq_true rfl] at HA HB
    clear s1e s2e s5 s6 s1d s2d hb5 HO5 HR
    go_wp2_with fail
    refine HA.out.mono ?_
    rintro e w6 ⟨rfl, rfl⟩
    go_wp2_with fail
    refine HB.out.mono ?_
    rintro e w6 ⟨rfl, rfl⟩
    go_wp2_with fail
    go_ret
    exact ⟨rfl, hbw5⟩
  · obtain ⟨hX, hY⟩ := HX.out h0
    rw [hX, hY]
    have hne : (E != 0) = true := by simpa using h0
    clear s1d s2d hX hY h0
    go_wp2_with fail
    go_ret
    exact ⟨rfl, hbw4⟩
end Go.Proofs.Ytbboakdfnjjddaa
