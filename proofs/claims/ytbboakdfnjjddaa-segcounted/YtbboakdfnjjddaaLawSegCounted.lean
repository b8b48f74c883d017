/- The law on how many symbols Counts counts, walked. -/
import Derived.Test.YtbboakdfnjjddaaBd12
import Derived.Test.YtbboakdfnjjddaaBd5
namespace Go.Proofs.Ytbboakdfnjjddaa
open Go.RowKit
set_option linter.unusedVariables false
set_option linter.unusedSimpArgs false
set_option maxRecDepth 100000

theorem restT_some : ∀ (zs : List Int) (r : Nat), (zs ≠ [] ∨ r ≠ 0) → 1 ≤ (restT r zs).length
  | [], r, h => by
    rw [restT_nil, if_neg (by rcases h with h | h; exact absurd rfl h; exact h)]; simp
  | z :: zs, r, _ => by
    by_cases h0 : z = 0
    · subst h0
      rw [restT_zero]
      exact restT_some zs (r + 1) (.inr (by omega))
    · rw [restT_cons r zs h0]; simp; omega
theorem flag_first : ∀ (l : List (Int × Int × Int)), l ≠ [] → ((flagT l).filter fun x => x.1 = true).length = 1 ∧ ((flagT l).filter fun x => x.1 = false).length = l.length - 1
  | [], h => absurd rfl h
  | t :: l, _ => by
    have h1 : (l.map fun t => (false, t)).filter (fun x : Bool × Int × Int × Int => decide (x.1 = true)) = [] := by
      rw [List.filter_eq_nil_iff]; intro x hx; obtain ⟨t, _, rfl⟩ := List.mem_map.1 hx; simp
    have h2 : (l.map fun t => (false, t)).filter (fun x : Bool × Int × Int × Int => decide (x.1 = false)) = l.map fun t => (false, t) := by
      rw [List.filter_eq_self]; intro x hx; obtain ⟨t, _, rfl⟩ := List.mem_map.1 hx; simp
    unfold flagT
    rw [List.filter_cons_of_pos (by simp), h1, List.filter_cons_of_neg (by simp), h2]
    simp
theorem toksB_kinds : ∀ (L : List (List Int)) (b : Int), (∀ r ∈ L, r.length = 64) →
    ((toksB b L).filter fun x => x.1 = true).length = L.length ∧ L.length ≤ ((toksB b L).filter fun x => x.1 = false).length ∧ ((toksB b L).filter fun x => x.1 = false).length ≤ 63 * L.length
  | [], b, _ => by simp [toksB]
  | r :: L, b, h => by
    obtain ⟨h1, h2, h3⟩ := toksB_kinds L (r.headD 0) fun x hx => h x (List.mem_cons_of_mem _ hx)
    have h4 := toks_len b (toL_length r)
    have h5 : 2 ≤ (toksZ b (toL r)).length := by
      have hl := toL_length r
      match hz : toL r, hl with
      | z :: zs, hl =>
        rw [toksZ]
        have := restT_some zs 0 (.inl (by intro e; subst e; simp at hl))
        simp only [List.length_cons]; omega
    have h6 := flag_first (toksZ b (toL r)) (by intro e; rw [e] at h5; simp at h5)
    simp only [toksB, List.filter_append, List.length_append, List.length_cons]
    omega
theorem sums_of {L : List (List Int)} (hl : ∀ r ∈ L, r.length = 64) (h0 : eL L = 0) :
    (tally true (toksB 0 L)).sum = (L.length : Int) ∧ (L.length : Int) ≤ (tally false (toksB 0 L)).sum ∧ (tally false (toksB 0 L)).sum ≤ 63 * (L.length : Int) ∧ L.length ≤ 400 := by
  obtain ⟨h400, hin⟩ := eL_zero h0
  have hg := toksB_good L 0 hl hin (by omega)
  obtain ⟨h1, h2, h3⟩ := toksB_kinds L 0 hl
  rw [tally_sum true _ hg, tally_sum false _ hg]
  omega
theorem sum_take {X : List Int} (h : ∀ x ∈ X, 0 ≤ x) (k : Nat) : 0 ≤ (X.take k).sum ∧ (X.take k).sum ≤ X.sum := by
  have h1 : ∀ l : List Int, (∀ x ∈ l, 0 ≤ x) → 0 ≤ l.sum := by
    intro l
    induction l with
    | nil => intro _; simp
    | cons x l ih =>
      intro h
      have h1 := h x (by simp)
      have h2 := ih fun y hy => h y (by simp [hy])
      simp only [List.sum_cons]; omega
  have h2 := h1 _ fun x hx => h x (List.mem_of_mem_take (i := k) hx)
  have h3 := h1 _ fun x hx => h x (List.mem_of_mem_drop (i := k) hx)
  have h4 : X.sum = (X.take k).sum + (X.drop k).sum := by rw [← List.sum_append, List.take_append_drop]
  omega
theorem sum_snoc {X : List Int} {k : Nat} {x : Int} (h : X[k]? = some x) : (X.take (k + 1)).sum = (X.take k).sum + x := by
  rw [take_snoc h]; simp
set_option maxRecDepth 100000 in
theorem may_any (L : List (List Int)) (A : Option Addr) (c G : Nat) (w : World) (hl : ∀ r ∈ L, r.length = 64) (hm : L.length ≤ maxLen) (hs : Seen w G A (rowsC L)) (hG : G ≤ w.heap.size) :
    Calls Try.prog 23 #[.slice A L.length c] w fun e w' => e = .returned (.bool (eL L == 0)) ∧ Below w.heap.size w w' := by
  have H := veil (blocksCheck_any L A c G w hl hm hs hG)
  obtain ⟨E, hE⟩ : ∃ E, E = eL L := ⟨_, rfl⟩
  rw [← hE] at H ⊢
  obtain ⟨q, hq⟩ : ∃ q, q = (E == 0) := ⟨_, rfl⟩
  rw [← hq]
  have Hq := veil hq
  clear hs hE hq
  go_enter Try.func23, Try.ntmps23
  go_wp2_with fail
  refine H.out.mono ?_
  rintro e w1 ⟨rfl, hb⟩
  go_wp2
  go_ret
  exact ⟨by rw [Hq.out]; rfl, hb⟩
set_option maxRecDepth 100000 in
set_option maxHeartbeats 4000000 in
theorem segCounted_walk (A : Option Addr) (c : Nat) (L : List (List Int)) (w : World) (hs : Seen w w.heap.size A (rowsC L)) (hl : ∀ r ∈ L, r.length = 64) (hm : L.length ≤ maxLen) :
    Calls Try.prog 8 #[.slice A L.length c] w fun e w' => e = .returned (.bool true) ∧ Below w.heap.size w w' := by
  have H1 := veil (fun W h hG => segCounts_any L A c w.heap.size W hl hm (fun _ => h) hG)
  have H2 := veil (fun W h hG => may_any L A c w.heap.size W hl hm h hG)
  have HBl := veil blocked_any
  have Hs := veil hs
  have hsum := fun h0 => sums_of hl (L := L) h0
  obtain ⟨E, hE⟩ : ∃ E, E = eL L := ⟨_, rfl⟩
  rw [← hE] at H1 H2 hsum
  have HX : Hid (E ≠ 0 → cntL true L = [] ∧ cntL false L = []) := fun h => ⟨if_neg (by rw [← hE]; exact h), if_neg (by rw [← hE]; exact h)⟩
  have HX0 : Hid (E = 0 → cntL true L = tally true (toksB 0 L) ∧ cntL false L = tally false (toksB 0 L)) := fun h => ⟨if_pos (by rw [← hE]; exact h), if_pos (by rw [← hE]; exact h)⟩
  have Hsum := veil hsum
  clear hs hE hsum
  go_enter Try.func8, Try.ntmps8
  go_wp2_with fail
  refine (HBl.out _).mono ?_
  rintro e w0 ⟨rfl, hbw0⟩
  have hz0 := hbw0.size
  clear HBl
  go_wp2_with fail
  refine (H1.out w0 (Hs.out.below hbw0 (Nat.le_refl _)) hz0).mono ?_
  rintro e w1 ⟨v1, v2, rfl, HO1, hb1⟩
  obtain ⟨A1, c1, e1, s1, _, _⟩ := HO1.seen (List.mem_cons_self ..)
  obtain ⟨A2, c2, e2, s2, _, _⟩ := HO1.seen (List.mem_cons_of_mem _ (List.mem_cons_self ..))
  simp only [intRow] at e1 e2 s1 s2
  subst e1 e2
  have hz1 := hb1.size
  have hbw1 := hbw0.trans (hb1.mono hz0)
  clear H1 HO1 hb1
  by_cases h0 : E = 0
  · obtain ⟨hX, hY⟩ := HX0.out h0
    obtain ⟨q1, q2, q3, q4⟩ := Hsum.out h0
    rw [hX] at s1
    rw [hY] at s2
    rw [hX, hY]
    have hl1 := tally_length true (toksB 0 L)
    have hl2 := tally_length false (toksB 0 L)
    have hn1 := fun k => sum_take (X := tally true (toksB 0 L)) (fun x hx => (tally_in _ _ x hx).1) k
    have hn2 := fun k => sum_take (X := tally false (toksB 0 L)) (fun x hx => (tally_in _ _ x hx).1) k
    obtain ⟨X, hX⟩ : ∃ X, X = tally true (toksB 0 L) := ⟨_, rfl⟩
    obtain ⟨Y, hY⟩ : ∃ Y, Y = tally false (toksB 0 L) := ⟨_, rfl⟩
    rw [← hX] at s1 hl1 q1 hn1 ⊢
    rw [← hY] at s2 hl2 q2 q3 hn2 ⊢
    rw [hl1, hl2]
    subst h0
    have Hn1 := veil hn1
    have Hn2 := veil hn2
    have Hl1 := veil hl1
    have Hl2 := veil hl2
    have HS1 := veil s1
    have HS2 := veil s2
    clear hX hY hn1 hn2 hl1 hl2 s1 s2 HX HX0 Hsum H2 Hs hm
    go_wp2_with fail
    go_loopg [6, 9, 35] 256 (fun gk a b i wr => ∃ k : Nat, gk = 256 - k ∧ k ≤ 256 ∧ i = .int .i64 (k : Int) ∧ a = .int .i64 ((X.take k).sum) ∧ w1 = wr)
    case atStart => exact ⟨0, rfl, Nat.zero_le _, rfl, by simp, rfl⟩
    case round =>
      obtain ⟨k, rfl, hk, rfl, rfl, rfl⟩ := hrel
      have hb1 := (Hn1.out k).1
      have hb2 := (Hn1.out k).2
      rw [q1] at hb2
      by_cases hlt : k < 256
      · have hltz : (k : Int) < 256 := by omega
        have hkl : k < X.length := by rw [Hl1.out]; exact hlt
        obtain ⟨g, o, x, rfl, hg, hx, hcx⟩ := HS1.out.int hkl
        have HS : Hid ((X.take (k + 1)).sum = (X.take k).sum + x) := sum_snoc hx
        have hb3 := (Hn1.out (k + 1)).2
        have hb4 := (Hn1.out (k + 1)).1
        rw [q1, HS.out] at hb3
        rw [HS.out] at hb4
        have hxx : -25600 ≤ x ∧ x ≤ 25600 := by omega
        clear hx hkl
        generalize (X.take k).sum = sm at *
        go_wp2_with fail
        go_roundg (256 - (k + 1))
        case rel => exact ⟨k + 1, rfl, by omega, by go_num, by rw [HS.out], rfl⟩
        case measure => omega
      · obtain rfl : k = 256 := by omega
        have htk : X.take 256 = X := List.take_of_length_le (by rw [Hl1.out]; omega)
        rw [htk, q1]
        clear hb1 hb2 htk hlt
        go_wp2_with fail
        go_loopg [7, 11, 45] 256 (fun gk a b i wr => ∃ k : Nat, gk = 256 - k ∧ k ≤ 256 ∧ i = .int .i64 (k : Int) ∧ a = .int .i64 ((Y.take k).sum) ∧ w1 = wr)
        case atStart => exact ⟨0, rfl, Nat.zero_le _, rfl, by simp, rfl⟩
        case round =>
          obtain ⟨k, rfl, hk, rfl, rfl, rfl⟩ := hrel
          have hb1 := (Hn2.out k).1
          have hb2 := Int.le_trans (Hn2.out k).2 q3
          by_cases hlt : k < 256
          · have hltz : (k : Int) < 256 := by omega
            have hkl : k < Y.length := by rw [Hl2.out]; exact hlt
            obtain ⟨g, o, x, rfl, hg, hx, hcx⟩ := HS2.out.int hkl
            have HS : Hid ((Y.take (k + 1)).sum = (Y.take k).sum + x) := sum_snoc hx
            have hb3 := Int.le_trans (Hn2.out (k + 1)).2 q3
            have hb4 := (Hn2.out (k + 1)).1
            rw [HS.out] at hb3 hb4
            have hxx : -25600 ≤ x ∧ x ≤ 25600 := by omega
            clear hx hkl
            generalize (Y.take k).sum = sm at *
            go_wp2_with fail
            go_roundg (256 - (k + 1))
            case rel => exact ⟨k + 1, rfl, by omega, by go_num, by rw [HS.out], rfl⟩
            case measure => omega
          · obtain rfl : k = 256 := by omega
            have htk : Y.take 256 = Y := List.take_of_length_le (by rw [Hl2.out]; omega)
            rw [htk]
            clear hb1 hb2 htk hlt
            generalize Y.sum = sm at *
            have g1 : decide ((L.length : Int) ≤ sm) = true := decide_eq_true q2
            have g2 : decide (sm ≤ 63 * (L.length : Int)) = true := decide_eq_true q3
            go_wp2_with fail
            go_ret
            exact ⟨rfl, hbw1⟩
  · obtain ⟨hX, hY⟩ := HX.out h0
    have hbe : (E == 0) = false := by simpa using h0
    rw [hX, hY] at *
    have hne : (E != 0) = true := by simpa using h0
    rw [hbe] at H2
    have HM := veil (H2.out w1 (Hs.out.below hbw1 (Nat.le_refl _)) hbw1.size)
    clear s1 s2 hX hY h0 H2 Hsum HX HX0
    go_wp2_with fail
    refine HM.out.mono ?_
    rintro e w5 ⟨rfl, hb5⟩
    have hbw5 := hbw1.trans (hb5.mono hbw1.size)
    go_wp2_with fail
    go_ret
    exact ⟨rfl, hbw5⟩
end Go.Proofs.Ytbboakdfnjjddaa
