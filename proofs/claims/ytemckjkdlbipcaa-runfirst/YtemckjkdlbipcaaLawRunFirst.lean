/- The law on what the block ahead is of matter to, walked. -/
import Derived.Test.YtemckjkdlbipcaaRunKeep
import Derived.Test.YtemckjkdlbipcaaCutTok
namespace Go.Proofs.Ytemckjkdlbipcaa
open Go.RowKit
set_option linter.unusedVariables false
set_option linter.unusedSimpArgs false
set_option maxRecDepth 100000

theorem same_tok {a b z : Int} : ((tkN 0 (z - a)).1 == (tkN 0 (z - b)).1 && ((tkN 0 (z - a)).2.1 == (tkN 0 (z - b)).2.1 && (tkN 0 (z - a)).2.2 == (tkN 0 (z - b)).2.2)) = decide (a = b) := by
  by_cases h : a = b
  · subst h; simp
  · rw [decide_eq_false h]
    have h2 : tkN 0 (z - a) ≠ tkN 0 (z - b) := fun e => h (first_all.1 e)
    cases e : ((tkN 0 (z - a)).1 == (tkN 0 (z - b)).1 && ((tkN 0 (z - a)).2.1 == (tkN 0 (z - b)).2.1 && (tkN 0 (z - a)).2.2 == (tkN 0 (z - b)).2.2)) with
    | false => rfl
    | true =>
      simp only [Bool.and_eq_true, beq_iff_eq] at e
      exact absurd (Prod.ext e.1 (Prod.ext e.2.1 e.2.2)) h2
set_option maxHeartbeats 4000000 in
set_option maxRecDepth 100000 in
theorem runFirst_walk (a b : Int) (cs : List Int) (w : World) (ha : -9223372036854775808 ≤ a ∧ a ≤ 9223372036854775807) (hb : -9223372036854775808 ≤ b ∧ b ≤ 9223372036854775807) (hc : cs.length = 64) :
    Calls Try.prog 8 #[.int .i64 a, .int .i64 b, blkV cs] w fun e w' => e = .returned (.bool true) ∧ Below w.heap.size w w' := by
  have hb00 := below1 w (.cells (ints .i64 cs).toArray 23)
  have hz0 : (w.alloc (.cells (ints .i64 cs).toArray 23)).heap.size = w.heap.size + 1 := by simp
  have HBx := Blk.new w (ints .i64 cs) 23
  have H0 := veil (ranned_any (w.alloc (.cells (ints .i64 cs).toArray 23)))
  have H1 := veil (fun W => tokens_any a cs W hc)
  have H2 := veil (fun W => tokens_any b cs W hc)
  have HTok : Hid (∀ n, eT n cs = 0 → ∃ z zs, toL cs = z :: zs ∧ zs.length = 63 ∧ oT n cs = tkN 0 (z - n) :: restT 0 zs) := fun n h => by
    rw [oT_ok h]
    match hz : toL cs, toL_length cs with
    | [], h => simp at h
    | z :: zs, h => exact ⟨z, zs, rfl, by simpa using h, rfl⟩
  have hE1 := veil (eT_two a cs)
  have hE2 := veil (eT_two b cs)
  have Hl : Hid ((ints .i64 cs).length = 64) := by show _ = _; rw [ints_length, hc]
  unfold blkV at *
  generalize ints .i64 cs = xs at *
  go_enter Try.func8, Try.ntmps8
  go_wp2_with fail
  refine H0.out.mono ?_
  rintro e w0 ⟨rfl, hb0⟩
  have HB0 := HBx.below hb0 (by rw [hz0]; omega)
  have hr0 := HB0.range
  have hbw0 := hb00.trans (hb0.mono (by rw [hz0]; omega))
  have hz00 := hb0.size
  rw [hz0] at hz00
  clear H0 HBx hb0 hb00
  go_wp2_with (first
    | (refine wpList_load_mid rfl 23 (.tmp 5) rfl w.heap.size 0 rfl xs _ hr0 Try.underlying23 rfl (info_blkn Hl.out) ?_)
    | fail)
  refine (H1.out _).mono ?_
  rintro e w1 ⟨v1, rfl, HO1, hb1⟩
  have hr1 := (HB0.below hb1 (by omega)).range
  have hbw1 := hbw0.trans (hb1.mono hbw0.size)
  clear hr0 H1 HB0 hbw0 hb1
  go_wp2_with (first
    | (refine wpList_load_mid rfl 23 (.tmp 5) rfl w.heap.size 0 rfl xs _ hr1 Try.underlying23 rfl (info_blkn Hl.out) ?_)
    | fail)
  refine (H2.out _).mono ?_
  rintro e w2 ⟨v2, rfl, HO2, hb2⟩
  have HO1' := HO1.below hb2
  have hbw2 := hbw1.trans (hb2.mono hbw1.size)
  clear hr1 H2 hbw1 hb2 HO1
  rcases hE1.out with h1 | h1
  · rcases hE2.out with h2 | h2
    · obtain ⟨z, zs, hz, hzs, hT1⟩ := HTok.out a h1
      obtain ⟨z', zs', hz', _, hT2⟩ := HTok.out b h2
      rw [hz] at hz'
      injection hz' with e1 e2
      subst e1 e2
      rw [h1, h2]
      rw [hT1] at HO1'
      rw [hT2] at HO2
      have hpos := pos_rest zs 0 (by omega)
      have hlr := len_rest zs 0
      have hst := same_tok (a := a) (b := b) (z := z)
      have heql := fun u => eql_tok (tkN 0 (z - a)).1 (tkN 0 (z - a)).2.1 (tkN 0 (z - a)).2.2 (tkN 0 (z - b)).1 (tkN 0 (z - b)).2.1 (tkN 0 (z - b)).2.2 u
      rw [hst] at heql
      clear hst HTok h1 h2 hT1 hT2 hz hE1 hE2
      obtain ⟨⟨p0, p1, p2⟩, hp⟩ : ∃ t, t = tkN 0 (z - a) := ⟨_, rfl⟩
      obtain ⟨⟨q0, q1, q2⟩, hq⟩ : ∃ t, t = tkN 0 (z - b) := ⟨_, rfl⟩
      rw [← hp] at HO1' heql
      rw [← hq] at HO2 heql
      simp only [] at heql
      clear hp hq
      generalize restT 0 zs = R at *
      obtain ⟨A1, c1, rfl, hs1, hc1, hm1⟩ := tok_form HO1'
      obtain ⟨A2, c2, rfl, hs2, hc2, hm2⟩ := tok_form HO2
      obtain ⟨g1, o1, s1, n1, m1, rfl, hg1, ht1, x0, x1, x2⟩ := hs1.tok (k := 0) (by simp)
      obtain ⟨rfl, rfl, rfl⟩ : p0 = s1 ∧ p1 = n1 ∧ p2 = m1 := by simpa using ht1
      obtain ⟨g2, o2, s2, n2, m2, rfl, hg2, ht2, y0, y1, y2⟩ := hs2.tok (k := 0) (by simp)
      obtain ⟨rfl, rfl, rfl⟩ : q0 = s2 ∧ q1 = n2 ∧ q2 = m2 := by simpa using ht2
      rw [Nat.zero_mul, Nat.add_zero] at x0 x1 x2 y0 y1 y2
      obtain ⟨B1, hB1, hS1⟩ := cutT_drop (f := 1) hs1 (by simp) hc1
      obtain ⟨B2, hB2, hS2⟩ := cutT_drop (f := 1) hs2 (by simp) hc2
      simp only [List.drop_succ_cons, List.drop_zero, List.length_cons] at hS1 hS2 hc1 hc2 hB1 hB2 ⊢
      have hn1 : ¬ c1 = 1 := by omega
      have hn2 : ¬ c2 = 1 := by omega
      obtain rfl : B1 = some ⟨g1, o1 + 3, none⟩ := by
        rw [cutT, if_neg hn1] at hB1
        injection hB1 with hB1 _ _
        rw [← hB1]; simp [addr_add]
      obtain rfl : B2 = some ⟨g2, o2 + 3, none⟩ := by
        rw [cutT, if_neg hn2] at hB2
        injection hB2 with hB2 _ _
        rw [← hB2]; simp [addr_add]
      have hlb : ((R.length : Int) + 1 == (R.length : Int) + 1) = true := by simp
      have HE := veil (fun W (h1 : Seen W w2.heap.size (some ⟨g1, o1 + 3, none⟩) (tokCells R)) (h2 : Seen W w2.heap.size (some ⟨g2, o2 + 3, none⟩) (tokCells R)) (h3 : w2.heap.size ≤ W.heap.size) => eqTok (some ⟨g1, o1 + 3, none⟩) (some ⟨g2, o2 + 3, none⟩) (c1 - 1) (c2 - 1) w2.heap.size R R W h1 h2 h3 (by omega) (by omega))
      rw [decide_eq_true rfl] at HE
      have hl1 : (1 : Int) ≤ (R.length : Int) + 1 := by omega
      have hc1z : (1 : Int) ≤ (c1 : Int) := by omega
      have hc2z : (1 : Int) ≤ (c2 : Int) := by omega
      have hlc1 : (R.length : Int) + 1 ≤ (c1 : Int) := by omega
      have hlc2 : (R.length : Int) + 1 ≤ (c2 : Int) := by omega
      have HS1 := veil hS1
      have HS2 := veil hS2
      obtain ⟨bb, hbb⟩ : ∃ bb, bb = decide (a = b) := ⟨_, rfl⟩
      rw [← hbb] at heql
      have hab : (a == b) = bb := by rw [hbb]; by_cases h : a = b <;> simp [h]
      clear hbb hB1 hB2 hs1 hs2 HO1' HO2 hS1 hS2 ht1 ht2
      go_wp2_with fail
      have hsd1 : Seen w2.drew w2.heap.size (some ⟨g1, o1 + 3, none⟩) (tokCells R) := HS1.out.of w2 w2.drew fun _ _ => rfl
      have hsd2 : Seen w2.drew w2.heap.size (some ⟨g2, o2 + 3, none⟩) (tokCells R) := HS2.out.of w2 w2.drew fun _ _ => rfl
      have hzd : w2.heap.size ≤ w2.drew.heap.size := Nat.le_refl _
      have HEd := veil (HE.out w2.drew hsd1 hsd2 hzd)
      have Hsd1 := veil hsd1
      have Hsd2 := veil hsd2
      clear hsd1 hsd2 HE
      generalize R.length = rl at *
      go_region_held3 (fun w' => w'.cell? ⟨g1, o1, none⟩ = some (.int .i64 p0) ∧ w'.cell? ⟨g1, o1 + 1, none⟩ = some (.int .i64 p1) ∧ w'.cell? ⟨g1, o1 + 2, none⟩ = some (.int .i64 p2) ∧ w'.cell? ⟨g2, o2, none⟩ = some (.int .i64 q0) ∧ w'.cell? ⟨g2, o2 + 1, none⟩ = some (.int .i64 q1) ∧ w'.cell? ⟨g2, o2 + 2, none⟩ = some (.int .i64 q2))
        (first
          | go_keep
          | (go_split_ands
             (repeat' apply And.intro) <;> first
               | (refine (hb4.cell hg1).trans ?_; assumption)
               | (refine (hb4.cell hg2).trans ?_; assumption)))
        (first
          | (go_at_call 13; refine HEd.out.mono ?_; rintro e w4 ⟨rfl, hb4⟩)
          | fail)
      have hf : Below w.heap.size w w4 := hbw2.trans ((below_of_drew hb4).mono hbw2.size)
      go_wp2
      go_ret
      exact ⟨ret_bool (by simp), hf⟩
    · rw [h2]
      rw [h1]
      go_wp2
      go_ret
      exact ⟨rfl, hbw2⟩
  · rw [h1]
    go_wp2
    go_ret
    exact ⟨rfl, hbw2⟩
end Go.Proofs.Ytemckjkdlbipcaa
