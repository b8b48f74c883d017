/- The law on what is read of tokens, walked. -/
import Derived.Test.YtemckjkdlbipcaaRunKeep
import Derived.Test.YtemckjkdlbipcaaCutTok
import Derived.Test.YtemckjkdlbipcaaZeroEql
namespace Go.Proofs.Ytemckjkdlbipcaa
open Go.RowKit
set_option linter.unusedVariables false
set_option linter.unusedSimpArgs false
set_option maxRecDepth 100000

set_option maxHeartbeats 2000000 in
set_option maxRecDepth 100000 in
theorem runAgain_walk (b : Int) (A : Option Addr) (c : Nat) (l : List (Int × Int × Int)) (w : World) (hb : -9223372036854775808 ≤ b ∧ b ≤ 9223372036854775807) (hs : Seen w w.heap.size A (tokCells l)) (hl : l.length ≤ maxLen) (hc : l.length ≤ c) (hm : c ≤ maxLen) (hbd : ∀ t ∈ l, t.1 ≤ 9223372036854775807) :
    Calls Try.prog 6 #[.int .i64 b, .slice A l.length c] w fun e w' => e = .returned (.bool true) ∧ Below w.heap.size w w' := by
  have H0 := veil (ranned_any w)
  have H1 := veil (fun W hbw => block_any b A c w.heap.size l W (hs.below hbw (Nat.le_refl _)) hbw.size hc hm hbd)
  have H2 := veil (fun W => tokens_any b (oP b l) W (oP_length b l))
  have Hlo : Hid ((ints .i64 (oP b l)).length = 64) := by show _ = _; rw [ints_length, oP_length]
  have hone := ints_one (k := .i64) (l := oP b l)
  have HY : Hid ((decP b l).1 = 0 → eT b (oP b l) = 0 ∧ oT b (oP b l) = l.take (decP b l).2.2 ∧ 0 < (decP b l).2.2 ∧ (decP b l).2.2 ≤ l.length) := fun h => by
    obtain ⟨h1, h2, h3, h4⟩ := decP_again (before := b) (l := l) h
    obtain ⟨g1, g2⟩ := decP_in h
    have ho : oP b l = fromL (decP b l).2.1 := if_pos h
    have he : eT b (oP b l) = 0 := by rw [ho]; exact eT_ok h1.1 h1.2 (inB_mem.2 fun z hz => g2 z (fromL_mem g1 hz))
    refine ⟨he, ?_, h3, h4⟩
    rw [oT_ok he, ho, to_from g1, h2]
  have HN : Hid ((decP b l).1 ≠ 0 → oP b l = zero64 ∧ (decP b l).2.2 = 0) := fun h => ⟨if_neg h, decP_err h⟩
  have heq : ∀ u, (binOp .eql 23 (blkV zero64) (blkV zero64)).run Try.prog u = .ok (.bool true) u := fun u => blk_same zero64 zero64_length u
  have HTl := veil (oT_len b (oP b l))
  unfold blkV at *
  go_enter Try.func6, Try.ntmps6
  go_wp2_with fail
  refine H0.out.mono ?_
  rintro e w0 ⟨rfl, hb0⟩
  have HC := veil (H1.out w0 hb0)
  go_wp2_with fail
  refine HC.out.mono ?_
  rintro e w1 ⟨rfl, hb1⟩
  have hbw1 := hb0.trans (hb1.mono hb0.size)
  have hb2 := hbw1.alloc hbw1.size (.cells (ints .i64 (oP b l)).toArray 23)
  have r1 := range_new w1 (ints .i64 (oP b l)) 23
  have hsn := veil (hs.below hb2 (Nat.le_refl _))
  clear H0 H1 HC hb0 hb1 hbw1 hs
  by_cases h : (decP b l).1 = 0
  · obtain ⟨h1, h2, h3, h4⟩ := HY.out h
    rw [h1, h2] at H2
    rw [h2] at HTl
    rw [h]
    have hlen : (l.take (decP b l).2.2).length = (decP b l).2.2 := by rw [List.length_take]; omega
    have Hlen := veil hlen
    generalize (decP b l).2.2 = n at *
    generalize ints .i64 (oP b l) = ys at *
    have hcut := fun u => run_cutT_to A l.length c n (by omega) u
    have hn1 : (0 : Int) < (n : Int) := by omega
    have hn2 : (n : Int) ≤ (l.length : Int) := by omega
    clear HY HN h h1 h2 hlen
    go_wp2_with (first
      | (refine wpList_store_new w1 rfl 23 (.tmp 5) (.tmp 16) rfl zeroB.toArray ys rfl rfl (info_blkn Hlo.out) (by rw [Hlo.out]; rfl) hone ?_)
      | (refine wpList_load_mid rfl 23 (.tmp 5) rfl w1.heap.size 0 rfl ys _ r1 Try.underlying23 rfl (info_blkn Hlo.out) ?_)
      | fail)
    refine (H2.out _).mono ?_
    rintro e w3 ⟨v, rfl, HO, hb3⟩
    obtain ⟨A2, c2, rfl, hs2, _, _⟩ := tok_form HO
    have hbw3 := hb2.trans (hb3.mono hb2.size)
    have hz3 := hbw3.size
    have hss : Seen w3 w3.heap.size A (tokCells (l.take n)) := cutT_take ((hsn.out.below hb3 hb2.size).up hz3)
    have HE := veil (eqTok A2 A c2 c w3.heap.size (l.take n) (l.take n) w3 hs2 hss (Nat.le_refl _) (by have := HTl.out; omega) (by have := HTl.out; omega))
    rw [decide_eq_true rfl, Hlen.out] at HE
    rw [Hlen.out]
    clear HO hs2 hss hb3 hb2 H2 r1 hsn
    go_wp2_with fail
    refine HE.out.mono ?_
    rintro e w4 ⟨rfl, hb4⟩
    have hf := hbw3.trans (hb4.mono hbw3.size)
    go_wp2
    go_ret
    exact ⟨ret_bool (by simp), hf⟩
  · obtain ⟨h1, h2⟩ := HN.out h
    rw [h1] at Hlo hone hb2 r1 ⊢
    rw [h2]
    have hne : ((decP b l).1 != 0) = true := by simpa using h
    generalize (decP b l).1 = er at *
    have hzl := veil zeroB_length
    have heqz := zero_eql
    have r1z : (w1.alloc (.cells zeroB.toArray 23)).rangeAt w1.heap.size 0 zeroB := r1
    clear HY HN h h1 h2 hsn heq H2 HTl r1
    go_wp2_with (first
      | (refine wpList_store_new w1 rfl 23 (.tmp 5) (.tmp 16) rfl zeroB.toArray zeroB rfl rfl (info_blkn hzl.out) (by rw [hzl.out]; rfl) hone ?_)
      | (refine wpList_load_mid rfl 23 (.tmp 5) rfl w1.heap.size 0 rfl zeroB _ r1z Try.underlying23 rfl (info_blkn hzl.out) ?_)
      | fail)
    go_ret
    exact ⟨ret_bool (by simp), hb2⟩
end Go.Proofs.Ytemckjkdlbipcaa
