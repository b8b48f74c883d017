/- The law on tokens against the reference, walked. -/
import Derived.Test.YtemckjkdlbipcaaRunProg
import Derived.Test.YtemckjkdlbipcaaTokForm
import Derived.Test.YtemckjkdlbipcaaEqTok
namespace Go.Proofs.Ytemckjkdlbipcaa
open Go.RowKit
set_option linter.unusedVariables false
set_option linter.unusedSimpArgs false
set_option maxRecDepth 100000

set_option maxHeartbeats 2000000 in
set_option maxRecDepth 100000 in
theorem runTokens_walk (b : Int) (cs : List Int) (w : World) (hb : -9223372036854775808 ≤ b ∧ b ≤ 9223372036854775807) (hc : cs.length = 64) :
    Calls Try.prog 3 #[.int .i64 b, blkV cs] w fun e w' => e = .returned (.bool true) ∧ Below w.heap.size w w' := by
  have H1 := veil (fun W => tokens_any b cs W hc)
  have H2 := veil (fun W => refTokens_any b cs W hc)
  have H3 := veil (fun W => tokens_any 2048 zero64 W zero64_length)
  rw [oT_bad (by rw [big_eT]; decide), big_eT] at H3
  have hTl := veil (oT_len b cs)
  have hr := range_new w (ints .i64 cs) 23
  have hb0 := below1 w (.cells (ints .i64 cs).toArray 23)
  have hz0 : (w.alloc (.cells (ints .i64 cs).toArray 23)).heap.size = w.heap.size + 1 := by simp
  have Hl : Hid ((ints .i64 cs).length = 64) := by show _ = _; rw [ints_length, hc]
  generalize oT b cs = T at *
  generalize eT b cs = er at *
  unfold blkV at *
  generalize ints .i64 cs = xs at *
  go_enter Try.func3, Try.ntmps3
  go_wp2_with (first
    | (refine wpList_load_mid rfl 23 (.tmp 3) rfl w.heap.size 0 rfl xs _ hr Try.underlying23 rfl (info_blkn Hl.out) ?_)
    | fail)
  refine (H1.out _).mono ?_
  rintro e w1 ⟨v1, rfl, HO1, hb1⟩
  have hr1 := range_below hr hb1 (by rw [hz0]; omega)
  have hbw1 := hb0.trans (hb1.mono (by rw [hz0]; omega))
  clear hr hb0 hb1
  go_wp2_with (first
    | (refine wpList_load_mid rfl 23 (.tmp 3) rfl w.heap.size 0 rfl xs _ hr1 Try.underlying23 rfl (info_blkn Hl.out) ?_)
    | fail)
  refine (H2.out _).mono ?_
  rintro e w2 ⟨v2, rfl, HO2, hb2⟩
  have HO1' := HO1.below hb2
  have hbw2 := hbw1.trans (hb2.mono hbw1.size)
  clear hr1 hb2 HO1 hbw1
  go_wp2_with fail
  refine (H3.out _).mono ?_
  rintro e w3 ⟨v3, rfl, _, hb3⟩
  obtain ⟨A1, c1, rfl, hs1, _, _⟩ := tok_form (HO1'.below hb3)
  obtain ⟨A2, c2, rfl, hs2, _, _⟩ := tok_form (HO2.below hb3)
  have HE := veil (eqTok A1 A2 c1 c2 w3.heap.size T T w3 hs1 hs2 (Nat.le_refl _) (by have := hTl.out; omega) (by have := hTl.out; omega))
  rw [decide_eq_true rfl] at HE
  have hbw3 := hbw2.trans (hb3.mono hbw2.size)
  clear hs1 hs2 HO1' HO2 hb3 hbw2
  go_wp2_with fail
  refine HE.out.mono ?_
  rintro e w4 ⟨rfl, hb4⟩
  have hbw4 := hbw3.trans (hb4.mono hbw3.size)
  go_wp2
  go_ret
  exact ⟨ret_bool (by simp), hbw4⟩
end Go.Proofs.Ytemckjkdlbipcaa
