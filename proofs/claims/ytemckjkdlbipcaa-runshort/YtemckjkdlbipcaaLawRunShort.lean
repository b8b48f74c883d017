/- The law on fewer tokens than a block has, walked. -/
import Derived.Test.YtemckjkdlbipcaaRunKeep
import Derived.Test.YtemckjkdlbipcaaRest
import Derived.Test.YtemckjkdlbipcaaCutTok
namespace Go.Proofs.Ytemckjkdlbipcaa
open Go.RowKit
set_option linter.unusedVariables false
set_option linter.unusedSimpArgs false
set_option maxRecDepth 100000

set_option maxHeartbeats 2000000 in
set_option maxRecDepth 100000 in
theorem runShort_walk (b : Int) (cs : List Int) (m : Int) (w : World) (hb : -9223372036854775808 ≤ b ∧ b ≤ 9223372036854775807) (hc : cs.length = 64) (hm : -9223372036854775808 ≤ m ∧ m ≤ 9223372036854775807) :
    Calls Try.prog 10 #[.int .i64 b, blkV cs, .int .i64 m] w fun e w' => e = .returned (.bool true) ∧ Below w.heap.size w w' := by
  have hb00 := below1 w (.cells (ints .i64 cs).toArray 23)
  have hz0 : (w.alloc (.cells (ints .i64 cs).toArray 23)).heap.size = w.heap.size + 1 := by simp
  have hr := range_new w (ints .i64 cs) 23
  have H0 := veil (ranned_any (w.alloc (.cells (ints .i64 cs).toArray 23)))
  have H1 := veil (fun W => tokens_any b cs W hc)
  have hTl := veil (oT_len b cs)
  have HTs := veil (oT_small b cs hc)
  have HTok : Hid (eT b cs = 0 → oT b cs = toksZ b (toL cs) ∧ 0 < (oT b cs).length ∧ (-2047 ≤ b ∧ b ≤ 2047) ∧ ∀ z ∈ toL cs, -2047 ≤ z ∧ z ≤ 2047) := fun h => by
    obtain ⟨h1, h2, h3⟩ := eT_zero h
    refine ⟨oT_ok h, ?_, ⟨h1, h2⟩, toL_in hc h3⟩
    rw [oT_ok h]
    match hz : toL cs, toL_length cs with
    | [], h => simp at h
    | z :: zs, _ => simp [toksZ]
  have hE2 := veil (eT_two b cs)
  have Hl : Hid ((ints .i64 cs).length = 64) := by show _ = _; rw [ints_length, hc]
  have HZl := veil (toL_length cs)
  generalize oT b cs = T at *
  generalize eT b cs = er at *
  generalize toL cs = Z at *
  unfold blkV at *
  generalize ints .i64 cs = xs at *
  go_enter Try.func10, Try.ntmps10
  go_wp2_with fail
  refine H0.out.mono ?_
  rintro e w0 ⟨rfl, hb0⟩
  have hr0 := range_below hr hb0 (by rw [hz0]; omega)
  have hbw0 := hb00.trans (hb0.mono (by rw [hz0]; omega))
  clear H0 hr hb0 hb00
  go_wp2_with (first
    | (refine wpList_load_mid rfl 23 (.tmp 4) rfl w.heap.size 0 rfl xs _ hr0 Try.underlying23 rfl (info_blkn Hl.out) ?_)
    | fail)
  refine (H1.out _).mono ?_
  rintro e w1 ⟨v, rfl, HO, hb1⟩
  have hbw1 := hbw0.trans (hb1.mono hbw0.size)
  clear hr0 H1 hbw0 hb1
  rcases hE2.out with h | h
  · subst h
    obtain ⟨hT, hpos, hbb, hZ⟩ := HTok.out rfl
    obtain ⟨A, c, rfl, hs, hc1, hc2⟩ := tok_form HO
    have hTl' := hTl.out
    have HR := veil (fun W => rest_any m T.length W (by omega) (by omega) hm)
    obtain ⟨k, hk⟩ : ∃ k : Nat, m % (T.length : Int) = k := ⟨(m % (T.length : Int)).toNat, by have := Int.emod_nonneg m (show (T.length : Int) ≠ 0 by omega); omega⟩
    have hkl : k < T.length := by have := Int.emod_lt_of_pos m (show (0 : Int) < T.length by omega); omega
    rw [hk] at HR
    have hcut := fun u => run_cutT_to A T.length c k (by omega) u
    have hlen : (T.take k).length = k := by rw [List.length_take]; omega
    have HB := veil (block_any b A c w1.heap.size (T.take k) w1 (cutT_take hs) (Nat.le_refl _) (by rw [hlen]; omega) hc2 (fun t ht => HTs.out t (List.mem_of_mem_take ht)))
    have hsh : decP b (T.take k) = (3, [], 0) := by
      rw [hT] at hkl ⊢
      have h9 := decB_short hbb HZl.out hZ hkl
      rw [← h9]
      exact decP_of (by rw [h9]; decide)
    have e2 : oP b (T.take k) = zero64 := by unfold oP; rw [hsh]; exact if_neg (by decide)
    rw [e2, hsh, hlen] at HB
    have hzone := ints_one (k := .i64) (l := List.replicate 64 0)
    have hzl := veil zeroB_length
    have hkz : (k : Int) ≤ (T.length : Int) := by omega
    clear hT hpos hbb hZ hs hlen hsh e2 HO hTl' hkl hk HTok HTs
    generalize T.take k = T' at *
    go_wp2_with fail
    refine (HR.out _).mono ?_
    rintro e w2 ⟨rfl, rfl⟩
    go_wp2_with fail
    refine HB.out.mono ?_
    rintro e w3 ⟨rfl, hb3⟩
    have hbw3 := hbw1.trans (hb3.mono hbw1.size)
    have hf := hbw3.alloc hbw3.size (.cells zeroB.toArray 23)
    go_upto_region 7 with (first
      | (refine wpList_store_new w3 rfl 23 (.tmp 9) (.tmp 31) rfl zeroB.toArray zeroB rfl rfl (info_blkn hzl.out) (by rw [hzl.out]; rfl) hzone ?_)
      | fail)
    go_wp2
    go_ret
    exact ⟨rfl, hf⟩
  · subst h
    go_wp2
    go_ret
    exact ⟨rfl, hbw1⟩
end Go.Proofs.Ytemckjkdlbipcaa
