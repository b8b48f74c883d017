/- The law on steps of 1 and on 100 percent, walked. -/
import Derived.Test.YtpbeehalicmdjaaQOnes1
import Derived.Deep.DeepCutAuto
namespace Go.Proofs.Ytpbeehalicmdjaa
open Go.RowKit
set_option linter.unusedVariables false
set_option linter.unusedSimpArgs false

set_option maxHeartbeats 4000000 in
set_option maxRecDepth 100000 in
theorem quantOnes_walk (bs qs : List Int) (w : World) (hb : bs.length = 64) (hq : qs.length = 64) :
    Calls Try.prog 10 #[blkV bs, blkV qs] w fun e w' => e = .returned (.bool true) ∧ Below w.heap.size w w' := by
  obtain ⟨hb3, HB0, HB1, hz3⟩ := boxU_is (ints .i64 bs) (ints .i64 qs) w
  have Hlb : Hid ((ints .i64 bs).length = 64) := by show _ = _; rw [ints_length, hb]
  have Hlq : Hid ((ints .i64 qs).length = 64) := by show _ = _; rw [ints_length, hq]
  have Hlu : Hid ((ints .i64 (oDown bs (onesL 1))).length = 64) := by show _ = _; rw [ints_length, oDown_length]
  have hone := ints_one (k := .i64) (l := oDown bs (onesL 1))
  have HK := veil (coarse_any (boxU (ints .i64 bs) (ints .i64 qs) w))
  have HO := veil (ones_any 1)
  have HD := veil (fun W => down_any bs (onesL 1) W hb (onesL_length 1))
  have Hz := veil zeroB_length
  have HS := veil (fun W => scale_any qs 100 W hq)
  rw [scale_E] at HS
  have HC := veil (fun W => qcheck_any qs W hq)
  have HE2 : Hid (badB 1 255 qs = 0 ∨ badB 1 255 qs = 1) := by show _ ∨ _; unfold badB; split <;> simp
  have H0 : Hid (badB 1 255 qs = 0 → ints .i64 (oScale qs 100) = ints .i64 qs) := fun h => by rw [scale_same hq (by rw [scale_E]; exact h)]
  have heq := blk_neq_same qs hq
  have HF : Hid (eBoth 40000 bs (onesL 1) = 0 → ∀ k, k < 64 → _) := fun h => ones_at hb h
  have Hls : Hid ((ints .i64 (oScale qs 100)).length = 64) := by show _ = _; rw [ints_length, oScale_length]
  have hone2 := ints_one (k := .i64) (l := oScale qs 100)
  unfold blkV at *
  generalize ints .i64 (oDown bs (onesL 1)) = us at *
  generalize ints .i64 (onesL 1) = os at *
  generalize ints .i64 (oScale qs 100) = ss at *
  generalize ints .i64 bs = xs at *
  generalize ints .i64 qs = ys at *
  generalize eBoth 40000 bs (onesL 1) = E1 at *
  generalize badB 1 255 qs = e2 at *
  unfold boxU at *
  go_enter Try.func10, Try.ntmps10
  go_wp2_with fail
  refine HK.out.mono ?_
  rintro e w0 ⟨rfl, hb0⟩
  have hz0 := hb0.size
  rw [hz3] at hz0
  have B0 := HB0.below hb0 (by rw [hz3]; omega)
  have B1 := HB1.below hb0 (by rw [hz3]; omega)
  have hbw := hb3.trans (hb0.mono (by rw [hz3]; omega))
  have r0 := B0.range
  clear HK HB0 HB1 hb3 hz3 hb0
  have hi := info_blkn Hlb.out
  go_upto_region 3 with fail
  go_cut [5, 6] (fun v5 v6 wx => ∃ g : Nat, v5 = .pointer (some ⟨g, 0, none⟩) ∧ v6 = .int .i64 E1 ∧ w0.heap.size ≤ g ∧ Blk wx g us 23 ∧ Below w0.heap.size w0 wx)
  case first =>
    refine wp_region_held_drew (S := fun w' => Blk w' w.heap.size xs 23) (by kernel_rfl) B0 (fun hHeld0 => ?_)
    refine take_load 0 14 23 (.tmp 2) (w.heap.size) 0 xs _ rfl rfl (by kernel_rfl) (by kernel_rfl) (by kernel_rfl) (fun _ _ _ h => h) rfl rfl rfl (fun w' h => h.range) Try.underlying23 rfl hi hHeld0 rfl ?_
    have hdz : w0.drew.heap.size = w0.heap.size := rfl
    refine wpAnyH_ready (rs := [1, 6]) (by kernel_rfl) (by simp) ?_
    refine AllReadyH.cons rfl (fun K hK => ?_) (AllReadyH.cons rfl (fun K hK => ?_) AllReadyH.nil)
    · go_simp
      refine (HO.out _).mono ?_
      rintro e w1 ⟨rfl, hb1⟩
      have hs1 := hb1.size
      refine hK.out _ _ (hHeld0.below hb1 hHeld0.lt) (fun hHeld1 => ?_)
      clear hK K
      have hc1 : Below w0.heap.size w0 w1 := below_of_drew hb1
      refine wpAnyH_ready (rs := [2, 6]) (by kernel_rfl) (by simp) ?_
      refine AllReadyH.cons rfl (fun K hK => ?_) (AllReadyH.cons rfl (fun K hK => ?_) AllReadyH.nil)
      · go_simp
        refine (HD.out _).mono ?_
        rintro e w2 ⟨rfl, hb2⟩
        have hs2 := hb2.size
        refine hK.out _ _ (hHeld1.below hb2 hHeld1.lt) (fun hHeld2 => ?_)
        clear hK K
        refine take_pure 3 13 (.tuple #[.agg us.toArray, .int .i64 E1]) _ rfl rfl (by kernel_rfl) (by kernel_rfl) (by kernel_rfl) (fun _ _ _ h => h) rfl (fun w' hS => by go_simp) hHeld2 rfl ?_
        refine take_pure 4 17 (.agg us.toArray) _ rfl rfl (by kernel_rfl) (by kernel_rfl) (by kernel_rfl) (fun _ _ _ h => h) rfl (fun w' hS => by go_simp) hHeld2 rfl ?_
        refine take_pure 5 18 (.int .i64 E1) _ rfl rfl (by kernel_rfl) (by kernel_rfl) (by kernel_rfl) (fun _ _ _ h => h) rfl (fun w' hS => by go_simp) hHeld2 rfl ?_
        refine wpAnyH_ready (rs := [6]) (by kernel_rfl) (by simp) ?_
        refine AllReadyH.cons rfl (fun K hK => ?_) AllReadyH.nil
        go_simp
        refine hK.out _ (w2.alloc (.cells zeroB.toArray 23)) (hHeld2.below (below1 w2 _) hHeld2.lt) (fun hHeld3 => ?_)
        clear hK K
        have hc2 := hc1.trans (hb2.mono hc1.size)
        have hc3 := hc2.trans ((below1 w2 (.cells zeroB.toArray 23)).mono hc2.size)
        have hc4 := hc2.size
        refine wpAnyH_ready (rs := [7]) (by kernel_rfl) (by simp) ?_
        refine AllReadyH.cons rfl (fun K hK => ?_) AllReadyH.nil
        refine step_store_blk _ rfl 23 (.tmp 5) (.tmp 17) rfl w2.heap.size zeroB us 23 (Blk.new w2 zeroB 23) rfl rfl (info_blkn Hlu.out) (by rw [Hlu.out, Hz.out]) hone ?_
        intro w5 HB5 hg5
        have hf : Below w0.heap.size w0 w5 := hc3.grown hg5 hc3.size (fun j hj => by injection hj with hj; omega)
        refine hK.out _ _ (hHeld3.kept hg5 (by simp; omega)) (fun hHeld4 => ?_)
        clear hK K
        refine take_pure 8 6 (.int .i64 E1) _ rfl rfl (by kernel_rfl) (by kernel_rfl) (by kernel_rfl) (fun _ _ _ h => h) rfl (fun w' hS => by go_simp) hHeld4 rfl ?_
        refine wpAnyH_done (by kernel_rfl) ?_ _
        go_wp2
        go_meet
        case rel => exact ⟨w2.heap.size, rfl, rfl, by omega, HB5, hf⟩
      · go_simp
        refine hK.out _ (w1.alloc (.cells zeroB.toArray 23)) (hHeld1.below (below1 w1 _) hHeld1.lt) (fun hHeld2 => ?_)
        clear hK K
        have hc2 := hc1.trans ((below1 w1 (.cells zeroB.toArray 23)).mono hc1.size)
        have hc4 := hc1.size
        refine wpAnyH_ready (rs := [2]) (by kernel_rfl) (by simp) ?_
        refine AllReadyH.cons rfl (fun K hK => ?_) AllReadyH.nil
        go_simp
        refine (HD.out _).mono ?_
        rintro e w2 ⟨rfl, hb2⟩
        have hs3 := hb2.size
        refine hK.out _ _ (hHeld2.below hb2 hHeld2.lt) (fun hHeld3 => ?_)
        clear hK K
        refine take_pure 3 13 (.tuple #[.agg us.toArray, .int .i64 E1]) _ rfl rfl (by kernel_rfl) (by kernel_rfl) (by kernel_rfl) (fun _ _ _ h => h) rfl (fun w' hS => by go_simp) hHeld3 rfl ?_
        refine take_pure 4 17 (.agg us.toArray) _ rfl rfl (by kernel_rfl) (by kernel_rfl) (by kernel_rfl) (fun _ _ _ h => h) rfl (fun w' hS => by go_simp) hHeld3 rfl ?_
        refine take_pure 5 18 (.int .i64 E1) _ rfl rfl (by kernel_rfl) (by kernel_rfl) (by kernel_rfl) (fun _ _ _ h => h) rfl (fun w' hS => by go_simp) hHeld3 rfl ?_
        have hc3 := hc2.trans (hb2.mono hc2.size)
        refine wpAnyH_ready (rs := [7]) (by kernel_rfl) (by simp) ?_
        refine AllReadyH.cons rfl (fun K hK => ?_) AllReadyH.nil
        refine step_store_blk _ rfl 23 (.tmp 5) (.tmp 17) rfl w1.heap.size zeroB us 23 ((Blk.new w1 zeroB 23).below hb2 (by simp)) rfl rfl (info_blkn Hlu.out) (by rw [Hlu.out, Hz.out]) hone ?_
        intro w5 HB5 hg5
        have hf : Below w0.heap.size w0 w5 := hc3.grown hg5 hc3.size (fun j hj => by injection hj with hj; omega)
        refine hK.out _ _ (hHeld3.kept hg5 (by simp; omega)) (fun hHeld4 => ?_)
        clear hK K
        refine take_pure 8 6 (.int .i64 E1) _ rfl rfl (by kernel_rfl) (by kernel_rfl) (by kernel_rfl) (fun _ _ _ h => h) rfl (fun w' hS => by go_simp) hHeld4 rfl ?_
        refine wpAnyH_done (by kernel_rfl) ?_ _
        go_wp2
        go_meet
        case rel => exact ⟨w1.heap.size, rfl, rfl, by omega, HB5, hf⟩
    · go_simp
      have hcA : Below w0.heap.size w0 ((w0.alloc (.cells zeroB.toArray 23)).drew) := (below1 w0 _).drew
      have BA : Blk ((w0.alloc (.cells zeroB.toArray 23)).drew) w0.heap.size zeroB 23 := Blk.new w0 zeroB 23
      have hzA : ((w0.alloc (.cells zeroB.toArray 23)).drew).heap.size = w0.heap.size + 1 := by simp
      refine hK.out _ ((w0.alloc (.cells zeroB.toArray 23)).drew) (B0.below hcA (by omega)) (fun hHeld1 => ?_)
      clear hK K
      generalize (w0.alloc (.cells zeroB.toArray 23)).drew = WA at *
      refine wpAnyH_ready (rs := [1]) (by kernel_rfl) (by simp) ?_
      refine AllReadyH.cons rfl (fun K hK => ?_) AllReadyH.nil
      go_simp
      refine (HO.out _).mono ?_
      rintro e w1 ⟨rfl, hb1⟩
      have hs2 := hb1.size
      refine hK.out _ _ (hHeld1.below hb1 hHeld1.lt) (fun hHeld2 => ?_)
      clear hK K
      have hcB := hcA.trans (hb1.mono hcA.size)
      refine wpAnyH_ready (rs := [2]) (by kernel_rfl) (by simp) ?_
      refine AllReadyH.cons rfl (fun K hK => ?_) AllReadyH.nil
      go_simp
      refine (HD.out _).mono ?_
      rintro e w2 ⟨rfl, hb2⟩
      have hs3 := hb2.size
      refine hK.out _ _ (hHeld2.below hb2 hHeld2.lt) (fun hHeld3 => ?_)
      clear hK K
      have hc3 := hcB.trans (hb2.mono hcB.size)
      refine take_pure 3 13 (.tuple #[.agg us.toArray, .int .i64 E1]) _ rfl rfl (by kernel_rfl) (by kernel_rfl) (by kernel_rfl) (fun _ _ _ h => h) rfl (fun w' hS => by go_simp) hHeld3 rfl ?_
      refine take_pure 4 17 (.agg us.toArray) _ rfl rfl (by kernel_rfl) (by kernel_rfl) (by kernel_rfl) (fun _ _ _ h => h) rfl (fun w' hS => by go_simp) hHeld3 rfl ?_
      refine take_pure 5 18 (.int .i64 E1) _ rfl rfl (by kernel_rfl) (by kernel_rfl) (by kernel_rfl) (fun _ _ _ h => h) rfl (fun w' hS => by go_simp) hHeld3 rfl ?_
      refine wpAnyH_ready (rs := [7]) (by kernel_rfl) (by simp) ?_
      refine AllReadyH.cons rfl (fun K hK => ?_) AllReadyH.nil
      refine step_store_blk _ rfl 23 (.tmp 5) (.tmp 17) rfl w0.heap.size zeroB us 23 ((BA.below hb1 (by omega)).below hb2 (by omega)) rfl rfl (info_blkn Hlu.out) (by rw [Hlu.out, Hz.out]) hone ?_
      intro w5 HB5 hg5
      have hf : Below w0.heap.size w0 w5 := hc3.grown hg5 hc3.size (fun j hj => by injection hj with hj; omega)
      refine hK.out _ _ (hHeld3.kept hg5 (by simp; omega)) (fun hHeld4 => ?_)
      clear hK K
      refine take_pure 8 6 (.int .i64 E1) _ rfl rfl (by kernel_rfl) (by kernel_rfl) (by kernel_rfl) (fun _ _ _ h => h) rfl (fun w' hS => by go_simp) hHeld4 rfl ?_
      refine wpAnyH_done (by kernel_rfl) ?_ _
      go_wp2
      go_meet
      case rel => exact ⟨w0.heap.size, rfl, rfl, by omega, HB5, hf⟩
  case rest =>
    obtain ⟨g, rfl, rfl, hg1, HBg, hbx⟩ := hcut
    have hzx := hbx.size
    have hgl := HBg.lt
    have D0 := B0.below hbx (by omega)
    have D1 := B1.below hbx (by omega)
    have hbw1 := hbw.trans (hbx.mono hbw.size)
    have r1 := D1.range
    clear B0 B1 r0 hbx hbw HO HD
    generalize wc = W1 at *
    go_wp2_with (first
      | (refine wpList_load_mid rfl 23 (.tmp 3) rfl (w.heap.size + 1) 0 rfl ys _ r1 Try.underlying23 rfl (info_blkn Hlq.out) ?_)
      | fail)
    refine (HS.out _).mono ?_
    rintro e w3 ⟨rfl, hb3⟩
    have hz3 := hb3.size
    have F0 := (D0.below hb3 (by omega)).below (below1 w3 (.cells ss.toArray 23)) (by omega)
    have F1 := (D1.below hb3 (by omega)).below (below1 w3 (.cells ss.toArray 23)) (by omega)
    have Fg := (HBg.below hb3 (by omega)).below (below1 w3 (.cells ss.toArray 23)) (by omega)
    have r7 := (Blk.new w3 ss 23).range
    have r3 := F1.range
    have hbw3 := (hbw1.trans (hb3.mono hbw1.size)).trans ((below1 w3 (.cells ss.toArray 23)).mono (show w.heap.size ≤ w3.heap.size by omega))
    have hzw : (w3.alloc (.cells ss.toArray 23)).heap.size = w3.heap.size + 1 := by simp
    clear HS D0 D1 HBg r1 hb3 hbw1 F1
    go_upto_region 5 with (first
      | (refine wpList_store_new w3 rfl 23 (.tmp 7) (.tmp 22) rfl zeroB.toArray ss rfl rfl (info_blkn Hls.out) (by rw [Hls.out]; rfl) hone2 ?_)
      | fail)
    go_cut [38] (fun v38 wx => v38 = .bool false ∧ Below (w3.alloc (.cells ss.toArray 23)).heap.size (w3.alloc (.cells ss.toArray 23)) wx)
    case first =>
      rcases HE2.out with h2 | h2
      · subst h2
        have h3 := H0.out rfl
        subst h3
        go_wp2_with (first
          | (refine wpList_load_long rfl 23 (.tmp 7) rfl w3.heap.size 0 rfl ss _ r7 Try.underlying23 rfl (info_blkn Hls.out) ?_)
          | (refine wpList_load_long rfl 23 (.tmp 3) rfl (w.heap.size + 1) 0 rfl ss _ r3 Try.underlying23 rfl (info_blkn Hls.out) ?_)
          | fail)
        refine (HC.out _).mono ?_
        rintro e w4 ⟨rfl, hb4⟩
        go_wp2
        go_meet
        case rel => exact ⟨rfl, hb4⟩
      · subst h2
        go_wp2_with (first
          | (refine wpList_load_long rfl 23 (.tmp 3) rfl (w.heap.size + 1) 0 rfl ys _ r3 Try.underlying23 rfl (info_blkn Hlq.out) ?_)
          | fail)
        refine (HC.out _).mono ?_
        rintro e w4 ⟨rfl, hb4⟩
        go_wp2
        go_meet
        case rel => exact ⟨rfl, hb4⟩
    case rest =>
      obtain ⟨rfl, hb5⟩ := hcut
      have G0 := F0.below hb5 (by omega)
      have Gg := veil (Fg.below hb5 (by omega))
      have r0 := G0.range
      have hbw5 := hbw3.trans (hb5.mono hbw3.size)
      clear r7 r3 F0 Fg hb5 hbw3 hzw HC
      generalize wc = W5 at *
      by_cases hE1 : E1 = 0
      · subst hE1
        have HF' := veil (HF.out rfl)
        clear HF
        go_wp2_with (first
          | (refine wpList_load_mid rfl 23 (.tmp 2) rfl w.heap.size 0 rfl xs _ r0 Try.underlying23 rfl (info_blkn Hlb.out) ?_)
          | fail)
        go_loopg [42] 64 (fun gk i wr => ∃ k : Nat, gk = 64 - k ∧ k ≤ 64 ∧ i = .int .i64 (k : Int) ∧ Hid (Blk wr g us 23) ∧ Below w.heap.size w wr)
        case atStart => exact ⟨0, rfl, by omega, rfl, Gg, hbw5⟩
        case round =>
          clear Gg hbw5 r0 G0
          obtain ⟨k, rfl, hk, rfl, D1, hbr⟩ := hrel
          by_cases hlt : k < 64
          · have hltz : (k : Int) < 64 := by omega
            obtain ⟨x, v, hx, hv, ⟨hx1, hx2⟩, hA⟩ := HF'.out k hlt
            have hcv := D1.out.cell hv
            clear HF' hv
            by_cases h1 : -2047 ≤ x
            · by_cases h2 : x ≤ 2047
              · obtain rfl := hA h1 h2
                clear hA
                go_wp2_with (first
                  | (refine wpList_index_arr rfl 23 (.tmp 41) (.tmp 42) rfl 64 3 .i64 Try.underlying23 Try.underlying3 (by kernel_rfl) xs rfl .i64 k rfl (.int .i64 v) hlt hx ?_)
                  | fail)
                all_goals
                  go_roundg (64 - (k + 1))
                  case rel => exact ⟨k + 1, rfl, by omega, by go_num, D1, hbr⟩
                  case measure => omega
              · clear hA
                go_wp2_with (first
                  | (refine wpList_index_arr rfl 23 (.tmp 41) (.tmp 42) rfl 64 3 .i64 Try.underlying23 Try.underlying3 (by kernel_rfl) xs rfl .i64 k rfl (.int .i64 x) hlt hx ?_)
                  | fail)
                all_goals
                  go_roundg (64 - (k + 1))
                  case rel => exact ⟨k + 1, rfl, by omega, by go_num, D1, hbr⟩
                  case measure => omega
            · clear hA
              go_wp2_with (first
                | (refine wpList_index_arr rfl 23 (.tmp 41) (.tmp 42) rfl 64 3 .i64 Try.underlying23 Try.underlying3 (by kernel_rfl) xs rfl .i64 k rfl (.int .i64 x) hlt hx ?_)
                | fail)
              all_goals
                go_roundg (64 - (k + 1))
                case rel => exact ⟨k + 1, rfl, by omega, by go_num, D1, hbr⟩
                case measure => omega
          · obtain rfl : k = 64 := by omega
            go_wp2
            go_ret
            exact ⟨rfl, hbr⟩
      · have hne : (E1 != 0) = true := by simpa using hE1
        go_wp2
        go_ret
        exact ⟨rfl, hbw5⟩
end Go.Proofs.Ytpbeehalicmdjaa
