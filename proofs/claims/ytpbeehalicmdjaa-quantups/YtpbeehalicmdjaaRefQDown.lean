/- The reference's QuantDown, QuantUp and QuantScale: their contracts. -/
import Derived.Test.YtpbeehalicmdjaaQDown
import Derived.Test.YtpbeehalicmdjaaRefQ
import Derived.StillTailTactics
namespace Go.Proofs.Ytpbeehalicmdjaa
open Go.RowKit
set_option linter.unusedVariables false
set_option linter.unusedSimpArgs false

theorem eBoth_cases {M : Int} {b q : List Int} (h : ¬ eBoth M b q = 0) : inB 1 255 q = false ∨ (inB 1 255 q = true ∧ inB (-M) M b = false) := by
  unfold eBoth at h
  cases h1 : inB 1 255 q with
  | false => exact .inl rfl
  | true => cases h2 : inB (-M) M b with
    | false => exact .inr ⟨rfl, rfl⟩
    | true => simp [h1, h2] at h
set_option maxHeartbeats 4000000 in
set_option maxRecDepth 100000 in
theorem refDown_any (bs qs : List Int) (w : World) (hb : bs.length = 64) (hq : qs.length = 64) :
    Calls Try.prog 14 #[blkV bs, blkV qs] w fun e w' => e = .returned (.tuple #[blkV (oDown bs qs), .int .i64 (eBoth 40000 bs qs)]) ∧ Below w.heap.size w w' := by
  obtain ⟨hb3, HB0, HB1, HB2, hz3⟩ := boxT_is (ints .i64 bs) (ints .i64 qs) w
  have Hlb : Hid ((ints .i64 bs).length = 64) := by show _ = _; rw [ints_length, hb]
  have Hlq : Hid ((ints .i64 qs).length = 64) := by show _ = _; rw [ints_length, hq]
  have HC1 := veil (bwithin_any qs 1 255 (boxT (ints .i64 bs) (ints .i64 qs) w) hq)
  have HC2 := veil (fun W => bwithin_any bs (-40000) 40000 W hb)
  have Hz := veil zeroB_length
  have hzo := ints_one (k := .i64) (l := zero64)
  rw [zero_blk] at hzo
  by_cases hE : eBoth 40000 bs qs = 0
  · obtain ⟨hi1, hi2⟩ := eBoth_ok hE
    have HO : Hid (ints .i64 (oDown bs qs) = ints .i64 (overK (fDown qs) bs 64)) := by show _ = _; rw [oDown, if_pos hE, overK_all]
    have H0 : Hid (ints .i64 bs = ints .i64 (overK (fDown qs) bs 0)) := by show _ = _; rw [overK_zero hb]
    have Hxs : Hid (∀ k, (overK (fDown qs) bs k).length = 64) := fun k => overK_length _ _ k
    have HF : Hid (∀ (k : Nat) (W : World), k < 64 → ∃ x d r R : Int, bs[k]? = some x ∧ qs[k]? = some d ∧ (overK (fDown qs) bs k)[k]? = some x ∧ (ints .i64 (overK (fDown qs) bs k)).set k (.int .i64 R) = ints .i64 (overK (fDown qs) bs (k + 1)) ∧
        (Calls Try.prog 30 #[.int .i64 x, .int .i64 d] W fun e w' => e = .returned (.int .i64 r) ∧ w' = W) ∧
        (Calls Try.prog 29 #[.int .i64 r, .int .i64 (-2047), .int .i64 2047] W fun e w' => e = .returned (.int .i64 R) ∧ w' = W)) := by
      intro k W hk
      obtain ⟨x, hx⟩ := some_at (xs := bs) (j := k) (by omega)
      obtain ⟨d, hd⟩ := some_at (xs := qs) (j := k) (by omega)
      have h1 := inB_at hi2 hx
      have h2 := inB_at hi1 hd
      refine ⟨x, d, rnd x d, fDown qs k x, hx, hd, overK_at hk hx, ?_, refRound_any x d W (by omega) (by omega) h2.1 (by omega), ?_⟩
      · rw [overK_next hk hx]; simp [ints, List.map_set]
      · rw [fDown_at hd]; exact refClamp_any _ _ _ W
    have Hqat : Hid (∀ (k : Nat) (x : Int), qs[k]? = some x → (ints .i64 qs)[k]? = some (.int .i64 x)) := fun _ _ h => ints_at h
    rw [hi1] at HC1
    rw [hi2] at HC2
    rw [hE]
    clear hE hi1 hi2
    unfold blkV at *
    rw [HO.out]
    clear HO
    generalize fDown qs = f at *
    generalize ints .i64 bs = xs at *
    generalize ints .i64 qs = ys at *
    have r0 := HB0.range
    have r1 := HB1.range
    unfold boxT at *
    go_enter Try.func14, Try.ntmps14
    go_wp2_with (first
      | (refine wpList_load_mid rfl 23 (.tmp 3) rfl (w.heap.size + 1) 0 rfl ys _ r1 Try.underlying23 rfl (info_blkn Hlq.out) ?_)
      | fail)
    refine HC1.out.mono ?_
    rintro e w1 ⟨rfl, hb1⟩
    have r0' := range_below r0 hb1 (by rw [hz3]; omega)
    have B0 := HB0.below hb1 (by rw [hz3]; omega)
    have B1 := HB1.below hb1 (by rw [hz3]; omega)
    have B2 := HB2.below hb1 (by rw [hz3]; omega)
    have hbw := hb3.trans (hb1.mono (by rw [hz3]; omega))
    have hz1 := hb1.size
    rw [hz3] at hz1
    clear r0 r1 HB0 HB1 HB2 hb3 hz3 hb1 HC1
    go_wp2_with (first
      | (refine wpList_load_long rfl 23 (.tmp 2) rfl w.heap.size 0 rfl xs _ r0' Try.underlying23 rfl (info_blkn Hlb.out) ?_)
      | fail)
    refine (HC2.out _).mono ?_
    rintro e w2 ⟨rfl, hb2⟩
    have B0' := veil (B0.below hb2 (by omega))
    have B1' := veil (B1.below hb2 (by omega))
    have B2' := veil (B2.below hb2 (by omega))
    have hbw2 := hbw.trans (hb2.mono hbw.size)
    clear r0' B0 B1 B2 HC2 hbw hb2
    go_wp2_with fail
    go_loopg [16] 64 (fun gk i wr => ∃ k : Nat, gk = 64 - k ∧ k ≤ 64 ∧ i = .int .i64 (k : Int) ∧ Hid (Blk wr w.heap.size (ints .i64 (overK f bs k)) 23) ∧ Hid (Blk wr (w.heap.size + 1) ys 23) ∧ Hid (Blk wr (w.heap.size + 1 + 1) zeroB 23) ∧ Below w.heap.size w wr)
    case atStart => exact ⟨0, rfl, by omega, rfl, veil (by rw [← H0.out]; exact B0'.out), B1', B2', hbw2⟩
    case round =>
      clear B0' B1' B2' hbw2
      obtain ⟨k, rfl, hk, rfl, HB, HQ, HZ, hbw⟩ := hrel
      by_cases hlt : k < 64
      · have hltz : (k : Int) < 64 := by omega
        obtain ⟨x, d, r, R, hx, hd, hox, hset, HR, HL⟩ := HF.out k (wr.drew) hlt
        have hcx := HB.out.cell (ints_at hox)
        have hfx := HB.out.frozen k
        have hcd := HQ.out.cell (Hqat.out _ _ hd)
        have HR' := veil HR
        have HL' := veil HL
        clear HR HL
        have hgr : wr.grownBy (wr.drew.setCell ⟨w.heap.size, k, none⟩ (.int .i64 R)) (some w.heap.size) :=
          World.grownBy.trans (drewN_grown wr 1 _) ⟨rfl, rfl, rfl, by simp [World.setCell], fun i _ hi => Below.heap_setCell _ _ _ _ (fun e => hi (by rw [e]))⟩
        have HB5 : Hid (Blk (wr.drew.setCell ⟨w.heap.size, k, none⟩ (.int .i64 R)) w.heap.size (ints .i64 (overK f bs (k + 1))) 23) := by
          have := (HB.out.drewN 1).set k (.int .i64 R)
          rw [hset] at this
          exact this
        have HQ5 := veil (HQ.out.kept hgr (by simp))
        have HZ5 := veil (HZ.out.kept hgr (by simp; omega))
        have HG5 : Below w.heap.size w (wr.drew.setCell ⟨w.heap.size, k, none⟩ (.int .i64 R)) := hbw.grown hgr hbw.size (fun j hj => by injection hj with hj; omega)
        clear HB HQ HZ hgr hx hd hox hset hbw HF Hqat
        go_wp2_with fail
        go_still_tail 10, (by kernel_rfl)
        repeat still_step
        still_call HR'.out
        repeat still_step
        still_call HL'.out
        repeat still_step
        refine wpStill_nil ?_
        change wpList _ _ _ _ _ wr.drew
        have hcx' : wr.drew.cell? ⟨w.heap.size, k, none⟩ = some (.int .i64 x) := hcx
        have hfx' : wr.drew.frozen? ⟨w.heap.size, k, none⟩ = false := hfx
        go_wp2_with fail
        go_roundg (64 - (k + 1))
        case rel => exact ⟨k + 1, rfl, by omega, by go_num, HB5, HQ5, HZ5, HG5⟩
        case measure => omega
      · obtain rfl : k = 64 := by omega
        have HBr := HB.out
        have HZr := HZ.out
        have Hlm : Hid ((ints .i64 (overK f bs 64)).length = 64) := by show _ = _; rw [ints_length]; exact Hxs.out 64
        have hone := ints_one (k := .i64) (l := overK f bs 64)
        clear HB HZ HF H0
        generalize zeroB = x0 at *
        obtain ⟨ms, hms⟩ : ∃ ms, ms = ints .i64 (overK f bs 64) := ⟨_, rfl⟩
        rw [← hms] at HBr Hlm hone
        have HX := veil hms; clear hms
        go_wp2_with (first
          | (refine wpList_load_mid rfl 23 (.tmp 2) rfl w.heap.size 0 rfl ms _ HBr.range Try.underlying23 rfl (info_blkn Hlm.out) ?_)
          | (refine wpList_store_blk wr rfl 23 (.tmp 4) (.tmp 30) rfl (w.heap.size + 1 + 1) x0 ms 23 HZr rfl rfl (info_blkn Hlm.out) (by rw [Hlm.out, Hz.out]) hone ?_; intro w5 HB5 hg5)
          | fail)
        refine bodyPost_ret (v := .tuple #[.agg ms.toArray, .int .i64 0]) (results_row_tmp rfl _ _ (w.heap.size + 1 + 1) 23 ms.toArray (0, 0) _ _ rfl rfl HB5 Try.underlying23 rfl (by simp only [List.size_toArray]; exact info_blkn Hlm.out)) rfl ⟨by rw [HX.out], hbw.grown hg5 hbw.size (fun j hj => by injection hj with hj; omega)⟩
  · have hE1 := eBoth_bad hE
    have hcase := eBoth_cases hE
    have HO : Hid (ints .i64 (oDown bs qs) = zeroB) := by show _ = _; rw [oDown, if_neg hE]; rfl
    rw [hE1]
    clear hE hE1
    unfold blkV at *
    rw [HO.out]
    clear HO
    generalize inB 1 255 qs = i1 at *
    generalize inB (-40000) 40000 bs = i2 at *
    generalize ints .i64 bs = xs at *
    generalize ints .i64 qs = ys at *
    have r0 := HB0.range
    have r1 := HB1.range
    unfold boxT at *
    go_enter Try.func14, Try.ntmps14
    go_wp2_with (first
      | (refine wpList_load_mid rfl 23 (.tmp 3) rfl (w.heap.size + 1) 0 rfl ys _ r1 Try.underlying23 rfl (info_blkn Hlq.out) ?_)
      | fail)
    refine HC1.out.mono ?_
    rintro e w1 ⟨rfl, hb1⟩
    have r0' := range_below r0 hb1 (by rw [hz3]; omega)
    have B2 := HB2.below hb1 (by rw [hz3]; omega)
    have hbw := hb3.trans (hb1.mono (by rw [hz3]; omega))
    have hz1 := hb1.size
    rw [hz3] at hz1
    clear r0 r1 HB0 HB1 HB2 hb3 hz3 hb1 HC1
    rcases hcase with rfl | ⟨rfl, rfl⟩
    · clear HC2 r0'
      go_wp2_with (first
        | (refine wpList_store_blk w1 rfl 23 (.tmp 4) (.tmp 15) rfl (w.heap.size + 1 + 1) zeroB zeroB 23 B2 rfl rfl (info_blkn Hz.out) rfl hzo ?_; intro w5 HB5 hg5)
        | fail)
      refine bodyPost_ret (v := .tuple #[.agg zeroB.toArray, .int .i64 1]) (results_row_tmp rfl _ _ (w.heap.size + 1 + 1) 23 zeroB.toArray (0, 0) _ _ rfl rfl HB5 Try.underlying23 rfl (by simp only [List.size_toArray]; exact info_blkn Hz.out)) rfl ⟨rfl, hbw.grown hg5 hbw.size (fun j hj => by injection hj with hj; omega)⟩
    · go_wp2_with (first
        | (refine wpList_load_long rfl 23 (.tmp 2) rfl w.heap.size 0 rfl xs _ r0' Try.underlying23 rfl (info_blkn Hlb.out) ?_)
        | fail)
      refine (HC2.out _).mono ?_
      rintro e w2 ⟨rfl, hb2⟩
      have B2' := B2.below hb2 (by omega)
      have hbw2 := hbw.trans (hb2.mono hbw.size)
      clear HC2 r0' B2 hbw hb2
      go_wp2_with (first
        | (refine wpList_store_blk w2 rfl 23 (.tmp 4) (.tmp 15) rfl (w.heap.size + 1 + 1) zeroB zeroB 23 B2' rfl rfl (info_blkn Hz.out) rfl hzo ?_; intro w5 HB5 hg5)
        | fail)
      refine bodyPost_ret (v := .tuple #[.agg zeroB.toArray, .int .i64 1]) (results_row_tmp rfl _ _ (w.heap.size + 1 + 1) 23 zeroB.toArray (0, 0) _ _ rfl rfl HB5 Try.underlying23 rfl (by simp only [List.size_toArray]; exact info_blkn Hz.out)) rfl ⟨rfl, hbw2.grown hg5 hbw2.size (fun j hj => by injection hj with hj; omega)⟩
set_option maxHeartbeats 4000000 in
set_option maxRecDepth 100000 in
theorem refUp_any (bs qs : List Int) (w : World) (hb : bs.length = 64) (hq : qs.length = 64) :
    Calls Try.prog 18 #[blkV bs, blkV qs] w fun e w' => e = .returned (.tuple #[blkV (oUp bs qs), .int .i64 (eBoth 2047 bs qs)]) ∧ Below w.heap.size w w' := by
  obtain ⟨hb3, HB0, HB1, HB2, hz3⟩ := boxT_is (ints .i64 bs) (ints .i64 qs) w
  have Hlb : Hid ((ints .i64 bs).length = 64) := by show _ = _; rw [ints_length, hb]
  have Hlq : Hid ((ints .i64 qs).length = 64) := by show _ = _; rw [ints_length, hq]
  have HC1 := veil (bwithin_any qs 1 255 (boxT (ints .i64 bs) (ints .i64 qs) w) hq)
  have HC2 := veil (fun W => bwithin_any bs (-2047) 2047 W hb)
  have Hz := veil zeroB_length
  have hzo := ints_one (k := .i64) (l := zero64)
  rw [zero_blk] at hzo
  by_cases hE : eBoth 2047 bs qs = 0
  · obtain ⟨hi1, hi2⟩ := eBoth_ok hE
    have HO : Hid (ints .i64 (oUp bs qs) = ints .i64 (overK (fUp qs) bs 64)) := by show _ = _; rw [oUp, if_pos hE, overK_all]
    have H0 : Hid (ints .i64 bs = ints .i64 (overK (fUp qs) bs 0)) := by show _ = _; rw [overK_zero hb]
    have Hxs : Hid (∀ k, (overK (fUp qs) bs k).length = 64) := fun k => overK_length _ _ k
    have HF : Hid (∀ (k : Nat) (W : World), k < 64 → ∃ x d R : Int, bs[k]? = some x ∧ qs[k]? = some d ∧ (overK (fUp qs) bs k)[k]? = some x ∧ (ints .i64 (overK (fUp qs) bs k)).set k (.int .i64 R) = ints .i64 (overK (fUp qs) bs (k + 1)) ∧
        (-1000000 ≤ x * d ∧ x * d ≤ 1000000) ∧
        (Calls Try.prog 29 #[.int .i64 (IntKind.i64.wrap (x * d)), .int .i64 (-40000), .int .i64 40000] W fun e w' => e = .returned (.int .i64 R) ∧ w' = W)) := by
      intro k W hk
      obtain ⟨x, hx⟩ := some_at (xs := bs) (j := k) (by omega)
      obtain ⟨d, hd⟩ := some_at (xs := qs) (j := k) (by omega)
      have h1 := inB_at hi2 hx
      have h2 := inB_at hi1 hd
      have h3 := mul_small h1.1 h1.2 (show 0 ≤ d by omega) h2.2
      refine ⟨x, d, fUp qs k x, hx, hd, overK_at hk hx, ?_, ⟨by omega, by omega⟩, ?_⟩
      · rw [overK_next hk hx]; simp [ints, List.map_set]
      · rw [fUp_at hd, show IntKind.i64.wrap (x * d) = x * d by rw [IntKind.wrap_i64]; omega]; exact refClamp_any _ _ _ W
    have Hqat : Hid (∀ (k : Nat) (x : Int), qs[k]? = some x → (ints .i64 qs)[k]? = some (.int .i64 x)) := fun _ _ h => ints_at h
    rw [hi1] at HC1
    rw [hi2] at HC2
    rw [hE]
    clear hE hi1 hi2
    unfold blkV at *
    rw [HO.out]
    clear HO
    generalize fUp qs = f at *
    generalize ints .i64 bs = xs at *
    generalize ints .i64 qs = ys at *
    have r0 := HB0.range
    have r1 := HB1.range
    unfold boxT at *
    go_enter Try.func18, Try.ntmps18
    go_wp2_with (first
      | (refine wpList_load_mid rfl 23 (.tmp 3) rfl (w.heap.size + 1) 0 rfl ys _ r1 Try.underlying23 rfl (info_blkn Hlq.out) ?_)
      | fail)
    refine HC1.out.mono ?_
    rintro e w1 ⟨rfl, hb1⟩
    have r0' := range_below r0 hb1 (by rw [hz3]; omega)
    have B0 := HB0.below hb1 (by rw [hz3]; omega)
    have B1 := HB1.below hb1 (by rw [hz3]; omega)
    have B2 := HB2.below hb1 (by rw [hz3]; omega)
    have hbw := hb3.trans (hb1.mono (by rw [hz3]; omega))
    have hz1 := hb1.size
    rw [hz3] at hz1
    clear r0 r1 HB0 HB1 HB2 hb3 hz3 hb1 HC1
    go_wp2_with (first
      | (refine wpList_load_long rfl 23 (.tmp 2) rfl w.heap.size 0 rfl xs _ r0' Try.underlying23 rfl (info_blkn Hlb.out) ?_)
      | fail)
    refine (HC2.out _).mono ?_
    rintro e w2 ⟨rfl, hb2⟩
    have B0' := veil (B0.below hb2 (by omega))
    have B1' := veil (B1.below hb2 (by omega))
    have B2' := veil (B2.below hb2 (by omega))
    have hbw2 := hbw.trans (hb2.mono hbw.size)
    clear r0' B0 B1 B2 HC2 hbw hb2
    go_wp2_with fail
    go_loopg [16] 64 (fun gk i wr => ∃ k : Nat, gk = 64 - k ∧ k ≤ 64 ∧ i = .int .i64 (k : Int) ∧ Hid (Blk wr w.heap.size (ints .i64 (overK f bs k)) 23) ∧ Hid (Blk wr (w.heap.size + 1) ys 23) ∧ Hid (Blk wr (w.heap.size + 1 + 1) zeroB 23) ∧ Below w.heap.size w wr)
    case atStart => exact ⟨0, rfl, by omega, rfl, veil (by rw [← H0.out]; exact B0'.out), B1', B2', hbw2⟩
    case round =>
      clear B0' B1' B2' hbw2
      obtain ⟨k, rfl, hk, rfl, HB, HQ, HZ, hbw⟩ := hrel
      by_cases hlt : k < 64
      · have hltz : (k : Int) < 64 := by omega
        obtain ⟨x, d, R, hx, hd, hox, hset, ⟨hm1, hm2⟩, HL⟩ := HF.out k (wr.drew) hlt
        have hcx := HB.out.cell (ints_at hox)
        have hfx := HB.out.frozen k
        have hcd := HQ.out.cell (Hqat.out _ _ hd)
        have HL' := veil HL
        clear HL
        have hgr : wr.grownBy (wr.drew.setCell ⟨w.heap.size, k, none⟩ (.int .i64 R)) (some w.heap.size) :=
          World.grownBy.trans (drewN_grown wr 1 _) ⟨rfl, rfl, rfl, by simp [World.setCell], fun i _ hi => Below.heap_setCell _ _ _ _ (fun e => hi (by rw [e]))⟩
        have HB5 : Hid (Blk (wr.drew.setCell ⟨w.heap.size, k, none⟩ (.int .i64 R)) w.heap.size (ints .i64 (overK f bs (k + 1))) 23) := by
          have := (HB.out.drewN 1).set k (.int .i64 R)
          rw [hset] at this
          exact this
        have HQ5 := veil (HQ.out.kept hgr (by simp))
        have HZ5 := veil (HZ.out.kept hgr (by simp; omega))
        have HG5 : Below w.heap.size w (wr.drew.setCell ⟨w.heap.size, k, none⟩ (.int .i64 R)) := hbw.grown hgr hbw.size (fun j hj => by injection hj with hj; omega)
        clear HB HQ HZ hgr hx hd hox hset hbw HF Hqat
        go_wp2_with fail
        go_still_tail 10, (by kernel_rfl)
        repeat still_step
        still_call HL'.out
        repeat still_step
        refine wpStill_nil ?_
        change wpList _ _ _ _ _ wr.drew
        have hcx' : wr.drew.cell? ⟨w.heap.size, k, none⟩ = some (.int .i64 x) := hcx
        have hfx' : wr.drew.frozen? ⟨w.heap.size, k, none⟩ = false := hfx
        go_wp2_with fail
        go_roundg (64 - (k + 1))
        case rel => exact ⟨k + 1, rfl, by omega, by go_num, HB5, HQ5, HZ5, HG5⟩
        case measure => omega
      · obtain rfl : k = 64 := by omega
        have HBr := HB.out
        have HZr := HZ.out
        have Hlm : Hid ((ints .i64 (overK f bs 64)).length = 64) := by show _ = _; rw [ints_length]; exact Hxs.out 64
        have hone := ints_one (k := .i64) (l := overK f bs 64)
        clear HB HZ HF H0
        generalize zeroB = x0 at *
        obtain ⟨ms, hms⟩ : ∃ ms, ms = ints .i64 (overK f bs 64) := ⟨_, rfl⟩
        rw [← hms] at HBr Hlm hone
        have HX := veil hms; clear hms
        go_wp2_with (first
          | (refine wpList_load_mid rfl 23 (.tmp 2) rfl w.heap.size 0 rfl ms _ HBr.range Try.underlying23 rfl (info_blkn Hlm.out) ?_)
          | (refine wpList_store_blk wr rfl 23 (.tmp 4) (.tmp 30) rfl (w.heap.size + 1 + 1) x0 ms 23 HZr rfl rfl (info_blkn Hlm.out) (by rw [Hlm.out, Hz.out]) hone ?_; intro w5 HB5 hg5)
          | fail)
        refine bodyPost_ret (v := .tuple #[.agg ms.toArray, .int .i64 0]) (results_row_tmp rfl _ _ (w.heap.size + 1 + 1) 23 ms.toArray (0, 0) _ _ rfl rfl HB5 Try.underlying23 rfl (by simp only [List.size_toArray]; exact info_blkn Hlm.out)) rfl ⟨by rw [HX.out], hbw.grown hg5 hbw.size (fun j hj => by injection hj with hj; omega)⟩
  · have hE1 := eBoth_bad hE
    have hcase := eBoth_cases hE
    have HO : Hid (ints .i64 (oUp bs qs) = zeroB) := by show _ = _; rw [oUp, if_neg hE]; rfl
    rw [hE1]
    clear hE hE1
    unfold blkV at *
    rw [HO.out]
    clear HO
    generalize inB 1 255 qs = i1 at *
    generalize inB (-2047) 2047 bs = i2 at *
    generalize ints .i64 bs = xs at *
    generalize ints .i64 qs = ys at *
    have r0 := HB0.range
    have r1 := HB1.range
    unfold boxT at *
    go_enter Try.func18, Try.ntmps18
    go_wp2_with (first
      | (refine wpList_load_mid rfl 23 (.tmp 3) rfl (w.heap.size + 1) 0 rfl ys _ r1 Try.underlying23 rfl (info_blkn Hlq.out) ?_)
      | fail)
    refine HC1.out.mono ?_
    rintro e w1 ⟨rfl, hb1⟩
    have r0' := range_below r0 hb1 (by rw [hz3]; omega)
    have B2 := HB2.below hb1 (by rw [hz3]; omega)
    have hbw := hb3.trans (hb1.mono (by rw [hz3]; omega))
    have hz1 := hb1.size
    rw [hz3] at hz1
    clear r0 r1 HB0 HB1 HB2 hb3 hz3 hb1 HC1
    rcases hcase with rfl | ⟨rfl, rfl⟩
    · clear HC2 r0'
      go_wp2_with (first
        | (refine wpList_store_blk w1 rfl 23 (.tmp 4) (.tmp 15) rfl (w.heap.size + 1 + 1) zeroB zeroB 23 B2 rfl rfl (info_blkn Hz.out) rfl hzo ?_; intro w5 HB5 hg5)
        | fail)
      refine bodyPost_ret (v := .tuple #[.agg zeroB.toArray, .int .i64 1]) (results_row_tmp rfl _ _ (w.heap.size + 1 + 1) 23 zeroB.toArray (0, 0) _ _ rfl rfl HB5 Try.underlying23 rfl (by simp only [List.size_toArray]; exact info_blkn Hz.out)) rfl ⟨rfl, hbw.grown hg5 hbw.size (fun j hj => by injection hj with hj; omega)⟩
    · go_wp2_with (first
        | (refine wpList_load_long rfl 23 (.tmp 2) rfl w.heap.size 0 rfl xs _ r0' Try.underlying23 rfl (info_blkn Hlb.out) ?_)
        | fail)
      refine (HC2.out _).mono ?_
      rintro e w2 ⟨rfl, hb2⟩
      have B2' := B2.below hb2 (by omega)
      have hbw2 := hbw.trans (hb2.mono hbw.size)
      clear HC2 r0' B2 hbw hb2
      go_wp2_with (first
        | (refine wpList_store_blk w2 rfl 23 (.tmp 4) (.tmp 15) rfl (w.heap.size + 1 + 1) zeroB zeroB 23 B2' rfl rfl (info_blkn Hz.out) rfl hzo ?_; intro w5 HB5 hg5)
        | fail)
      refine bodyPost_ret (v := .tuple #[.agg zeroB.toArray, .int .i64 1]) (results_row_tmp rfl _ _ (w.heap.size + 1 + 1) 23 zeroB.toArray (0, 0) _ _ rfl rfl HB5 Try.underlying23 rfl (by simp only [List.size_toArray]; exact info_blkn Hz.out)) rfl ⟨rfl, hbw2.grown hg5 hbw2.size (fun j hj => by injection hj with hj; omega)⟩
end Go.Proofs.Ytpbeehalicmdjaa
