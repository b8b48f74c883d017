/- The reference's QuantScale: its contract. -/
import Derived.Test.YtpbeehalicmdjaaQScale
import Derived.Test.YtpbeehalicmdjaaRefQ
namespace Go.Proofs.Ytpbeehalicmdjaa
open Go.RowKit
set_option linter.unusedVariables false
set_option linter.unusedSimpArgs false

/-- A block boxed and a result's block. -/
def boxR (xs : List Value) (w : World) : World := (w.alloc (.cells xs.toArray 23)).alloc (.cells zeroB.toArray 23)
theorem boxR_is (xs : List Value) (w : World) : Below w.heap.size w (boxR xs w) ∧ Blk (boxR xs w) w.heap.size xs 23 ∧ Blk (boxR xs w) (w.heap.size + 1) zeroB 23 ∧ (boxR xs w).heap.size = w.heap.size + 2 := by
  have e1 := World.size_alloc w (.cells xs.toArray 23)
  have h0 := Blk.new w xs 23
  have h1 := Blk.new (w.alloc (.cells xs.toArray 23)) zeroB 23
  have b1 := below1 (w.alloc (.cells xs.toArray 23)) (.cells zeroB.toArray 23)
  refine ⟨below2 _ _ _, h0.below b1 (by omega), ?_, by simp [boxR]⟩
  rw [e1] at h1; exact h1
set_option maxHeartbeats 4000000 in
set_option maxRecDepth 100000 in
theorem refScale_any (qs : List Int) (p : Int) (w : World) (hq : qs.length = 64) :
    Calls Try.prog 20 #[blkV qs, .int .i64 p] w fun e w' => e = .returned (.tuple #[blkV (oScale qs p), .int .i64 (eScale qs p)]) ∧ Below w.heap.size w w' := by
  obtain ⟨hb3, HB0, HB2, hz3⟩ := boxR_is (ints .i64 qs) w
  have Hlq : Hid ((ints .i64 qs).length = 64) := by show _ = _; rw [ints_length, hq]
  have HC1 := veil (bwithin_any qs 1 255 (boxR (ints .i64 qs) w) hq)
  have Hz := veil zeroB_length
  have hzo := ints_one (k := .i64) (l := zero64)
  rw [zero_blk] at hzo
  by_cases hE : eScale qs p = 0
  · obtain ⟨hi1, hp1, hp2⟩ := eScale_ok hE
    have HC2 := veil (fun W => out_no p 1 1000 ⟨hp1, hp2⟩ W)
    have HO : Hid (ints .i64 (oScale qs p) = ints .i64 (overK (fScale p) qs 64)) := by show _ = _; rw [oScale, if_pos hE, overK_all]
    have H0 : Hid (ints .i64 qs = ints .i64 (overK (fScale p) qs 0)) := by show _ = _; rw [overK_zero hq]
    have Hxs : Hid (∀ k, (overK (fScale p) qs k).length = 64) := fun k => overK_length _ _ k
    have HF : Hid (∀ (k : Nat) (W : World), k < 64 → ∃ x r R : Int, qs[k]? = some x ∧ (overK (fScale p) qs k)[k]? = some x ∧ (ints .i64 (overK (fScale p) qs k)).set k (.int .i64 R) = ints .i64 (overK (fScale p) qs (k + 1)) ∧ (-1000000 ≤ x * p ∧ x * p ≤ 1000000) ∧
        (Calls Try.prog 30 #[.int .i64 (x * p), .int .i64 100] W fun e w' => e = .returned (.int .i64 r) ∧ w' = W) ∧
        (Calls Try.prog 29 #[.int .i64 r, .int .i64 1, .int .i64 255] W fun e w' => e = .returned (.int .i64 R) ∧ w' = W)) := by
      intro k W hk
      obtain ⟨x, hx⟩ := some_at (xs := qs) (j := k) (by omega)
      have h1 := inB_at hi1 hx
      have h3 := mul_small (A := 255) (by omega) h1.2 (show 0 ≤ p by omega) hp2
      refine ⟨x, rnd (x * p) 100, fScale p k x, hx, overK_at hk hx, ?_, ⟨by omega, by omega⟩, refRound_any (x * p) 100 W (by omega) (by omega) (by omega) (by omega), refClamp_any _ _ _ W⟩
      rw [overK_next hk hx]; simp [ints, List.map_set]
    rw [hi1] at HC1
    rw [hE]
    clear hE hi1 hp1 hp2
    unfold blkV at *
    rw [HO.out]
    clear HO
    generalize fScale p = f at *
    generalize ints .i64 qs = xs at *
    have r0 := HB0.range
    unfold boxR at *
    go_enter Try.func20, Try.ntmps20
    go_wp2_with (first
      | (refine wpList_load_mid rfl 23 (.tmp 2) rfl w.heap.size 0 rfl xs _ r0 Try.underlying23 rfl (info_blkn Hlq.out) ?_)
      | fail)
    refine HC1.out.mono ?_
    rintro e w2 ⟨rfl, hb2⟩
    have B0' := veil (HB0.below hb2 (by rw [hz3]; omega))
    have B2' := veil (HB2.below hb2 (by rw [hz3]; omega))
    have hbw2 := hb3.trans (hb2.mono (by rw [hz3]; omega))
    clear r0 HB0 HB2 hb3 hz3 hb2 HC1
    go_wp2_with fail
    refine (HC2.out _).mono ?_
    rintro e w1 ⟨rfl, rfl⟩
    go_wp2_with fail
    go_loopg [15] 64 (fun gk i wr => ∃ k : Nat, gk = 64 - k ∧ k ≤ 64 ∧ i = .int .i64 (k : Int) ∧ Hid (Blk wr w.heap.size (ints .i64 (overK f qs k)) 23) ∧ Hid (Blk wr (w.heap.size + 1) zeroB 23) ∧ Below w.heap.size w wr)
    case atStart => exact ⟨0, rfl, by omega, rfl, veil (by rw [← H0.out]; exact B0'.out), B2', hbw2⟩
    case round =>
      clear B0' B2' hbw2
      obtain ⟨k, rfl, hk, rfl, HB, HZ, hbw⟩ := hrel
      by_cases hlt : k < 64
      · have hltz : (k : Int) < 64 := by omega
        obtain ⟨x, r, R, hx, hox, hset, ⟨hm1, hm2⟩, HR, HL⟩ := HF.out k wr hlt
        have hcx := HB.out.cell (ints_at hox)
        have hfx := HB.out.frozen k
        have HR' := veil HR
        have HL' := veil HL
        clear HR HL
        have hgr : wr.grownBy (wr.setCell ⟨w.heap.size, k, none⟩ (.int .i64 R)) (some w.heap.size) :=
          ⟨rfl, rfl, rfl, by simp [World.setCell], fun i _ hi => Below.heap_setCell _ _ _ _ (fun e => hi (by rw [e]))⟩
        have HB5 : Hid (Blk (wr.setCell ⟨w.heap.size, k, none⟩ (.int .i64 R)) w.heap.size (ints .i64 (overK f qs (k + 1))) 23) := by
          have := HB.out.set k (.int .i64 R)
          rw [hset] at this
          exact this
        have HZ5 := veil (HZ.out.kept hgr (by simp))
        have HG5 : Below w.heap.size w (wr.setCell ⟨w.heap.size, k, none⟩ (.int .i64 R)) := hbw.grown hgr hbw.size (fun j hj => by injection hj with hj; omega)
        clear HB HZ hgr hx hox hset hbw HF HC2
        go_wp2_with fail
        refine HR'.out.mono ?_
        rintro e w1 ⟨rfl, rfl⟩
        go_wp2_with fail
        refine HL'.out.mono ?_
        rintro e w1 ⟨rfl, rfl⟩
        go_wp2_with fail
        go_roundg (64 - (k + 1))
        case rel => exact ⟨k + 1, rfl, by omega, by go_num, HB5, HZ5, HG5⟩
        case measure => omega
      · obtain rfl : k = 64 := by omega
        have HBr := HB.out
        have HZr := HZ.out
        have Hlm : Hid ((ints .i64 (overK f qs 64)).length = 64) := by show _ = _; rw [ints_length]; exact Hxs.out 64
        have hone := ints_one (k := .i64) (l := overK f qs 64)
        clear HB HZ HF H0
        generalize zeroB = x0 at *
        obtain ⟨ms, hms⟩ : ∃ ms, ms = ints .i64 (overK f qs 64) := ⟨_, rfl⟩
        rw [← hms] at HBr Hlm hone
        have HX := veil hms; clear hms
        go_wp2_with (first
          | (refine wpList_load_mid rfl 23 (.tmp 2) rfl w.heap.size 0 rfl ms _ HBr.range Try.underlying23 rfl (info_blkn Hlm.out) ?_)
          | (refine wpList_store_blk wr rfl 23 (.tmp 4) (.tmp 28) rfl (w.heap.size + 1) x0 ms 23 HZr rfl rfl (info_blkn Hlm.out) (by rw [Hlm.out, Hz.out]) hone ?_; intro w5 HB5 hg5)
          | fail)
        refine bodyPost_ret (v := .tuple #[.agg ms.toArray, .int .i64 0]) (results_row_tmp rfl _ _ (w.heap.size + 1) 23 ms.toArray (0, 0) _ _ rfl rfl HB5 Try.underlying23 rfl (by simp only [List.size_toArray]; exact info_blkn Hlm.out)) rfl ⟨by rw [HX.out], hbw.grown hg5 hbw.size (fun j hj => by injection hj with hj; omega)⟩
  · have hE1 := eScale_bad hE
    have hcase : inB 1 255 qs = false ∨ (inB 1 255 qs = true ∧ (p < 1 ∨ 1000 < p)) := by
      cases h1 : inB 1 255 qs with
      | false => exact .inl rfl
      | true =>
        refine .inr ⟨rfl, ?_⟩
        have h2 : ¬ (1 ≤ p ∧ p ≤ 1000) := fun h2 => hE (by unfold eScale; rw [if_pos ⟨h1, h2⟩])
        omega
    have HO : Hid (ints .i64 (oScale qs p) = zeroB) := by show _ = _; rw [oScale, if_neg hE]; rfl
    rw [hE1]
    clear hE hE1
    unfold blkV at *
    rw [HO.out]
    clear HO
    generalize inB 1 255 qs = i1 at *
    generalize ints .i64 qs = xs at *
    have r0 := HB0.range
    unfold boxR at *
    go_enter Try.func20, Try.ntmps20
    go_wp2_with (first
      | (refine wpList_load_mid rfl 23 (.tmp 2) rfl w.heap.size 0 rfl xs _ r0 Try.underlying23 rfl (info_blkn Hlq.out) ?_)
      | fail)
    refine HC1.out.mono ?_
    rintro e w1 ⟨rfl, hb1⟩
    have B2 := HB2.below hb1 (by rw [hz3]; omega)
    have hbw := hb3.trans (hb1.mono (by rw [hz3]; omega))
    have hz1 := hb1.size
    rw [hz3] at hz1
    clear r0 HB0 HB2 hb3 hz3 hb1 HC1
    rcases hcase with rfl | ⟨rfl, h2⟩
    · go_wp2_with (first
        | (refine wpList_store_blk w1 rfl 23 (.tmp 4) (.tmp 14) rfl (w.heap.size + 1) zeroB zeroB 23 B2 rfl rfl (info_blkn Hz.out) rfl hzo ?_; intro w5 HB5 hg5)
        | fail)
      refine bodyPost_ret (v := .tuple #[.agg zeroB.toArray, .int .i64 1]) (results_row_tmp rfl _ _ (w.heap.size + 1) 23 zeroB.toArray (0, 0) _ _ rfl rfl HB5 Try.underlying23 rfl (by simp only [List.size_toArray]; exact info_blkn Hz.out)) rfl ⟨rfl, hbw.grown hg5 hbw.size (fun j hj => by injection hj with hj; omega)⟩
    · have HC2 := veil (out_yes p 1 1000 h2 w1)
      clear h2
      go_wp2_with fail
      refine HC2.out.mono ?_
      rintro e w2 ⟨rfl, rfl⟩
      go_wp2_with (first
        | (refine wpList_store_blk w2 rfl 23 (.tmp 4) (.tmp 14) rfl (w.heap.size + 1) zeroB zeroB 23 B2 rfl rfl (info_blkn Hz.out) rfl hzo ?_; intro w5 HB5 hg5)
        | fail)
      refine bodyPost_ret (v := .tuple #[.agg zeroB.toArray, .int .i64 1]) (results_row_tmp rfl _ _ (w.heap.size + 1) 23 zeroB.toArray (0, 0) _ _ rfl rfl HB5 Try.underlying23 rfl (by simp only [List.size_toArray]; exact info_blkn Hz.out)) rfl ⟨rfl, hbw.grown hg5 hbw.size (fun j hj => by injection hj with hj; omega)⟩
end Go.Proofs.Ytpbeehalicmdjaa
