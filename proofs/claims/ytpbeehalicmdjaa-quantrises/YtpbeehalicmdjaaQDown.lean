/- quant.Down, Up and Scale: their contracts. -/
import Derived.Test.YtpbeehalicmdjaaQEach
namespace Go.Proofs.Ytpbeehalicmdjaa
open Go.RowKit
set_option linter.unusedVariables false
set_option linter.unusedSimpArgs false

theorem results_row_tmp {P : Program} {fn : Func} {p u : Tmp} {ty : TypeId} (h : fn.results = #[.cell p ty, .tmp u]) (tmps : Array Value) (w : World) (g : Nat) (t : TypeId) (cs : Array Value) (fr : Nat × Nat) (d : TypeDesc) (x : Value)
    (hp : tmps.getD p undef = .pointer (some ⟨g, 0, none⟩)) (hx : tmps.getD u undef = x) (hg : w.heap[g]? = some (.cells cs t fr))
    (hu : P.underlying ty = some d) (hd : (match d with | .struct _ | .array _ _ => true | _ => false) = true) (hi : (P.info? ty).map (·.size) = some cs.size) :
    (results fn tmps).run P w = .ok (.tuple #[.agg cs, x]) w := by
  rw [results_cell_tmp h, hp, hx]
  simp [asAddr, run_loadVar_row w g t ty cs fr d hg hu hd hi, Result.andThen]
/-- Two blocks boxed and a result's block. -/
def boxT (xs ys : List Value) (w : World) : World := ((w.alloc (.cells xs.toArray 23)).alloc (.cells ys.toArray 23)).alloc (.cells zeroB.toArray 23)
theorem boxT_is (xs ys : List Value) (w : World) : Below w.heap.size w (boxT xs ys w) ∧ Blk (boxT xs ys w) w.heap.size xs 23 ∧ Blk (boxT xs ys w) (w.heap.size + 1) ys 23 ∧ Blk (boxT xs ys w) (w.heap.size + 1 + 1) zeroB 23 ∧ (boxT xs ys w).heap.size = w.heap.size + 3 := by
  have e1 := World.size_alloc w (.cells xs.toArray 23)
  have e2 := World.size_alloc (w.alloc (.cells xs.toArray 23)) (.cells ys.toArray 23)
  have h0 := Blk.new w xs 23
  have h1 := Blk.new (w.alloc (.cells xs.toArray 23)) ys 23
  have h2 := Blk.new ((w.alloc (.cells xs.toArray 23)).alloc (.cells ys.toArray 23)) zeroB 23
  have b1 := below1 ((w.alloc (.cells xs.toArray 23)).alloc (.cells ys.toArray 23)) (.cells zeroB.toArray 23)
  have b2 := below2 (w.alloc (.cells xs.toArray 23)) (.cells ys.toArray 23) (.cells zeroB.toArray 23)
  refine ⟨below3 _ _ _ _, h0.below b2 (by omega), ?_, ?_, by simp [boxT]⟩
  · have := h1.below b1 (by omega)
    rw [e1] at this; exact this
  · rw [e2, e1] at h2; exact h2
theorem zero_blk : ints .i64 zero64 = zeroB := rfl
theorem mul_small {a b A B : Int} (h1 : -A ≤ a) (h2 : a ≤ A) (h3 : 0 ≤ b) (h4 : b ≤ B) : -(A * B) ≤ a * b ∧ a * b ≤ A * B := by
  have hA : 0 ≤ A := by omega
  have e1 := Int.mul_le_mul_of_nonneg_right h2 h3
  have e2 := Int.mul_le_mul_of_nonneg_right h1 h3
  have e3 := Int.mul_le_mul_of_nonneg_left h4 hA
  rw [Int.neg_mul] at e2
  omega
set_option maxHeartbeats 4000000 in
set_option maxRecDepth 100000 in
theorem down_any (bs qs : List Int) (w : World) (hb : bs.length = 64) (hq : qs.length = 64) :
    Calls Try.prog 13 #[blkV bs, blkV qs] w fun e w' => e = .returned (.tuple #[blkV (oDown bs qs), .int .i64 (eBoth 40000 bs qs)]) ∧ Below w.heap.size w w' := by
  obtain ⟨hb3, HB0, HB1, HB2, hz3⟩ := boxT_is (ints .i64 bs) (ints .i64 qs) w
  have Hlb : Hid ((ints .i64 bs).length = 64) := by show _ = _; rw [ints_length, hb]
  have Hlq : Hid ((ints .i64 qs).length = 64) := by show _ = _; rw [ints_length, hq]
  have HC := veil (both_any bs qs 40000 (boxT (ints .i64 bs) (ints .i64 qs) w) hb hq (by omega) (by omega))
  have Hz := veil zeroB_length
  have hzo := ints_one (k := .i64) (l := zero64)
  rw [zero_blk] at hzo
  by_cases hE : eBoth 40000 bs qs = 0
  · obtain ⟨hi1, hi2⟩ := eBoth_ok hE
    have HEach : Hid (∀ W, Blk W (w.heap.size + 1) (ints .i64 qs) 23 → Calls Try.prog 25 #[blkV bs, .func (.func 26) #[] #[.pointer (some ⟨w.heap.size + 1, 0, none⟩)]] W fun e w' => e = .returned (blkV (mapL (fDown qs) bs)) ∧ Below W.heap.size W w') := by
      intro W hB
      refine eachDown_any _ (fDown qs) bs W hb fun i x W' hi hx hbl => ?_
      obtain ⟨d, hd⟩ := some_at (xs := qs) (j := i) (by omega)
      rw [fDown_at hd]
      have h1 := inB_at hi2 hx
      have h2 := inB_at hi1 hd
      exact downF_any i x d _ W' hi ((hB.below hbl hB.lt).cell (ints_at hd)) h1.1 h1.2 h2.1 h2.2
    have HO : Hid (ints .i64 (oDown bs qs) = ints .i64 (mapL (fDown qs) bs)) := by show _ = _; rw [oDown, if_pos hE]
    have Hlm : Hid ((ints .i64 (mapL (fDown qs) bs)).length = 64) := by show _ = _; rw [ints_length, mapL_length]
    have hone := ints_one (k := .i64) (l := mapL (fDown qs) bs)
    rw [hE] at HC ⊢
    clear hE hi1 hi2
    unfold blkV at *
    rw [HO.out]
    clear HO
    generalize ints .i64 (mapL (fDown qs) bs) = ms at *
    generalize ints .i64 bs = xs at *
    generalize ints .i64 qs = ys at *
    have r0 := HB0.range
    have r1 := HB1.range
    unfold boxT at *
    go_enter Try.func13, Try.ntmps13
    go_wp2_with (first
      | (refine wpList_load_mid rfl 23 (.tmp 2) rfl w.heap.size 0 rfl xs _ r0 Try.underlying23 rfl (info_blkn Hlb.out) ?_)
      | (refine wpList_load_mid rfl 23 (.tmp 3) rfl (w.heap.size + 1) 0 rfl ys _ r1 Try.underlying23 rfl (info_blkn Hlq.out) ?_)
      | fail)
    refine HC.out.mono ?_
    rintro e w1 ⟨rfl, hb1⟩
    have r0' := range_below r0 hb1 (by rw [hz3]; omega)
    have B1 := HB1.below hb1 (by rw [hz3]; omega)
    have B2 := HB2.below hb1 (by rw [hz3]; omega)
    have hbw := hb3.trans (hb1.mono (by rw [hz3]; omega))
    have hz1 := hb1.size
    rw [hz3] at hz1
    have HE := veil (HEach.out w1 B1)
    clear r0 r1 HB0 HB1 HB2 hb3 hz3 hb1 HC HEach B1
    go_wp2_with (first
      | (refine wpList_load_mid rfl 23 (.tmp 2) rfl w.heap.size 0 rfl xs _ r0' Try.underlying23 rfl (info_blkn Hlb.out) ?_)
      | fail)
    refine HE.out.mono ?_
    rintro e w2 ⟨rfl, hb2⟩
    have B2' := B2.below hb2 (by omega)
    have hbw2 := hbw.trans (hb2.mono hbw.size)
    clear B2 HE r0'
    generalize zeroB = x0 at *
    go_wp2_with (first
      | (refine wpList_store_blk w2 rfl 23 (.tmp 4) (.tmp 16) rfl (w.heap.size + 1 + 1) x0 ms 23 B2' rfl rfl (info_blkn Hlm.out) (by rw [Hlm.out, Hz.out]) hone ?_; intro w5 HB5 hg5)
      | fail)
    refine bodyPost_ret (v := .tuple #[.agg ms.toArray, .int .i64 0]) (results_row_tmp rfl _ _ (w.heap.size + 1 + 1) 23 ms.toArray (0, 0) _ _ rfl rfl HB5 Try.underlying23 rfl (by simp only [List.size_toArray]; exact info_blkn Hlm.out)) rfl ⟨rfl, hbw2.grown hg5 hbw2.size (fun j hj => by injection hj with hj; omega)⟩
  · have hE1 := eBoth_bad hE
    have HO : Hid (ints .i64 (oDown bs qs) = zeroB) := by show _ = _; rw [oDown, if_neg hE]; rfl
    have HZV : Hid (zeroB = ints .i64 (List.replicate 64 0)) := rfl
    rw [hE1] at HC ⊢
    clear hE hE1
    unfold blkV at *
    rw [HO.out]
    clear HO
    generalize ints .i64 bs = xs at *
    generalize ints .i64 qs = ys at *
    have r0 := HB0.range
    have r1 := HB1.range
    unfold boxT at *
    go_enter Try.func13, Try.ntmps13
    go_wp2_with (first
      | (refine wpList_load_mid rfl 23 (.tmp 2) rfl w.heap.size 0 rfl xs _ r0 Try.underlying23 rfl (info_blkn Hlb.out) ?_)
      | (refine wpList_load_mid rfl 23 (.tmp 3) rfl (w.heap.size + 1) 0 rfl ys _ r1 Try.underlying23 rfl (info_blkn Hlq.out) ?_)
      | fail)
    refine HC.out.mono ?_
    rintro e w1 ⟨rfl, hb1⟩
    have B2 := HB2.below hb1 (by rw [hz3]; omega)
    have hbw := hb3.trans (hb1.mono (by rw [hz3]; omega))
    have hz1 := hb1.size
    rw [hz3] at hz1
    clear r0 r1 HB0 HB1 HB2 hb3 hz3 hb1 HC
    go_wp2_with (first
      | (refine wpList_store_blk w1 rfl 23 (.tmp 4) (.tmp 12) rfl (w.heap.size + 1 + 1) zeroB zeroB 23 B2 rfl rfl (info_blkn Hz.out) rfl hzo ?_; intro w5 HB5 hg5)
      | fail)
    refine bodyPost_ret (v := .tuple #[.agg zeroB.toArray, .int .i64 1]) (results_row_tmp rfl _ _ (w.heap.size + 1 + 1) 23 zeroB.toArray (0, 0) _ _ rfl rfl HB5 Try.underlying23 rfl (by simp only [List.size_toArray]; exact info_blkn Hz.out)) rfl ⟨rfl, hbw.grown hg5 hbw.size (fun j hj => by injection hj with hj; omega)⟩
set_option maxHeartbeats 4000000 in
set_option maxRecDepth 100000 in
theorem up_any (bs qs : List Int) (w : World) (hb : bs.length = 64) (hq : qs.length = 64) :
    Calls Try.prog 17 #[blkV bs, blkV qs] w fun e w' => e = .returned (.tuple #[blkV (oUp bs qs), .int .i64 (eBoth 2047 bs qs)]) ∧ Below w.heap.size w w' := by
  obtain ⟨hb3, HB0, HB1, HB2, hz3⟩ := boxT_is (ints .i64 bs) (ints .i64 qs) w
  have Hlb : Hid ((ints .i64 bs).length = 64) := by show _ = _; rw [ints_length, hb]
  have Hlq : Hid ((ints .i64 qs).length = 64) := by show _ = _; rw [ints_length, hq]
  have HC := veil (both_any bs qs 2047 (boxT (ints .i64 bs) (ints .i64 qs) w) hb hq (by omega) (by omega))
  have Hz := veil zeroB_length
  have hzo := ints_one (k := .i64) (l := zero64)
  rw [zero_blk] at hzo
  by_cases hE : eBoth 2047 bs qs = 0
  · obtain ⟨hi1, hi2⟩ := eBoth_ok hE
    have HEach : Hid (∀ W, Blk W (w.heap.size + 1) (ints .i64 qs) 23 → Calls Try.prog 25 #[blkV bs, .func (.func 33) #[] #[.pointer (some ⟨w.heap.size + 1, 0, none⟩)]] W fun e w' => e = .returned (blkV (mapL (fUp qs) bs)) ∧ Below W.heap.size W w') := by
      intro W hB
      refine eachUp_any _ (fUp qs) bs W hb fun i x W' hi hx hbl => ?_
      obtain ⟨d, hd⟩ := some_at (xs := qs) (j := i) (by omega)
      rw [fUp_at hd]
      have h1 := inB_at hi2 hx
      have h2 := inB_at hi1 hd
      have h3 := mul_small h1.1 h1.2 (show 0 ≤ d by omega) h2.2
      exact upF_any i x d _ W' hi ((hB.below hbl hB.lt).cell (ints_at hd)) (wrap_small (by omega) (by omega))
    have HO : Hid (ints .i64 (oUp bs qs) = ints .i64 (mapL (fUp qs) bs)) := by show _ = _; rw [oUp, if_pos hE]
    have Hlm : Hid ((ints .i64 (mapL (fUp qs) bs)).length = 64) := by show _ = _; rw [ints_length, mapL_length]
    have hone := ints_one (k := .i64) (l := mapL (fUp qs) bs)
    rw [hE] at HC ⊢
    clear hE hi1 hi2
    unfold blkV at *
    rw [HO.out]
    clear HO
    generalize ints .i64 (mapL (fUp qs) bs) = ms at *
    generalize ints .i64 bs = xs at *
    generalize ints .i64 qs = ys at *
    have r0 := HB0.range
    have r1 := HB1.range
    unfold boxT at *
    go_enter Try.func17, Try.ntmps17
    go_wp2_with (first
      | (refine wpList_load_mid rfl 23 (.tmp 2) rfl w.heap.size 0 rfl xs _ r0 Try.underlying23 rfl (info_blkn Hlb.out) ?_)
      | (refine wpList_load_mid rfl 23 (.tmp 3) rfl (w.heap.size + 1) 0 rfl ys _ r1 Try.underlying23 rfl (info_blkn Hlq.out) ?_)
      | fail)
    refine HC.out.mono ?_
    rintro e w1 ⟨rfl, hb1⟩
    have r0' := range_below r0 hb1 (by rw [hz3]; omega)
    have B1 := HB1.below hb1 (by rw [hz3]; omega)
    have B2 := HB2.below hb1 (by rw [hz3]; omega)
    have hbw := hb3.trans (hb1.mono (by rw [hz3]; omega))
    have hz1 := hb1.size
    rw [hz3] at hz1
    have HE := veil (HEach.out w1 B1)
    clear r0 r1 HB0 HB1 HB2 hb3 hz3 hb1 HC HEach B1
    go_wp2_with (first
      | (refine wpList_load_mid rfl 23 (.tmp 2) rfl w.heap.size 0 rfl xs _ r0' Try.underlying23 rfl (info_blkn Hlb.out) ?_)
      | fail)
    refine HE.out.mono ?_
    rintro e w2 ⟨rfl, hb2⟩
    have B2' := B2.below hb2 (by omega)
    have hbw2 := hbw.trans (hb2.mono hbw.size)
    clear B2 HE r0'
    generalize zeroB = x0 at *
    go_wp2_with (first
      | (refine wpList_store_blk w2 rfl 23 (.tmp 4) (.tmp 16) rfl (w.heap.size + 1 + 1) x0 ms 23 B2' rfl rfl (info_blkn Hlm.out) (by rw [Hlm.out, Hz.out]) hone ?_; intro w5 HB5 hg5)
      | fail)
    refine bodyPost_ret (v := .tuple #[.agg ms.toArray, .int .i64 0]) (results_row_tmp rfl _ _ (w.heap.size + 1 + 1) 23 ms.toArray (0, 0) _ _ rfl rfl HB5 Try.underlying23 rfl (by simp only [List.size_toArray]; exact info_blkn Hlm.out)) rfl ⟨rfl, hbw2.grown hg5 hbw2.size (fun j hj => by injection hj with hj; omega)⟩
  · have hE1 := eBoth_bad hE
    have HO : Hid (ints .i64 (oUp bs qs) = zeroB) := by show _ = _; rw [oUp, if_neg hE]; rfl
    have HZV : Hid (zeroB = ints .i64 (List.replicate 64 0)) := rfl
    rw [hE1] at HC ⊢
    clear hE hE1
    unfold blkV at *
    rw [HO.out]
    clear HO
    generalize ints .i64 bs = xs at *
    generalize ints .i64 qs = ys at *
    have r0 := HB0.range
    have r1 := HB1.range
    unfold boxT at *
    go_enter Try.func17, Try.ntmps17
    go_wp2_with (first
      | (refine wpList_load_mid rfl 23 (.tmp 2) rfl w.heap.size 0 rfl xs _ r0 Try.underlying23 rfl (info_blkn Hlb.out) ?_)
      | (refine wpList_load_mid rfl 23 (.tmp 3) rfl (w.heap.size + 1) 0 rfl ys _ r1 Try.underlying23 rfl (info_blkn Hlq.out) ?_)
      | fail)
    refine HC.out.mono ?_
    rintro e w1 ⟨rfl, hb1⟩
    have B2 := HB2.below hb1 (by rw [hz3]; omega)
    have hbw := hb3.trans (hb1.mono (by rw [hz3]; omega))
    have hz1 := hb1.size
    rw [hz3] at hz1
    clear r0 r1 HB0 HB1 HB2 hb3 hz3 hb1 HC
    go_wp2_with (first
      | (refine wpList_store_blk w1 rfl 23 (.tmp 4) (.tmp 12) rfl (w.heap.size + 1 + 1) zeroB zeroB 23 B2 rfl rfl (info_blkn Hz.out) rfl hzo ?_; intro w5 HB5 hg5)
      | fail)
    refine bodyPost_ret (v := .tuple #[.agg zeroB.toArray, .int .i64 1]) (results_row_tmp rfl _ _ (w.heap.size + 1 + 1) 23 zeroB.toArray (0, 0) _ _ rfl rfl HB5 Try.underlying23 rfl (by simp only [List.size_toArray]; exact info_blkn Hz.out)) rfl ⟨rfl, hbw.grown hg5 hbw.size (fun j hj => by injection hj with hj; omega)⟩
end Go.Proofs.Ytpbeehalicmdjaa
