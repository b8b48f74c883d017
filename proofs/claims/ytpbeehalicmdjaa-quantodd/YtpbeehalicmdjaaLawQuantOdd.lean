/- The law on Down of what is negated, walked. -/
import Derived.Test.YtpbeehalicmdjaaQNum
namespace Go.Proofs.Ytpbeehalicmdjaa
open Go.RowKit
set_option linter.unusedVariables false
set_option linter.unusedSimpArgs false

def fNeg (_ : Nat) (x : Int) : Int := wrap64 (-x)
theorem neg_in {bs : List Int} (hb : bs.length = 64) (hw : ∀ x ∈ bs, -9223372036854775808 ≤ x ∧ x ≤ 9223372036854775807) : inB (-40000) 40000 (mapL fNeg bs) = inB (-40000) 40000 bs := by
  rw [Bool.eq_iff_iff]
  constructor
  · intro h
    rw [inB_mem]
    intro x hx
    obtain ⟨i, hi, e⟩ := List.getElem_of_mem hx
    have hx' : bs[i]? = some x := by rw [List.getElem?_eq_some_iff]; exact ⟨hi, e⟩
    have h1 := inB_at h (mapL_at (f := fNeg) (by omega) hx')
    have h2 := hw x hx
    unfold fNeg wrap64 at h1
    omega
  · intro h
    rw [inB_mem]
    intro y hy
    simp only [mapL, mapK, List.mem_map, List.mem_range] at hy
    obtain ⟨i, hi, rfl⟩ := hy
    rw [if_pos hi]
    obtain ⟨x, hx⟩ := some_at (xs := bs) (j := i) (by omega)
    have h1 := inB_at h hx
    rw [show bs.getD i 0 = x by simp [List.getD_eq_getElem?_getD, hx]]
    unfold fNeg wrap64
    omega
theorem neg_E {bs qs : List Int} (hb : bs.length = 64) (hw : ∀ x ∈ bs, -9223372036854775808 ≤ x ∧ x ≤ 9223372036854775807) : eBoth 40000 (mapL fNeg bs) qs = eBoth 40000 bs qs := by
  unfold eBoth
  rw [neg_in hb hw]
theorem odd_at {bs qs : List Int} (hb : bs.length = 64) (hq : qs.length = 64) (hw : ∀ x ∈ bs, -9223372036854775808 ≤ x ∧ x ≤ 9223372036854775807) (k : Nat) (hk : k < 64) :
    ∃ u : Int, (ints .i64 (oDown bs qs))[k]? = some (.int .i64 (-u)) ∧ (ints .i64 (oDown (mapL fNeg bs) qs))[k]? = some (.int .i64 u) ∧ -2047 ≤ u ∧ u ≤ 2047 := by
  by_cases hE : eBoth 40000 bs qs = 0
  · obtain ⟨hi1, hi2⟩ := eBoth_ok hE
    obtain ⟨x, hx⟩ := some_at (xs := bs) (j := k) (by omega)
    obtain ⟨d, hd⟩ := some_at (xs := qs) (j := k) (by omega)
    have h1 := inB_at hi2 hx
    have h2 := inB_at hi1 hd
    have e1 : fNeg k x = -x := by unfold fNeg wrap64; omega
    have e2 : clampZ (rnd (-x) d) (-2047) 2047 = - clampZ (rnd x d) (-2047) 2047 := by rw [rnd_neg (by omega), clampZ_neg (by omega)]
    refine ⟨clampZ (rnd (-x) d) (-2047) 2047, ints_at ?_, ints_at ?_, clampZ_in (by omega)⟩
    · rw [oDown_ok hE, mapL_at hk hx, fDown_at hd, e2, Int.neg_neg]
    · rw [oDown_ok (by rw [neg_E hb hw]; exact hE), mapL_at hk (mapL_at hk hx), fDown_at hd, e1]
  · have hz : (zero64)[k]? = some 0 := by rw [zero64, List.getElem?_replicate, if_pos hk]
    refine ⟨0, ints_at ?_, ints_at ?_, by omega⟩
    · rw [oDown, if_neg hE]; exact hz
    · rw [oDown, if_neg (by rw [neg_E hb hw]; exact hE)]; exact hz
set_option maxHeartbeats 4000000 in
set_option maxRecDepth 100000 in
theorem quantOdd_walk (bs qs : List Int) (w : World) (hb : bs.length = 64) (hw : ∀ x ∈ bs, -9223372036854775808 ≤ x ∧ x ≤ 9223372036854775807) (hq : qs.length = 64) :
    Calls Try.prog 7 #[blkV bs, blkV qs] w fun e w' => e = .returned (.bool true) ∧ Below w.heap.size w w' := by
  obtain ⟨hb3, HB0, HB1, hz3⟩ := boxU_is (ints .i64 bs) (ints .i64 qs) w
  have Hlb : Hid ((ints .i64 bs).length = 64) := by show _ = _; rw [ints_length, hb]
  have Hlq : Hid ((ints .i64 qs).length = 64) := by show _ = _; rw [ints_length, hq]
  have Hlm : Hid ((ints .i64 (mapK fNeg bs 64)).length = 64) := by show _ = _; rw [ints_length, mapK_length]
  have Hlu : Hid ((ints .i64 (oDown bs qs)).length = 64) := by show _ = _; rw [ints_length, oDown_length]
  have Hld : Hid ((ints .i64 (oDown (mapL fNeg bs) qs)).length = 64) := by show _ = _; rw [ints_length, oDown_length]
  have hone := ints_one (k := .i64) (l := oDown bs qs)
  have hone2 := ints_one (k := .i64) (l := oDown (mapL fNeg bs) qs)
  have HK := veil (coarse_any (boxU (ints .i64 bs) (ints .i64 qs) w))
  have HU := veil (fun W => down_any bs qs W hb hq)
  have HD := veil (fun W => down_any (mapL fNeg bs) qs W (mapL_length _ _) hq)
  rw [neg_E hb hw] at HD
  have HF := veil (odd_at hb hq hw)
  have Hx : Hid (∀ (k : Nat) (x : Int), bs[k]? = some x → (ints .i64 bs)[k]? = some (.int .i64 x)) := fun _ _ h => ints_at h
  have Hs : Hid (∀ (k : Nat) (x : Int), k < 64 → bs[k]? = some x → (ints .i64 (mapK fNeg bs k)).set k (.int .i64 (wrap64 (-x))) = ints .i64 (mapK fNeg bs (k + 1))) := by
    intro k x hk hx
    rw [mapK_next hk hx]; simp [ints, List.map_set, fNeg]
  have H0 : Hid (ints .i64 (mapK fNeg bs 0) = zeroB) := by show _ = _; rw [mapK_zero]; rfl
  have Hmm : Hid (ints .i64 (mapL fNeg bs) = ints .i64 (mapK fNeg bs 64)) := by show _ = _; rfl
  clear hw
  unfold blkV at *
  generalize eBoth 40000 bs qs = E at *
  generalize ints .i64 (oDown (mapL fNeg bs) qs) = ds at *
  generalize ints .i64 (oDown bs qs) = us at *
  rw [Hmm.out] at HD
  clear Hmm
  generalize ints .i64 bs = xs at *
  generalize ints .i64 qs = ys at *
  unfold boxU at *
  go_enter Try.func7, Try.ntmps7
  go_wp2_with fail
  refine HK.out.mono ?_
  rintro e w0 ⟨rfl, hb0⟩
  have hz0 := hb0.size
  rw [hz3] at hz0
  have B0 := (HB0.below hb0 (by rw [hz3]; omega)).below (below1 w0 (.cells zeroB.toArray 23)) (by omega)
  have B1 := (HB1.below hb0 (by rw [hz3]; omega)).below (below1 w0 (.cells zeroB.toArray 23)) (by omega)
  have B2 := veil (Blk.new w0 zeroB 23)
  have hbw := (hb3.trans (hb0.mono (by rw [hz3]; omega))).trans ((below1 w0 (.cells zeroB.toArray 23)).mono (show w.heap.size ≤ w0.heap.size by omega))
  have r0 := B0.range
  have B0' := veil B0
  have B1' := veil B1
  clear HB0 HB1 hb3 hz3 hb0 HK B0 B1
  go_wp2_with (first
    | (refine wpList_load_mid rfl 23 (.tmp 2) rfl w.heap.size 0 rfl xs _ r0 Try.underlying23 rfl (info_blkn Hlb.out) ?_)
    | fail)
  go_loopg [16] 64 (fun gk i wr => ∃ k : Nat, gk = 64 - k ∧ k ≤ 64 ∧ i = .int .i64 (k : Int) ∧ Hid (Blk wr w.heap.size xs 23) ∧ Hid (Blk wr (w.heap.size + 1) ys 23) ∧ Hid (Blk wr w0.heap.size (ints .i64 (mapK fNeg bs k)) 23) ∧ Below w.heap.size w wr)
  case atStart => exact ⟨0, rfl, by omega, rfl, B0', B1', veil (by rw [H0.out]; exact B2.out), hbw⟩
  case round =>
    clear r0 B0' B1' B2 hbw H0
    obtain ⟨k, rfl, hk, rfl, D0, D1, D2, hbr⟩ := hrel
    by_cases hlt : k < 64
    · have hltz : (k : Int) < 64 := by omega
      obtain ⟨x, hx⟩ := some_at (xs := bs) (j := k) (by omega)
      have hxs := Hx.out _ _ hx
      obtain ⟨y, hy⟩ := some_at (xs := mapK fNeg bs k) (j := k) (by rw [mapK_length]; omega)
      have hcy := D2.out.cell (ints_at hy)
      have hfy := D2.out.frozen k
      have hgr : wr.grownBy (wr.setCell ⟨w0.heap.size, k, none⟩ (.int .i64 (wrap64 (-x)))) (some w0.heap.size) :=
        ⟨rfl, rfl, rfl, by simp [World.setCell], fun i _ hi => Below.heap_setCell _ _ _ _ (fun e => hi (by rw [e]))⟩
      have D2' : Hid (Blk (wr.setCell ⟨w0.heap.size, k, none⟩ (.int .i64 (wrap64 (-x)))) w0.heap.size (ints .i64 (mapK fNeg bs (k + 1))) 23) := by
        have := D2.out.set k (.int .i64 (wrap64 (-x)))
        rw [Hs.out k x hlt hx] at this
        exact this
      have D0' := veil (D0.out.kept hgr (by simp; omega))
      have D1' := veil (D1.out.kept hgr (by simp; omega))
      have hbr' : Below w.heap.size w (wr.setCell ⟨w0.heap.size, k, none⟩ (.int .i64 (wrap64 (-x)))) := hbr.grown hgr hbr.size (fun j hj => by injection hj with hj; omega)
      clear D0 D1 D2 hgr hbr hx hy HF HU HD Hs
      go_wp2_with (first
        | (refine wpList_index_arr rfl 23 (.tmp 15) (.tmp 16) rfl 64 3 .i64 Try.underlying23 Try.underlying3 (by kernel_rfl) xs rfl .i64 k rfl (.int .i64 x) hlt hxs ?_)
        | fail)
      go_roundg (64 - (k + 1))
      case rel => exact ⟨k + 1, rfl, by omega, by go_num, D0', D1', D2', hbr'⟩
      case measure => omega
    · obtain rfl : k = 64 := by omega
      clear Hx Hs
      have r0 := D0.out.range
      have r1 := D1.out.range
      have hz1 := D2.out.lt
      generalize ints .i64 (mapK fNeg bs 64) = ms at *
      rename World => W0
      go_wp2_with (first
        | (refine wpList_load_mid rfl 23 (.tmp 2) rfl w.heap.size 0 rfl xs _ r0 Try.underlying23 rfl (info_blkn Hlb.out) ?_)
        | (refine wpList_load_mid rfl 23 (.tmp 3) rfl (w.heap.size + 1) 0 rfl ys _ r1 Try.underlying23 rfl (info_blkn Hlq.out) ?_)
        | fail)
      refine (HU.out _).mono ?_
      rintro e w1 ⟨rfl, hb1⟩
      have hz2 := hb1.size
      have C1 := (D1.out.below hb1 (by omega)).below (below1 w1 (.cells us.toArray 23)) (by omega)
      have C2 := (D2.out.below hb1 (by omega)).below (below1 w1 (.cells us.toArray 23)) (by omega)
      have C3 := Blk.new w1 us 23
      have r1' := C1.range
      have r2' := C2.range
      have hbw1 := (hbr.trans (hb1.mono hbr.size)).trans ((below1 w1 (.cells us.toArray 23)).mono (show w.heap.size ≤ w1.heap.size by omega))
      have hzw : (w1.alloc (.cells us.toArray 23)).heap.size = w1.heap.size + 1 := by simp
      clear r0 r1 D0 D1 D2 hb1 HU hbr C1 C2
      go_wp2_with (first
        | (refine wpList_store_new w1 rfl 23 (.tmp 8) (.tmp 29) rfl zeroB.toArray us rfl rfl (info_blkn Hlu.out) (by rw [Hlu.out]; rfl) hone ?_)
        | (refine wpList_load_mid rfl 23 (.tmp 5) rfl w0.heap.size 0 rfl ms _ r2' Try.underlying23 rfl (info_blkn Hlm.out) ?_)
        | (refine wpList_load_mid rfl 23 (.tmp 3) rfl (w.heap.size + 1) 0 rfl ys _ r1' Try.underlying23 rfl (info_blkn Hlq.out) ?_)
        | fail)
      refine (HD.out _).mono ?_
      rintro e w2 ⟨rfl, hb2⟩
      have hz3 := hb2.size
      rw [hzw] at hz3
      have F3 := veil ((C3.below hb2 (by rw [hzw]; omega)).below (below1 w2 (.cells ds.toArray 23)) (by omega))
      have F4 := veil (Blk.new w2 ds 23)
      have hbw2 := (hbw1.trans (hb2.mono hbw1.size)).trans ((below1 w2 (.cells ds.toArray 23)).mono (show w.heap.size ≤ w2.heap.size by omega))
      clear r1' r2' C3 hb2 HD hbw1 hzw
      go_wp2_with (first
        | (refine wpList_store_new w2 rfl 23 (.tmp 10) (.tmp 35) rfl zeroB.toArray ds rfl rfl (info_blkn Hld.out) (by rw [Hld.out]; rfl) hone2 ?_)
        | fail)
      go_loopg [40] 64 (fun gk i wr => ∃ k : Nat, gk = 64 - k ∧ k ≤ 64 ∧ i = .int .i64 (k : Int) ∧ Hid (Blk wr w1.heap.size us 23) ∧ Hid (Blk wr w2.heap.size ds 23) ∧ Below w.heap.size w wr)
      case atStart => exact ⟨0, rfl, by omega, rfl, F3, F4, hbw2⟩
      case round =>
        clear F3 F4 hbw2
        obtain ⟨k, rfl, hk, rfl, G1, G2, hbr⟩ := hrel
        by_cases hlt : k < 64
        · have hltz : (k : Int) < 64 := by omega
          obtain ⟨u, h1, h2, hu1, hu2⟩ := HF.out k hlt
          have hc1 := G1.out.cell h1
          have hc2 := G2.out.cell h2
          have hwr : IntKind.i64.wrap (-u) = -u := by rw [IntKind.wrap_i64]; omega
          clear HF h1 h2
          go_wp2_with fail
          go_quiet (fail)
          go_wp2_with fail
          go_roundg (64 - (k + 1))
          case rel => exact ⟨k + 1, rfl, by omega, by go_num, veil (G1.out.drewN _), veil (G2.out.drewN _), hbr.drewN _⟩
          case measure => omega
        · obtain rfl : k = 64 := by omega
          go_wp2
          go_ret
          exact ⟨rfl, hbr⟩
end Go.Proofs.Ytpbeehalicmdjaa
