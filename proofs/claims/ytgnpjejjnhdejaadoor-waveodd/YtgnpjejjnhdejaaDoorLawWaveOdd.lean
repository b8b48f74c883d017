/- The law WaveOdd, walked: the other side is the other side. -/
import Derived.Test.YtgnpjejjnhdejaaDoorWLaw
namespace Go.Proofs.YtgnpjejjnhdejaaDoor
open Go.RowKit
set_option linter.unusedVariables false
set_option linter.unusedSimpArgs false

set_option maxHeartbeats 4000000 in
set_option maxRecDepth 100000 in
theorem waveOdd_walk (bs : List Int) (w : World) (Q : Quart w) (hb : bs.length = 64) (hw : ∀ x ∈ bs, -9223372036854775808 ≤ x ∧ x ≤ 9223372036854775807) :
    Calls Tryd.prog 7 #[blkV bs] w fun e w' => e = .returned (.bool true) ∧ Below w.heap.size w w' := by
  have hn0 := Nat.le_refl w.heap.size
  have HB0 := Blk.new w (ints .i64 bs) 28
  have hb0 := below1 w (.cells (ints .i64 bs).toArray 28)
  have Hlb : Hid ((ints .i64 bs).length = 64) := by show _ = _; rw [ints_length, hb]
  have Hlm : Hid ((ints .i64 (mapK fNeg bs 64)).length = 64) := by show _ = _; rw [ints_length, mapK_length]
  have L1 : Hid ((ints .i64 (oTo bs)).length = 64) := by show _ = _; rw [ints_length, oTo_length]
  have L2 : Hid ((ints .i64 (oTo (mapL fNeg bs))).length = 64) := by show _ = _; rw [ints_length, oTo_length]
  have L3 : Hid ((ints .i64 (oFr bs)).length = 64) := by show _ = _; rw [ints_length, oFr_length]
  have L4 : Hid ((ints .i64 (oFr (mapL fNeg bs))).length = 64) := by show _ = _; rw [ints_length, oFr_length]
  have O1 := ints_one (k := .i64) (l := oTo bs)
  have O2 := ints_one (k := .i64) (l := oTo (mapL fNeg bs))
  have O3 := ints_one (k := .i64) (l := oFr bs)
  have O4 := ints_one (k := .i64) (l := oFr (mapL fNeg bs))
  have HK := veil (waved_any (w.alloc (.cells (ints .i64 bs).toArray 28)) (Q.after hb0))
  have C1 := veil (fun W hQ => to_any bs W hb hQ)
  have C2 := veil (fun W hQ => to_any (mapL fNeg bs) W (mapL_length _ _) hQ)
  have C3 := veil (fun W hQ => from_any bs W hb hQ)
  have C4 := veil (fun W hQ => from_any (mapL fNeg bs) W (mapL_length _ _) hQ)
  rw [neg_bad hb hw] at C2 C4
  have HF : Hid (∀ k, k < 64 → ∃ u v : Int, (ints .i64 (oTo bs))[k]? = some (.int .i64 (-u)) ∧ (ints .i64 (oTo (mapL fNeg bs)))[k]? = some (.int .i64 u) ∧ (ints .i64 (oFr bs))[k]? = some (.int .i64 (-v)) ∧ (ints .i64 (oFr (mapL fNeg bs)))[k]? = some (.int .i64 v) ∧ IntKind.i64.wrap (-u) = -u ∧ IntKind.i64.wrap (-v) = -v) := by
    intro k hk
    have h1 := vTo_small (mapL fNeg bs) k
    have h2 := vFr_small (mapL fNeg bs) k
    refine ⟨vTo (mapL fNeg bs) k, vFr (mapL fNeg bs) k, ints_at ?_, ints_at (oTo_at _ hk), ints_at ?_, ints_at (oFr_at _ hk), wrapK (by omega) (by omega), wrapK (by omega) (by omega)⟩
    · rw [oTo_at _ hk, vTo_odd hb hw]
    · rw [oFr_at _ hk, vFr_odd hb hw]
  have Hx : Hid (∀ (k : Nat) (x : Int), bs[k]? = some x → (ints .i64 bs)[k]? = some (.int .i64 x)) := fun _ _ h => ints_at h
  have Hs : Hid (∀ (k : Nat) (x : Int), k < 64 → bs[k]? = some x → (ints .i64 (mapK fNeg bs k)).set k (.int .i64 (wrap64 (-x))) = ints .i64 (mapK fNeg bs (k + 1))) := by
    intro k x hk hx
    rw [mapK_next hk hx]; simp [ints, List.map_set, fNeg]
  have H0 : Hid (ints .i64 (mapK fNeg bs 0) = zeroB) := by show _ = _; rw [mapK_zero]; rfl
  have Hmm : Hid (ints .i64 (mapL fNeg bs) = ints .i64 (mapK fNeg bs 64)) := by show _ = _; rfl
  clear hw
  unfold blkV at *
  generalize badB (-40000) 40000 bs = E at *
  generalize ints .i64 (oTo (mapL fNeg bs)) = m2 at *
  generalize ints .i64 (oTo bs) = m1 at *
  generalize ints .i64 (oFr (mapL fNeg bs)) = m4 at *
  generalize ints .i64 (oFr bs) = m3 at *
  rw [Hmm.out] at C2 C4
  clear Hmm
  generalize ints .i64 bs = xs at *
  go_enter Tryd.func7, Tryd.ntmps7
  go_wp2_with fail
  refine HK.out.mono ?_
  rintro e w0 ⟨rfl, hb1⟩
  have B0 := HB0.step hb1 (.cells zeroB.toArray 28)
  have B2 := veil (Blk.new w0 zeroB 28)
  have hbw := below_step hb0 hn0 hb1 (.cells zeroB.toArray 28)
  have hne : w.heap.size < w0.heap.size := (HB0.below hb1 HB0.lt).lt
  have r0 := B0.range
  have B0' := veil B0
  clear HB0 hb0 hb1 HK B0
  go_wp2_with (first
    | (refine wpList_load_mid rfl 28 (.tmp 1) rfl (w.heap.size) 0 rfl xs _ r0 Tryd.underlying28 rfl (info_blkn Hlb.out) ?_)
    | fail)
  go_loopg [18] 64 (fun gk i wr => ∃ k : Nat, gk = 64 - k ∧ k ≤ 64 ∧ i = .int .i64 (k : Int) ∧ Hid (Blk wr w.heap.size xs 28) ∧ Hid (Blk wr w0.heap.size (ints .i64 (mapK fNeg bs k)) 28) ∧ Below w.heap.size w wr)
  case atStart => exact ⟨0, rfl, by omega, rfl, B0', veil (by rw [H0.out]; exact B2.out), hbw⟩
  case round =>
    clear r0 B0' B2 hbw H0
    obtain ⟨k, rfl, hk, rfl, D0, D2, hbr⟩ := hrel
    by_cases hlt : k < 64
    · have hltz : (k : Int) < 64 := by omega
      obtain ⟨x, hx⟩ := some_at (xs := bs) (j := k) (by omega)
      have hxs := Hx.out _ _ hx
      obtain ⟨y, hy⟩ := some_at (xs := mapK fNeg bs k) (j := k) (by rw [mapK_length]; omega)
      have hcy := D2.out.cell (ints_at hy)
      have hfy := D2.out.frozen k
      have hgr : wr.grownBy (wr.setCell ⟨w0.heap.size, k, none⟩ (.int .i64 (wrap64 (-x)))) (some w0.heap.size) :=
        ⟨rfl, rfl, rfl, by simp [World.setCell], fun i _ hi => Below.heap_setCell _ _ _ _ (fun e => hi (by rw [e]))⟩
      have D2' : Hid (Blk (wr.setCell ⟨w0.heap.size, k, none⟩ (.int .i64 (wrap64 (-x)))) w0.heap.size (ints .i64 (mapK fNeg bs (k + 1))) 28) := by
        have := D2.out.set k (.int .i64 (wrap64 (-x)))
        rw [Hs.out k x hlt hx] at this
        exact this
      have D0' := veil (D0.out.kept hgr (by simp; omega))
      have hbr' : Below w.heap.size w (wr.setCell ⟨w0.heap.size, k, none⟩ (.int .i64 (wrap64 (-x)))) := hbr.grown hgr hbr.size (fun j hj => by injection hj with hj; omega)
      clear D0 D2 hgr hbr hx hy HF C1 C2 C3 C4 Hs
      go_wp2_with (first
        | (refine wpList_index_arr rfl 28 (.tmp 17) (.tmp 18) rfl 64 3 .i64 Tryd.underlying28 Tryd.underlying3 (by kernel_rfl) xs rfl .i64 k rfl (.int .i64 x) hlt hxs ?_)
        | fail)
      go_roundg (64 - (k + 1))
      case rel => exact ⟨k + 1, rfl, by omega, by go_num, D0', D2', hbr'⟩
      case measure => omega
    · obtain rfl : k = 64 := by omega
      clear Hx Hs
      have r0 := D0.out.range
      generalize ints .i64 (mapK fNeg bs 64) = ms at *
      rename World => W0
      have C1' := veil (C1.out W0 (Q.after hbr))
      go_wp2_with (first
        | (refine wpList_load_mid rfl 28 (.tmp 1) rfl (w.heap.size) 0 rfl xs _ r0 Tryd.underlying28 rfl (info_blkn Hlb.out) ?_)
        | fail)
      refine C1'.out.mono ?_
      rintro e w1 ⟨rfl, hb1⟩
      have E0 := D0.out.step hb1 (.cells m1.toArray 28)
      have E2 := D2.out.step hb1 (.cells m1.toArray 28)
      have E3 := Blk.new w1 m1 28
      have hbs := below_step hbr hn0 hb1 (.cells m1.toArray 28)
      have C2' := veil (C2.out _ (Q.after hbs))
      have r2 := E2.range
      clear r0 D0 D2 hbr hb1 C1 C1' C2
      go_upto_region 10 with (first
        | (refine wpList_store_new w1 rfl 28 (.tmp 6) (.tmp 30) rfl _ m1 rfl rfl (info_blkn L1.out) (by rw [L1.out]; rfl) O1 ?_)
        | fail)
      go_wp2_with (first
        | (refine wpList_load_mid rfl 28 (.tmp 3) rfl (w0.heap.size) 0 rfl ms _ r2 Tryd.underlying28 rfl (info_blkn Hlm.out) ?_)
        | fail)
      refine C2'.out.mono ?_
      rintro e w2 ⟨rfl, hb2⟩
      have F0 := E0.step hb2 (.cells m2.toArray 28)
      have F2 := E2.step hb2 (.cells m2.toArray 28)
      have F3 := E3.step hb2 (.cells m2.toArray 28)
      have F4 := Blk.new w2 m2 28
      have hbt := below_step hbs hn0 hb2 (.cells m2.toArray 28)
      have C3' := veil (C3.out _ (Q.after hbt))
      have r0 := F0.range
      clear E0 E2 E3 hbs hb2 C2' C3 r2
      go_upto_region 11 with (first
        | (refine wpList_store_new w2 rfl 28 (.tmp 8) (.tmp 35) rfl _ m2 rfl rfl (info_blkn L2.out) (by rw [L2.out]; rfl) O2 ?_)
        | fail)
      go_wp2_with (first
        | (refine wpList_load_mid rfl 28 (.tmp 1) rfl (w.heap.size) 0 rfl xs _ r0 Tryd.underlying28 rfl (info_blkn Hlb.out) ?_)
        | fail)
      refine C3'.out.mono ?_
      rintro e w3 ⟨rfl, hb3⟩
      have G2 := F2.step hb3 (.cells m3.toArray 28)
      have G3 := F3.step hb3 (.cells m3.toArray 28)
      have G4 := F4.step hb3 (.cells m3.toArray 28)
      have G5 := Blk.new w3 m3 28
      have hbu := below_step hbt hn0 hb3 (.cells m3.toArray 28)
      have C4' := veil (C4.out _ (Q.after hbu))
      have r2 := G2.range
      clear F0 F2 F3 F4 hbt hb3 C3' C4 r0
      go_upto_region 12 with (first
        | (refine wpList_store_new w3 rfl 28 (.tmp 10) (.tmp 40) rfl _ m3 rfl rfl (info_blkn L3.out) (by rw [L3.out]; rfl) O3 ?_)
        | fail)
      go_wp2_with (first
        | (refine wpList_load_mid rfl 28 (.tmp 3) rfl (w0.heap.size) 0 rfl ms _ r2 Tryd.underlying28 rfl (info_blkn Hlm.out) ?_)
        | fail)
      refine C4'.out.mono ?_
      rintro e w4 ⟨rfl, hb4⟩
      have K3 := veil (G3.step hb4 (.cells m4.toArray 28))
      have K4 := veil (G4.step hb4 (.cells m4.toArray 28))
      have K5 := veil (G5.step hb4 (.cells m4.toArray 28))
      have K6 := veil (Blk.new w4 m4 28)
      have hbv := below_step hbu hn0 hb4 (.cells m4.toArray 28)
      clear G2 G3 G4 G5 hbu hb4 C4' r2
      go_upto_region 13 with (first
        | (refine wpList_store_new w4 rfl 28 (.tmp 12) (.tmp 45) rfl _ m4 rfl rfl (info_blkn L4.out) (by rw [L4.out]; rfl) O4 ?_)
        | fail)
      go_wp2_with fail
      go_loopg [55] 64 (fun gk i wr => ∃ k : Nat, gk = 64 - k ∧ k ≤ 64 ∧ i = .int .i64 (k : Int) ∧ Hid (Blk wr w1.heap.size m1 28) ∧ Hid (Blk wr w2.heap.size m2 28) ∧ Hid (Blk wr w3.heap.size m3 28) ∧ Hid (Blk wr w4.heap.size m4 28) ∧ Below w.heap.size w wr)
      case atStart => exact ⟨0, rfl, by omega, rfl, K3, K4, K5, K6, hbv⟩
      case round =>
        clear K3 K4 K5 K6 hbv
        obtain ⟨k, rfl, hk, rfl, G1, G2, G3, G4, hbr⟩ := hrel
        by_cases hlt : k < 64
        · have hltz : (k : Int) < 64 := by omega
          obtain ⟨u, v, h1, h2, h3, h4, hw1, hw2⟩ := HF.out k hlt
          have hc1 := G1.out.cell h1
          have hc2 := G2.out.cell h2
          have hc3 := G3.out.cell h3
          have hc4 := G4.out.cell h4
          clear HF h1 h2 h3 h4
          go_wp2_with fail
          go_quiet (fail)
          go_wp2_with fail
          go_roundg (64 - (k + 1))
          case rel => exact ⟨k + 1, rfl, by omega, by go_num, veil (G1.out.drewN _), veil (G2.out.drewN _), veil (G3.out.drewN _), veil (G4.out.drewN _), hbr.drewN _⟩
          case measure => omega
        · obtain rfl : k = 64 := by omega
          go_wp2
          go_ret
          exact ⟨rfl, hbr⟩
end Go.Proofs.YtgnpjejjnhdejaaDoor
