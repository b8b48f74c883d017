/- The law WaveNear, walked: there and back each sample is off by four at most. -/
import Derived.Test.YtgnpjejjnhdejaaDoorWLaw
namespace Go.Proofs.YtgnpjejjnhdejaaDoor
open Go.RowKit
set_option linter.unusedVariables false
set_option linter.unusedSimpArgs false

def fSmall (_ : Nat) (x : Int) : Int := x % 511 - 255
theorem small_in {bs : List Int} (hb : bs.length = 64) : inB (-255) 255 (mapL fSmall bs) = true := by
  rw [getD_mem (mapL_length _ _)]
  intro k hk
  obtain ⟨x, hx⟩ := some_at (xs := bs) (j := k) (by omega)
  rw [List.getD_eq_getElem?_getD, mapL_at hk hx]
  show -255 ≤ fSmall k x ∧ fSmall k x ≤ 255
  unfold fSmall; omega
theorem small_bad {cs : List Int} (hc : cs.length = 64) (h : inB (-255) 255 cs = true) : badB (-40000) 40000 cs = 0 := by
  unfold badB
  rw [if_pos]
  rw [getD_mem hc] at h ⊢
  intro k hk
  have := h k hk
  omega
theorem near_num {bs : List Int} (hb : bs.length = 64) (k : Nat) (hk : k < 64) : ∃ x y : Int, (ints .i64 (mapL fSmall bs))[k]? = some (.int .i64 x) ∧ (ints .i64 (oFr (oTo (mapL fSmall bs))))[k]? = some (.int .i64 y) ∧ (-255 ≤ x ∧ x ≤ 255) ∧ -4 ≤ x - y ∧ x - y ≤ 4 := by
  have hin := small_in hb
  have h0 := small_bad (mapL_length _ _) hin
  obtain ⟨x, hx⟩ := some_at (xs := mapL fSmall bs) (j := k) (by rw [mapL_length]; omega)
  have h1 := near_at hin hk
  have e1 : (mapL fSmall bs).getD k 0 = x := by rw [List.getD_eq_getElem?_getD, hx]; rfl
  rw [e1] at h1
  refine ⟨x, rnd (frN (wTo (mapL fSmall bs)) k) 67108864, ints_at hx, ints_at ?_, inB_at hin hx, ?_⟩
  · rw [oTo_ok h0, oFr_ok (wTo_in hin), wFr_at _ hk]
  · have := absZ_le.1 h1; omega
set_option maxHeartbeats 4000000 in
set_option maxRecDepth 100000 in
theorem waveNear_walk (bs : List Int) (w : World) (Q : Quart w) (hb : bs.length = 64) (hw : ∀ x ∈ bs, -9223372036854775808 ≤ x ∧ x ≤ 9223372036854775807) :
    Calls Tryd.prog 11 #[blkV bs] w fun e w' => e = .returned (.bool true) ∧ Below w.heap.size w w' := by
  have hn0 := Nat.le_refl w.heap.size
  have HB0 := Blk.new w (ints .i64 bs) 28
  have hb0 := below1 w (.cells (ints .i64 bs).toArray 28)
  have Hlb : Hid ((ints .i64 bs).length = 64) := by show _ = _; rw [ints_length, hb]
  have Hlm : Hid ((ints .i64 (mapL fSmall bs)).length = 64) := by show _ = _; rw [ints_length, mapL_length]
  have L1 : Hid ((ints .i64 (oTo (mapL fSmall bs))).length = 64) := by show _ = _; rw [ints_length, oTo_length]
  have L2 : Hid ((ints .i64 (oFr (oTo (mapL fSmall bs)))).length = 64) := by show _ = _; rw [ints_length, oFr_length]
  have O1 := ints_one (k := .i64) (l := oTo (mapL fSmall bs))
  have O2 := ints_one (k := .i64) (l := oFr (oTo (mapL fSmall bs)))
  have HK := veil (waved_any (w.alloc (.cells (ints .i64 bs).toArray 28)) (Q.after hb0))
  have C1 := veil (fun W hQ => to_any (mapL fSmall bs) W (mapL_length _ _) hQ)
  have C2 := veil (fun W hQ => from_any (oTo (mapL fSmall bs)) W (oTo_length _) hQ)
  rw [small_bad (mapL_length _ _) (small_in hb)] at C1
  rw [oTo_ok (small_bad (mapL_length _ _) (small_in hb)), wTo_in (small_in hb), ← oTo_ok (small_bad (mapL_length _ _) (small_in hb))] at C2
  have HF := veil (near_num hb)
  have Hx : Hid (∀ (k : Nat) (x : Int), bs[k]? = some x → (ints .i64 bs)[k]? = some (.int .i64 x)) := fun _ _ h => ints_at h
  have Hs : Hid (∀ (k : Nat) (x : Int), k < 64 → bs[k]? = some x → (ints .i64 (overK fSmall bs k)).set k (.int .i64 (x % 511 - 255)) = ints .i64 (overK fSmall bs (k + 1))) := by
    intro k x hk hx
    rw [overK_next hk hx]; simp [ints, List.map_set, fSmall]
  have H0 : Hid (ints .i64 bs = ints .i64 (overK fSmall bs 0)) := by show _ = _; rw [overK_zero hb]
  have Hmm : Hid (ints .i64 (overK fSmall bs 64) = ints .i64 (mapL fSmall bs)) := by show _ = _; rw [overK_all]
  have HR : Hid (∀ (x : Int) (W : World), x ∈ bs → Calls Tryd.prog 21 #[.int .i64 x, .int .i64 511] W fun e w' => e = .returned (.int .i64 (x % 511)) ∧ W = w') := fun x W hx => rest_any x 511 W (by omega) (by omega) (hw x hx)
  clear hw
  unfold blkV at *
  generalize ints .i64 (oFr (oTo (mapL fSmall bs))) = m2 at *
  generalize ints .i64 (oTo (mapL fSmall bs)) = m1 at *
  generalize ints .i64 (mapL fSmall bs) = ms at *
  generalize ints .i64 bs = xs at *
  go_enter Tryd.func11, Tryd.ntmps11
  go_wp2_with fail
  refine HK.out.mono ?_
  rintro e w0 ⟨rfl, hb1⟩
  have B0 := HB0.below hb1 HB0.lt
  have hbw := hb0.trans (hb1.mono hb0.size)
  have r0 := B0.range
  have B0' := veil B0
  clear HB0 hb0 hb1 HK B0
  go_wp2_with (first
    | (refine wpList_load_mid rfl 28 (.tmp 1) rfl (w.heap.size) 0 rfl xs _ r0 Tryd.underlying28 rfl (info_blkn Hlb.out) ?_)
    | fail)
  go_loopg [13] 64 (fun gk i wr => ∃ k : Nat, gk = 64 - k ∧ k ≤ 64 ∧ i = .int .i64 (k : Int) ∧ Hid (Blk wr w.heap.size (ints .i64 (overK fSmall bs k)) 28) ∧ Below w.heap.size w wr)
  case atStart => exact ⟨0, rfl, by omega, rfl, veil (by rw [← H0.out]; exact B0'.out), hbw⟩
  case round =>
    clear r0 B0' hbw H0
    obtain ⟨k, rfl, hk, rfl, D0, hbr⟩ := hrel
    by_cases hlt : k < 64
    · have hltz : (k : Int) < 64 := by omega
      obtain ⟨x, hx⟩ := some_at (xs := bs) (j := k) (by omega)
      have hxs := Hx.out _ _ hx
      have HR' := veil (HR.out x wr (List.mem_of_getElem? hx))
      have hcy := D0.out.cell (ints_at (overK_at (f := fSmall) hlt hx))
      have hfy := D0.out.frozen k
      have hgr : wr.grownBy (wr.setCell ⟨w.heap.size, k, none⟩ (.int .i64 (x % 511 - 255))) (some w.heap.size) :=
        ⟨rfl, rfl, rfl, by simp [World.setCell], fun i _ hi => Below.heap_setCell _ _ _ _ (fun e => hi (by rw [e]))⟩
      have D0' : Hid (Blk (wr.setCell ⟨w.heap.size, k, none⟩ (.int .i64 (x % 511 - 255))) w.heap.size (ints .i64 (overK fSmall bs (k + 1))) 28) := by
        have := D0.out.set k (.int .i64 (x % 511 - 255))
        rw [Hs.out k x hlt hx] at this
        exact this
      have hbr' : Below w.heap.size w (wr.setCell ⟨w.heap.size, k, none⟩ (.int .i64 (x % 511 - 255))) := hbr.grown hgr hbr.size (fun j hj => by injection hj with hj; omega)
      have hq1 : 0 ≤ x % 511 := by omega
      have hq2 : x % 511 < 511 := by omega
      clear D0 hgr hbr hx HF C1 C2 Hs HR
      generalize x % 511 = q at *
      go_wp2_with (first
        | (refine wpList_index_arr rfl 28 (.tmp 12) (.tmp 13) rfl 64 3 .i64 Tryd.underlying28 Tryd.underlying3 (by kernel_rfl) xs rfl .i64 k rfl (.int .i64 x) hlt hxs ?_)
        | fail)
      refine HR'.out.mono ?_
      rintro e w5 ⟨rfl, rfl⟩
      go_wp2_with fail
      go_roundg (64 - (k + 1))
      case rel => exact ⟨k + 1, rfl, by omega, by go_num, D0', hbr'⟩
      case measure => omega
    · obtain rfl : k = 64 := by omega
      clear Hx Hs HR
      rw [Hmm.out] at D0
      have r0 := D0.out.range
      clear Hmm
      rename World => W0
      have C1' := veil (C1.out W0 (Q.after hbr))
      go_wp2_with (first
        | (refine wpList_load_mid rfl 28 (.tmp 1) rfl (w.heap.size) 0 rfl ms _ r0 Tryd.underlying28 rfl (info_blkn Hlm.out) ?_)
        | fail)
      refine C1'.out.mono ?_
      rintro e w1 ⟨rfl, hb1⟩
      have E0 := D0.out.step hb1 (.cells m1.toArray 28)
      have E3 := Blk.new w1 m1 28
      have hbs := below_step hbr hn0 hb1 (.cells m1.toArray 28)
      have C2' := veil (C2.out _ (Q.after hbs))
      have r2 := E3.range
      clear r0 D0 hbr hb1 C1 C1' C2
      go_upto_region 9 with (first
        | (refine wpList_store_new w1 rfl 28 (.tmp 5) (.tmp 26) rfl _ m1 rfl rfl (info_blkn L1.out) (by rw [L1.out]; rfl) O1 ?_)
        | fail)
      go_wp2_with (first
        | (refine wpList_load_mid rfl 28 (.tmp 5) rfl (w1.heap.size) 0 rfl m1 _ r2 Tryd.underlying28 rfl (info_blkn L1.out) ?_)
        | fail)
      refine C2'.out.mono ?_
      rintro e w2 ⟨rfl, hb2⟩
      have K3 := veil (E0.step hb2 (.cells m2.toArray 28))
      have K4 := veil (Blk.new w2 m2 28)
      have hbv := below_step hbs hn0 hb2 (.cells m2.toArray 28)
      clear E0 E3 hbs hb2 C2' r2
      go_upto_region 10 with (first
        | (refine wpList_store_new w2 rfl 28 (.tmp 7) (.tmp 31) rfl _ m2 rfl rfl (info_blkn L2.out) (by rw [L2.out]; rfl) O2 ?_)
        | fail)
      go_wp2_with fail
      go_loopg [39] 64 (fun gk i wr => ∃ k : Nat, gk = 64 - k ∧ k ≤ 64 ∧ i = .int .i64 (k : Int) ∧ Hid (Blk wr w.heap.size ms 28) ∧ Hid (Blk wr w2.heap.size m2 28) ∧ Below w.heap.size w wr)
      case atStart => exact ⟨0, rfl, by omega, rfl, K3, K4, hbv⟩
      case round =>
        clear K3 K4 hbv
        obtain ⟨k, rfl, hk, rfl, G1, G2, hbr⟩ := hrel
        by_cases hlt : k < 64
        · have hltz : (k : Int) < 64 := by omega
          obtain ⟨x, y, h1, h2, ⟨hx1, hx2⟩, hn1, hn2⟩ := HF.out k hlt
          have hc1 := G1.out.cell h1
          have hc2 := G2.out.cell h2
          have hwa : IntKind.i64.wrap (x - y) = x - y := wrapK (by omega) (by omega)
          have hwb : IntKind.i64.wrap (y - x) = y - x := wrapK (by omega) (by omega)
          clear HF h1 h2
          rcases Int.lt_trichotomy (x - y) (y - x) with h3 | h3 | h3
          · have hd1 : decide (4 < y - x) = false := by simp; omega
            have hd2 : decide (x - y < y - x) = true := by simp; omega
            go_wp2_with fail
            go_quiet (fail)
            go_wp2_with fail
            go_roundg (64 - (k + 1))
            case rel => exact ⟨k + 1, rfl, by omega, by go_num, veil (G1.out.drewN _), veil (G2.out.drewN _), hbr.drewN _⟩
            case measure => omega
          · obtain rfl : x = y := by omega
            clear h3
            go_wp2_with fail
            go_quiet (fail)
            go_wp2_with fail
            go_roundg (64 - (k + 1))
            case rel => exact ⟨k + 1, rfl, by omega, by go_num, veil (G1.out.drewN _), veil (G2.out.drewN _), hbr.drewN _⟩
            case measure => omega
          · have hd1 : decide (4 < x - y) = false := by simp; omega
            go_wp2_with fail
            go_quiet (fail)
            go_wp2_with fail
            go_roundg (64 - (k + 1))
            case rel => exact ⟨k + 1, rfl, by omega, by go_num, veil (G1.out.drewN _), veil (G2.out.drewN _), hbr.drewN _⟩
            case measure => omega
        · obtain rfl : k = 64 := by omega
          go_wp2
          go_ret
          exact ⟨rfl, hbr⟩
end Go.Proofs.YtgnpjejjnhdejaaDoor
