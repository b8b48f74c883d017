/- The law WaveMirror, walked: seen in a mirror every second wave is the other side. -/
import Derived.Test.YtgnpjejjnhdejaaDoorWLaw
namespace Go.Proofs.YtgnpjejjnhdejaaDoor
open Go.RowKit
set_option linter.unusedVariables false
set_option linter.unusedSimpArgs false

set_option maxHeartbeats 4000000 in
set_option maxRecDepth 100000 in
theorem waveMirror_walk (bs : List Int) (w : World) (Q : Quart w) (hb : bs.length = 64) :
    Calls Tryd.prog 9 #[blkV bs] w fun e w' => e = .returned (.bool true) ∧ Below w.heap.size w w' := by
  have hn0 := Nat.le_refl w.heap.size
  have HB0 := Blk.new w (ints .i64 bs) 28
  have hb0 := below1 w (.cells (ints .i64 bs).toArray 28)
  have Hlb : Hid ((ints .i64 bs).length = 64) := by show _ = _; rw [ints_length, hb]
  have Hlm : Hid ((ints .i64 (miK bs 64)).length = 64) := by show _ = _; rw [ints_length, miK_length]
  have L1 : Hid ((ints .i64 (oTo bs)).length = 64) := by show _ = _; rw [ints_length, oTo_length]
  have L2 : Hid ((ints .i64 (oTo (miL bs))).length = 64) := by show _ = _; rw [ints_length, oTo_length]
  have O1 := ints_one (k := .i64) (l := oTo bs)
  have O2 := ints_one (k := .i64) (l := oTo (miL bs))
  have HK := veil (waved_any (w.alloc (.cells (ints .i64 bs).toArray 28)) (Q.after hb0))
  have C1 := veil (fun W hQ => to_any bs W hb hQ)
  have C2 := veil (fun W hQ => to_any (miL bs) W (miL_length _) hQ)
  rw [mi_bad hb] at C2
  have HF : Hid (∀ k, k < 64 → ∃ u v : Int, (ints .i64 (oTo bs))[k]? = some (.int .i64 v) ∧ (ints .i64 (oTo (miL bs)))[k]? = some (.int .i64 u) ∧ IntKind.i64.wrap (-u) = -u ∧ (k % 2 = 0 ∧ v = u ∨ k % 2 = 1 ∧ v = -u)) := by
    intro k hk
    have h1 := vTo_small (miL bs) k
    refine ⟨vTo (miL bs) k, vTo bs k, ints_at (oTo_at _ hk), ints_at (oTo_at _ hk), wrapK (by omega) (by omega), ?_⟩
    have h2 := vTo_mi hb (i := k)
    by_cases h : k % 2 = 0
    · rw [if_pos h] at h2; exact .inl ⟨h, h2⟩
    · rw [if_neg h] at h2; exact .inr ⟨by omega, h2⟩
  have Hx : Hid (∀ (k : Nat) (x : Int), bs[k]? = some x → (ints .i64 bs)[k]? = some (.int .i64 x)) := fun _ _ h => ints_at h
  have Hs : Hid (∀ (k : Nat) (x : Int), k < 64 → bs[k]? = some x → (ints .i64 (miK bs k)).set (k / 8 * 8 + 7 - k % 8) (.int .i64 x) = ints .i64 (miK bs (k + 1))) := by
    intro k x hk hx
    rw [← miK_next hk hx]; simp [ints, List.map_set]
  have H0 : Hid (ints .i64 (miK bs 0) = zeroB) := by show _ = _; rw [miK_zero]; rfl
  have Hmm : Hid (ints .i64 (miL bs) = ints .i64 (miK bs 64)) := by show _ = _; rfl
  unfold blkV at *
  generalize badB (-40000) 40000 bs = E at *
  generalize ints .i64 (oTo (miL bs)) = m2 at *
  generalize ints .i64 (oTo bs) = m1 at *
  rw [Hmm.out] at C2
  clear Hmm
  generalize ints .i64 bs = xs at *
  go_enter Tryd.func9, Tryd.ntmps9
  go_wp2_with fail
  refine HK.out.mono ?_
  rintro e w0 ⟨rfl, hb1⟩
  have B0 := HB0.step hb1 (.cells zeroB.toArray 28)
  have B2 := veil (Blk.new w0 zeroB 28)
  have hbw := below_step hb0 hn0 hb1 (.cells zeroB.toArray 28)
  have hne : w.heap.size < w0.heap.size := (HB0.below hb1 HB0.lt).lt
  have r0 := B0.range
  have B0' := veil B0
  clear HB0 hb0 hb1 HK B0
  go_wp2_with (first
    | (refine wpList_load_mid rfl 28 (.tmp 1) rfl (w.heap.size) 0 rfl xs _ r0 Tryd.underlying28 rfl (info_blkn Hlb.out) ?_)
    | fail)
  go_loopg [14] 64 (fun gk i wr => ∃ k : Nat, gk = 64 - k ∧ k ≤ 64 ∧ i = .int .i64 (k : Int) ∧ Hid (Blk wr w.heap.size xs 28) ∧ Hid (Blk wr w0.heap.size (ints .i64 (miK bs k)) 28) ∧ Below w.heap.size w wr)
  case atStart => exact ⟨0, rfl, by omega, rfl, B0', veil (by rw [H0.out]; exact B2.out), hbw⟩
  case round =>
    clear r0 B0' B2 hbw H0
    obtain ⟨k, rfl, hk, rfl, D0, D2, hbr⟩ := hrel
    by_cases hlt : k < 64
    · have hltz : (k : Int) < 64 := by omega
      obtain ⟨x, hx⟩ := some_at (xs := bs) (j := k) (by omega)
      have hxs := Hx.out _ _ hx
      obtain ⟨y, hy⟩ := some_at (xs := miK bs k) (j := k / 8 * 8 + 7 - k % 8) (by rw [miK_length]; omega)
      have hcy := D2.out.cell (ints_at hy)
      have hfy := D2.out.frozen (k / 8 * 8 + 7 - k % 8)
      have hgr : wr.grownBy (wr.setCell ⟨w0.heap.size, k / 8 * 8 + 7 - k % 8, none⟩ (.int .i64 x)) (some w0.heap.size) :=
        ⟨rfl, rfl, rfl, by simp [World.setCell], fun i _ hi => Below.heap_setCell _ _ _ _ (fun e => hi (by rw [e]))⟩
      have D2' : Hid (Blk (wr.setCell ⟨w0.heap.size, k / 8 * 8 + 7 - k % 8, none⟩ (.int .i64 x)) w0.heap.size (ints .i64 (miK bs (k + 1))) 28) := by
        have := D2.out.set (k / 8 * 8 + 7 - k % 8) (.int .i64 x)
        rw [Hs.out k x hlt hx] at this
        exact this
      have D0' := veil (D0.out.kept hgr (by simp; omega))
      have hbr' : Below w.heap.size w (wr.setCell ⟨w0.heap.size, k / 8 * 8 + 7 - k % 8, none⟩ (.int .i64 x)) := hbr.grown hgr hbr.size (fun j hj => by injection hj with hj; omega)
      have t1 : (k : Int).tmod 8 = ((k % 8 : Nat) : Int) := by rw [Int.tmod_eq_emod_of_nonneg (by omega)]; omega
      have t2 : (k : Int).tdiv 8 = ((k / 8 : Nat) : Int) := by rw [Int.tdiv_eq_ediv_of_nonneg (by omega)]; omega
      have s1 : (k : Int) % 8 = ((k % 8 : Nat) : Int) := by omega
      have s2 : (k : Int) / 8 = ((k / 8 : Nat) : Int) := by omega
      have v1 : k % 8 < 8 := by omega
      have v2 : k / 8 < 8 := by omega
      clear D0 D2 hgr hbr hx hy HF C1 C2 Hs
      generalize k % 8 = a at *
      generalize k / 8 = b at *
      have i1 : ((b : Int) * 8 + 7 - (a : Int)).toNat = b * 8 + 7 - a := by omega
      have v3 : (b : Int) * 8 + 7 - (a : Int) < 64 := by omega
      have v4 : 0 ≤ (b : Int) * 8 + 7 - (a : Int) := by omega
      go_wp2_with (first
        | (refine wpList_index_arr rfl 28 (.tmp 13) (.tmp 14) rfl 64 3 .i64 Tryd.underlying28 Tryd.underlying3 (by kernel_rfl) xs rfl .i64 k rfl (.int .i64 x) hlt hxs ?_)
        | fail)
      go_roundg (64 - (k + 1))
      case rel => exact ⟨k + 1, rfl, by omega, by go_num, D0', D2', hbr'⟩
      case measure => omega
    · obtain rfl : k = 64 := by omega
      clear Hx Hs
      have r0 := D0.out.range
      generalize ints .i64 (miK bs 64) = ms at *
      rename World => W0
      have C1' := veil (C1.out W0 (Q.after hbr))
      go_wp2_with (first
        | (refine wpList_load_mid rfl 28 (.tmp 1) rfl (w.heap.size) 0 rfl xs _ r0 Tryd.underlying28 rfl (info_blkn Hlb.out) ?_)
        | fail)
      refine C1'.out.mono ?_
      rintro e w1 ⟨rfl, hb1⟩
      have E2 := D2.out.step hb1 (.cells m1.toArray 28)
      have E3 := Blk.new w1 m1 28
      have hbs := below_step hbr hn0 hb1 (.cells m1.toArray 28)
      have C2' := veil (C2.out _ (Q.after hbs))
      have r2 := E2.range
      clear r0 D0 D2 hbr hb1 C1 C1' C2
      go_upto_region 10 with (first
        | (refine wpList_store_new w1 rfl 28 (.tmp 6) (.tmp 31) rfl _ m1 rfl rfl (info_blkn L1.out) (by rw [L1.out]; rfl) O1 ?_)
        | fail)
      go_wp2_with (first
        | (refine wpList_load_mid rfl 28 (.tmp 3) rfl (w0.heap.size) 0 rfl ms _ r2 Tryd.underlying28 rfl (info_blkn Hlm.out) ?_)
        | fail)
      refine C2'.out.mono ?_
      rintro e w2 ⟨rfl, hb2⟩
      have K3 := veil (E3.step hb2 (.cells m2.toArray 28))
      have K4 := veil (Blk.new w2 m2 28)
      have hbv := below_step hbs hn0 hb2 (.cells m2.toArray 28)
      clear E2 E3 hbs hb2 C2' r2
      go_upto_region 11 with (first
        | (refine wpList_store_new w2 rfl 28 (.tmp 8) (.tmp 36) rfl _ m2 rfl rfl (info_blkn L2.out) (by rw [L2.out]; rfl) O2 ?_)
        | fail)
      go_wp2_with fail
      go_loopg [41] 64 (fun gk i wr => ∃ k : Nat, gk = 64 - k ∧ k ≤ 64 ∧ i = .int .i64 (k : Int) ∧ Hid (Blk wr w1.heap.size m1 28) ∧ Hid (Blk wr w2.heap.size m2 28) ∧ Below w.heap.size w wr)
      case atStart => exact ⟨0, rfl, by omega, rfl, K3, K4, hbv⟩
      case round =>
        clear K3 K4 hbv
        obtain ⟨k, rfl, hk, rfl, G1, G2, hbr⟩ := hrel
        by_cases hlt : k < 64
        · have hltz : (k : Int) < 64 := by omega
          obtain ⟨u, v, h1, h2, hw1, hcase⟩ := HF.out k hlt
          have hc1 := G1.out.cell h1
          have hc2 := G2.out.cell h2
          clear HF h1 h2
          rcases hcase with ⟨hm, rfl⟩ | ⟨hm, rfl⟩
          · have t1 : (k : Int).tmod 2 = 0 := by rw [Int.tmod_eq_emod_of_nonneg (by omega)]; omega
            have s1 : (k : Int) % 2 = 0 := by omega
            clear hm
            go_wp2_with fail
            go_quiet (fail)
            go_wp2_with fail
            go_roundg (64 - (k + 1))
            case rel => exact ⟨k + 1, rfl, by omega, by go_num, veil (G1.out.drewN _), veil (G2.out.drewN _), hbr.drewN _⟩
            case measure => omega
          · have t1 : (k : Int).tmod 2 = 1 := by rw [Int.tmod_eq_emod_of_nonneg (by omega)]; omega
            have s1 : (k : Int) % 2 = 1 := by omega
            clear hm
            go_wp2_with fail
            go_quiet (fail)
            go_wp2_with fail
            go_roundg (64 - (k + 1))
            case rel => exact ⟨k + 1, rfl, by omega, by go_num, veil (G1.out.drewN _), veil (G2.out.drewN _), hbr.drewN _⟩
            case measure => omega
        · obtain rfl : k = 64 := by omega
          go_wp2
          go_ret
          exact ⟨rfl, hbr⟩
end Go.Proofs.YtgnpjejjnhdejaaDoor
