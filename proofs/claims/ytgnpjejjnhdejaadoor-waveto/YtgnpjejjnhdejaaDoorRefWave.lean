/- The reference's Wave: its contract, to waves and from them. -/
import Derived.Test.YtgnpjejjnhdejaaDoorRefBasis
import Derived.Test.YtgnpjejjnhdejaaDoorRefQ
import Derived.Test.YtgnpjejjnhdejaaDoorWBase
import Derived.Deep.RegionHeld3
namespace Go.Proofs.YtgnpjejjnhdejaaDoor
open Go.RowKit
set_option linter.unusedVariables false
set_option linter.unusedSimpArgs false

theorem power26 (w : World) : Calls Tryd.prog 29 #[.int .i64 26] w fun e w' => e = .returned (.int .i64 67108864) ∧ w' = w := by
  go_enter Tryd.func29, Tryd.ntmps29
  go_wp2
  go_ret
  exact ⟨rfl, rfl⟩
/-- The table of the basis, filled as far as place n. -/
def bsK (n : Nat) : List Int := mapK (fun i _ => cW (i / 8) (i % 8)) zero64 n
theorem bsK_length (n : Nat) : (bsK n).length = 64 := mapK_length _ _ _
theorem bsK_zero : bsK 0 = zero64 := mapK_zero _ _
theorem bsK_next {u x : Nat} (hu : u < 8) (hx : x < 8) : (ints .i64 (bsK (8 * u + x))).set (8 * u + x) (.int .i64 (cW u x)) = ints .i64 (bsK (8 * u + (x + 1))) := by
  have := mapK_next (f := fun i _ => cW (i / 8) (i % 8)) (cs := zero64) (k := 8 * u + x) (x := 0) (by omega) (by rw [zero64, List.getElem?_replicate, if_pos (by omega)])
  rw [show (8 * u + x) / 8 = u by omega, show (8 * u + x) % 8 = x by omega] at this
  rw [← Nat.add_assoc]
  unfold bsK
  rw [this]; simp [ints, List.map_set]
theorem bsK_at {u x : Nat} (hu : u < 8) (hx : x < 8) : (bsK 64)[8 * u + x]? = some (cW u x) := by
  unfold bsK mapK
  rw [List.getElem?_map, List.getElem?_range (by omega)]
  simp only [Option.map_some]
  rw [if_pos (by omega), show (8 * u + x) / 8 = u by omega, show (8 * u + x) % 8 = x by omega]
def rfK (N : List Int → Nat → Int) (cs : List Int) (n : Nat) : List Int := mapK (fun i _ => rnd (N cs i) 67108864) zero64 n
theorem rfK_next (N : List Int → Nat → Int) (cs : List Int) {i : Nat} (hi : i < 64) : (ints .i64 (rfK N cs i)).set i (.int .i64 (rnd (N cs i) 67108864)) = ints .i64 (rfK N cs (i + 1)) := by
  unfold rfK
  rw [mapK_next (x := 0) hi (by rw [zero64, List.getElem?_replicate, if_pos hi])]; simp [ints, List.map_set]
theorem rfK_to (cs : List Int) : rfK toN cs 64 = wTo cs := by
  unfold rfK mapK wTo
  refine List.map_congr_left fun i hi => ?_
  rw [if_pos (List.mem_range.1 hi)]
theorem rfK_fr (cs : List Int) : rfK frN cs 64 = wFr cs := by
  unfold rfK mapK wFr
  refine List.map_congr_left fun i hi => ?_
  rw [if_pos (List.mem_range.1 hi)]
theorem wrapM {n : Int} (h1 : -4611686018427387904 ≤ n) (h2 : n ≤ 4611686018427387904) : IntKind.i64.wrap n = n := by
  rw [IntKind.wrap_i64]; omega
set_option maxHeartbeats 4000000 in
set_option maxRecDepth 100000 in
theorem refTo_any (cs : List Int) (w : World) (hl : cs.length = 64) :
    Calls Tryd.prog 18 #[blkV cs, .bool true] w fun e w' => e = .returned (.tuple #[blkV (oTo cs), .int .i64 (badB (-40000) 40000 cs)]) ∧ Below w.heap.size w w' := by
  have hb2 := below2 w (.cells (ints .i64 cs).toArray 28) (.cells zeroB.toArray 28)
  have B0 := (Blk.new w (ints .i64 cs) 28).below (below1 _ (.cells zeroB.toArray 28)) (by simp)
  have B1 := Blk.new (w.alloc (.cells (ints .i64 cs).toArray 28)) zeroB 28
  have hz : ((w.alloc (.cells (ints .i64 cs).toArray 28)).alloc (.cells zeroB.toArray 28)).heap.size = w.heap.size + 1 + 1 := by simp
  have Hl : Hid ((ints .i64 cs).length = 64) := by show _ = _; rw [ints_length, hl]
  have HC := veil (bwithin_any cs (-40000) 40000 ((w.alloc (.cells (ints .i64 cs).toArray 28)).alloc (.cells zeroB.toArray 28)) hl)
  have Hz := veil zeroB_length
  have hzo := ints_one (k := .i64) (l := zero64)
  rw [zero_blk] at hzo
  rw [show (w.alloc (.cells (ints .i64 cs).toArray 28)).heap.size = w.heap.size + 1 by simp] at B1
  have r0 := B0.range
  cases hE : inB (-40000) 40000 cs with
  | false =>
    have HO : Hid (ints .i64 (oTo cs) = zeroB) := by show _ = _; rw [oTo, if_neg (by unfold badB; rw [hE]; simp)]; rfl
    rw [hE] at HC
    rw [show badB (-40000) 40000 cs = 1 by unfold badB; rw [hE]; rfl]
    clear hE
    unfold blkV at *
    rw [HO.out]; clear HO
    generalize ints .i64 cs = xs at *
    go_enter Tryd.func18, Tryd.ntmps18
    go_wp2_with (first
      | (refine wpList_load_mid rfl 28 (.tmp 2) rfl w.heap.size 0 rfl xs _ r0 Tryd.underlying28 rfl (info_blkn Hl.out) ?_)
      | fail)
    refine HC.out.mono ?_
    rintro e w1 ⟨rfl, hb1⟩
    have B1' := B1.below hb1 (by rw [hz]; omega)
    have hbw := hb2.trans (hb1.mono (by rw [hz]; omega))
    clear r0 B0 B1 HC hb2 hb1 hz
    go_wp2_with (first
      | (refine wpList_store_blk w1 rfl 28 (.tmp 4) (.tmp 17) rfl (w.heap.size + 1) zeroB zeroB 28 B1' rfl rfl (info_blkn Hz.out) rfl hzo ?_; intro w5 HB5 hg5)
      | fail)
    refine bodyPost_ret (v := .tuple #[.agg zeroB.toArray, .int .i64 1]) (results_row_tmp rfl _ _ (w.heap.size + 1) 28 zeroB.toArray (0, 0) _ _ rfl rfl HB5 Tryd.underlying28 rfl (by simp only [List.size_toArray]; exact info_blkn Hz.out)) rfl ⟨rfl, hbw.grown hg5 hbw.size (fun j hj => by injection hj with hj; omega)⟩
  | true =>
    have HO : Hid (ints .i64 (oTo cs) = ints .i64 (rfK toN cs 64)) := by show _ = _; rw [oTo, if_pos (by unfold badB; rw [hE]; rfl), rfK_to]
    have Hat : Hid (∀ (k : Nat) (x : Int), cs[k]? = some x → (ints .i64 cs)[k]? = some (.int .i64 x)) := fun _ _ h => ints_at h
    have HS : Hid (∀ i k : Nat, i < 64 → k < 64 → ∃ x c1 c2 : Int, cs[k]? = some x ∧ (bsK 64)[8 * (i % 8) + k % 8]? = some c1 ∧ (bsK 64)[8 * (i / 8) + k / 8]? = some c2 ∧ IntKind.i64.wrap (x * c1) = x * c1 ∧ IntKind.i64.wrap (x * c1 * c2) = x * c1 * c2 ∧ IntKind.i64.wrap (sumN k (fun k => cs.getD k 0 * toC i k) + x * c1 * c2) = sumN (k + 1) (fun k => cs.getD k 0 * toC i k)) := by
      intro i k hi hk
      obtain ⟨x, hx⟩ := some_at (xs := cs) (j := k) (by omega)
      have hxx : cs.getD k 0 = x := by rw [List.getD_eq_getElem?_getD, hx]; rfl
      have h1 := inB_at hE hx
      have p1 := part_small hE (toC i) (toC_abs i) (show k ≤ 64 by omega)
      have p2 := part_small hE (toC i) (toC_abs i) (show k + 1 ≤ 64 by omega)
      have p3 := term_small hE (toC_abs i k) k
      have q1 := cW_abs (i % 8) (k % 8)
      have q3 : absZ (x * cW (i % 8) (k % 8)) ≤ 40000 * 4096 := by
        rw [absZ_mul]; exact mul_le_mulZ (absZ_le.2 ⟨h1.2, h1.1⟩) (absZ_le.2 ⟨q1.2, q1.1⟩) (absZ_nonneg _) (by omega)
      have q4 := absZ_le.1 q3
      have e : x * cW (i % 8) (k % 8) * cW (i / 8) (k / 8) = cs.getD k 0 * toC i k := by rw [hxx, Int.mul_assoc]; rfl
      refine ⟨x, cW (i % 8) (k % 8), cW (i / 8) (k / 8), hx, bsK_at (by omega) (by omega), bsK_at (by omega) (by omega), wrapM (by omega) (by omega), ?_, ?_⟩
      · rw [e]; exact wrapM (by omega) (by omega)
      · rw [e]; exact wrapM (by rw [sumN_succ] at p2; omega) (by rw [sumN_succ] at p2; omega)
    have HR : Hid (∀ (i : Nat) (W : World), Calls Tryd.prog 24 #[.int .i64 (sumN 64 (fun k => cs.getD k 0 * toC i k)), .int .i64 67108864] W fun e w' => e = .returned (.int .i64 (rnd (toN cs i) 67108864)) ∧ w' = W) := by
      intro i W
      have p1 := part_small hE (toC i) (toC_abs i) (show 64 ≤ 64 by omega)
      rw [toN_sum]
      exact refRound_any _ _ W (by omega) (by omega) (by omega) (by omega)
    rw [hE] at HC
    rw [show badB (-40000) 40000 cs = 0 by unfold badB; rw [hE]; rfl]
    clear hE
    unfold blkV at *
    rw [HO.out]; clear HO
    generalize ints .i64 cs = xs at *
    go_enter Tryd.func18, Tryd.ntmps18
    go_wp2_with (first
      | (refine wpList_load_mid rfl 28 (.tmp 2) rfl w.heap.size 0 rfl xs _ r0 Tryd.underlying28 rfl (info_blkn Hl.out) ?_)
      | fail)
    refine HC.out.mono ?_
    rintro e w1 ⟨rfl, hb1⟩
    have B0' := B0.below hb1 (by rw [hz]; omega)
    have B1' := B1.below hb1 (by rw [hz]; omega)
    have hbw := hb2.trans (hb1.mono (by rw [hz]; omega))
    have hz1 := hb1.size
    rw [hz] at hz1
    have hbn := below1 w1 (.cells zeroB.toArray 44)
    have BC : Hid (Blk (w1.alloc (.cells zeroB.toArray 44)) w1.heap.size (ints .i64 (bsK 0)) 44) := by rw [bsK_zero]; exact Blk.new w1 zeroB _
    have BX := veil (B0'.below hbn B0'.lt)
    have BZ := veil (B1'.below hbn B1'.lt)
    have hbw2 := hbw.trans (hbn.mono hbw.size)
    clear r0 B0 B1 HC hb2 hb1 hz B0' B1' hbw hbn
    go_wp2_with fail
    go_loopg [18] 8 (fun gk i wr => ∃ u : Nat, gk = 8 - u ∧ u ≤ 8 ∧ i = .int .i64 (u : Int) ∧ Hid (Blk wr w.heap.size xs 28) ∧ Hid (Blk wr (w.heap.size + 1) zeroB 28) ∧ Hid (Blk wr w1.heap.size (ints .i64 (bsK (8 * u))) 44) ∧ Below w.heap.size w wr)
    case atStart => exact ⟨0, rfl, by omega, rfl, BX, BZ, BC, hbw2⟩
    case round =>
      clear BX BZ BC hbw2
      obtain ⟨u, rfl, hu, rfl, BX, BZ, BC, hbw⟩ := hrel
      by_cases hlu : u < 8
      · have hluz : (u : Int) < 8 := by omega
        go_wp2_with fail
        rename World => W1
        go_loopg [21] 8 (fun gk i wr => ∃ x : Nat, gk = 8 - x ∧ x ≤ 8 ∧ i = .int .i64 (x : Int) ∧ Hid (Blk wr w.heap.size xs 28) ∧ Hid (Blk wr (w.heap.size + 1) zeroB 28) ∧ Hid (Blk wr w1.heap.size (ints .i64 (bsK (8 * u + x))) 44) ∧ Below w.heap.size w wr)
        case atStart => exact ⟨0, rfl, by omega, rfl, BX, BZ, BC, hbw⟩
        case round =>
          clear BX BZ BC hbw
          obtain ⟨x, rfl, hx, rfl, BX, BZ, BC, hbw⟩ := hrel
          by_cases hlx : x < 8
          · have hlxz : (x : Int) < 8 := by omega
            have HC := veil (refBasis_any u x wr.drew hlu hlx)
            have Hset := veil (bsK_next hlu hlx)
            obtain ⟨y, hy⟩ := some_at (xs := bsK (8 * u + x)) (j := 8 * u + x) (by rw [bsK_length]; omega)
            have Hy := veil (ints_at (k := .i64) hy)
            clear hy
            obtain ⟨l2, hl2⟩ : ∃ l2, l2 = ints .i64 (bsK (8 * u + (x + 1))) := ⟨_, rfl⟩
            rw [← hl2] at Hset
            have HL2 := veil hl2; clear hl2
            generalize ints .i64 (bsK (8 * u + x)) = l1 at *
            generalize cW u x = R at *
            go_wp2_with fail
            have BCd : Hid (Blk wr.drew w1.heap.size l1 44) := BC.out.drewN 1
            go_region_held3 (fun _ => True) (trivial)
              (first
                | (go_at_call 16; refine HC.out.mono ?_; rintro e w2 ⟨rfl, hb2⟩; have BC2 := BCd.out.below hb2 BCd.out.lt; have hcy := BC2.cell (Nat.mul_comm 8 u ▸ Hy.out); have hfy := BC2.frozen (u * 8 + x))
                | fail)
            have HB5 : Hid (Blk (w2.setCell ⟨w1.heap.size, u * 8 + x, none⟩ (.int .i64 R)) w1.heap.size l2 44) := by
              have := BC2.set (8 * u + x) (.int .i64 R)
              rw [Hset.out, Nat.mul_comm 8 u] at this
              exact this
            have hgr : w2.grownBy (w2.setCell ⟨w1.heap.size, u * 8 + x, none⟩ (.int .i64 R)) (some w1.heap.size) :=
              ⟨rfl, rfl, rfl, by simp [World.setCell], fun i _ hi => Below.heap_setCell _ _ _ _ (fun e => hi (by rw [e]))⟩
            have BX5 := veil (((BX.out.drewN 1).below hb2 BX.out.lt).kept hgr (by simp; omega))
            have BZ5 := veil (((BZ.out.drewN 1).below hb2 BZ.out.lt).kept hgr (by simp; omega))
            have hbd : Below w.heap.size w w2 := hbw.drew.trans (hb2.mono hbw.size)
            have HG5 : Below w.heap.size w (w2.setCell ⟨w1.heap.size, u * 8 + x, none⟩ (.int .i64 R)) := hbd.grown hgr hbd.size (fun j hj => by injection hj with hj; omega)
            clear BX BZ BC BC2 BCd hgr hbd hbw hb2 hcy hfy
            go_wp2_with fail
            go_roundg (8 - (x + 1))
            case rel => exact ⟨x + 1, rfl, by omega, by go_num, BX5, BZ5, veil (by rw [← HL2.out]; exact HB5), HG5⟩
            case measure => omega
          · obtain rfl : x = 8 := by omega
            go_wp2_with fail
            go_roundg (8 - (u + 1))
            case rel => exact ⟨u + 1, rfl, by omega, by go_num, BX, BZ, BC, hbw⟩
            case measure => omega
      · obtain rfl : u = 8 := by omega
        rename World => W2
        have hbn := below1 W2 (.cells zeroB.toArray 28)
        have BN : Hid (Blk (W2.alloc (.cells zeroB.toArray 28)) W2.heap.size (ints .i64 (rfK toN cs 0)) 28) := by
          rw [show rfK toN cs 0 = zero64 from mapK_zero _ _]; exact Blk.new W2 zeroB _
        have BX2 := veil (BX.out.below hbn BX.out.lt)
        have BZ2 := veil (BZ.out.below hbn BZ.out.lt)
        have BC2 := veil (BC.out.below hbn BC.out.lt)
        have hbw2 := hbw.trans (hbn.mono hbw.size)
        have n1 := BX.out.lt
        have n2 := BZ.out.lt
        have n3 := BC.out.lt
        clear BX BZ BC hbw hbn
        go_wp2_with fail
        go_loopg [33] 64 (fun gk i wr => ∃ i' : Nat, gk = 64 - i' ∧ i' ≤ 64 ∧ i = .int .i64 (i' : Int) ∧ Hid (Blk wr w.heap.size xs 28) ∧ Hid (Blk wr (w.heap.size + 1) zeroB 28) ∧ Hid (Blk wr w1.heap.size (ints .i64 (bsK 64)) 44) ∧ Hid (Blk wr W2.heap.size (ints .i64 (rfK toN cs i')) 28) ∧ Below w.heap.size w wr)
        case atStart => exact ⟨0, rfl, by omega, rfl, BX2, BZ2, BC2, BN, hbw2⟩
        case round =>
          clear BX2 BZ2 BC2 BN hbw2
          obtain ⟨i, rfl, hi, rfl, BX, BZ, BC, BN, hbw⟩ := hrel
          by_cases hli : i < 64
          · have hliz : (i : Int) < 64 := by omega
            have r0 := BX.out.range
            go_wp2_with (first
              | (refine wpList_load_mid rfl 28 (.tmp 2) rfl w.heap.size 0 rfl xs _ r0 Tryd.underlying28 rfl (info_blkn Hl.out) ?_)
              | fail)
            rename World => W3
            go_loopg [37, 11] 64 (fun gk i' s wr => ∃ k : Nat, gk = 64 - k ∧ k ≤ 64 ∧ i' = .int .i64 (k : Int) ∧ s = .int .i64 (sumN k (fun k => cs.getD k 0 * toC i k)) ∧ Hid (Blk wr w.heap.size xs 28) ∧ Hid (Blk wr (w.heap.size + 1) zeroB 28) ∧ Hid (Blk wr w1.heap.size (ints .i64 (bsK 64)) 44) ∧ Hid (Blk wr W2.heap.size (ints .i64 (rfK toN cs i)) 28) ∧ Below w.heap.size w wr)
            case atStart => exact ⟨0, rfl, by omega, rfl, rfl, BX, BZ, BC, BN, hbw⟩
            case round =>
              clear BX BZ BC BN hbw r0
              obtain ⟨k, rfl, hk, rfl, rfl, BX, BZ, BC, BN, hbw⟩ := hrel
              by_cases hlk : k < 64
              · have hlkz : (k : Int) < 64 := by omega
                obtain ⟨x, c1, c2, hx, hc1, hc2, hw1, hw2, hw3⟩ := HS.out i k hli hlk
                have hxs := Hat.out _ _ hx
                have hd1 := BC.out.cell (ints_at hc1)
                have hd2 := BC.out.cell (ints_at hc2)
                have t1 : (i : Int).tmod 8 = ((i % 8 : Nat) : Int) := by rw [Int.tmod_eq_emod_of_nonneg (by omega)]; omega
                have t2 : (k : Int).tmod 8 = ((k % 8 : Nat) : Int) := by rw [Int.tmod_eq_emod_of_nonneg (by omega)]; omega
                have t3 : (i : Int).tdiv 8 = ((i / 8 : Nat) : Int) := by rw [Int.tdiv_eq_ediv_of_nonneg (by omega)]; omega
                have t4 : (k : Int).tdiv 8 = ((k / 8 : Nat) : Int) := by rw [Int.tdiv_eq_ediv_of_nonneg (by omega)]; omega
                have s1 : (i : Int) % 8 = ((i % 8 : Nat) : Int) := by omega
                have s2 : (k : Int) % 8 = ((k % 8 : Nat) : Int) := by omega
                have s3 : (i : Int) / 8 = ((i / 8 : Nat) : Int) := by omega
                have s4 : (k : Int) / 8 = ((k / 8 : Nat) : Int) := by omega
                have v1 : i % 8 < 8 := by omega
                have v2 : k % 8 < 8 := by omega
                have v3 : i / 8 < 8 := by omega
                have v4 : k / 8 < 8 := by omega
                rw [Nat.mul_comm 8] at hd1 hd2
                clear hx hc1 hc2 HS HR
                obtain ⟨s', hs'⟩ : ∃ s', s' = sumN (k + 1) (fun k => cs.getD k 0 * toC i k) := ⟨_, rfl⟩
                rw [← hs'] at hw3
                have HS' := veil hs'; clear hs'
                generalize sumN k (fun k => cs.getD k 0 * toC i k) = s at *
                generalize i % 8 = a1 at *
                generalize k % 8 = a2 at *
                generalize i / 8 = a3 at *
                generalize k / 8 = a4 at *
                have v1z : (a1 : Int) < 8 := by omega
                have v2z : (a2 : Int) < 8 := by omega
                have v3z : (a3 : Int) < 8 := by omega
                have v4z : (a4 : Int) < 8 := by omega
                go_wp2_with (first
                  | (refine wpList_index_arr rfl 28 (.tmp 36) (.tmp 37) rfl 64 3 .i64 Tryd.underlying28 Tryd.underlying3 (by kernel_rfl) xs rfl .i64 k rfl (.int .i64 x) hlk hxs ?_)
                  | fail)
                go_quiet (fail)
                go_wp2_with fail
                go_roundg (64 - (k + 1))
                case rel => exact ⟨k + 1, rfl, by omega, by go_num, by rw [HS'.out], veil (BX.out.drewN _), veil (BZ.out.drewN _), veil (BC.out.drewN _), veil (BN.out.drewN _), hbw.drewN _⟩
                case measure => omega
              · obtain rfl : k = 64 := by omega
                have HC := veil (HR.out i wr)
                have HP := veil (power26 wr)
                obtain ⟨y, hy⟩ := some_at (xs := rfK toN cs i) (j := i) (by rw [rfK, mapK_length]; omega)
                have hcy := BN.out.cell (ints_at hy)
                have hfy := BN.out.frozen i
                have hgr : wr.grownBy (wr.setCell ⟨W2.heap.size, i, none⟩ (.int .i64 (rnd (toN cs i) 67108864))) (some W2.heap.size) :=
                  ⟨rfl, rfl, rfl, by simp [World.setCell], fun i _ hi => Below.heap_setCell _ _ _ _ (fun e => hi (by rw [e]))⟩
                have BN5 : Hid (Blk (wr.setCell ⟨W2.heap.size, i, none⟩ (.int .i64 (rnd (toN cs i) 67108864))) W2.heap.size (ints .i64 (rfK toN cs (i + 1))) 28) := by
                  rw [← rfK_next toN cs hli]; exact BN.out.set i _
                have BX5 := veil (BX.out.kept hgr (by simp; omega))
                have BZ5 := veil (BZ.out.kept hgr (by simp; omega))
                have BC5 := veil (BC.out.kept hgr (by simp; omega))
                have HG5 : Below w.heap.size w (wr.setCell ⟨W2.heap.size, i, none⟩ (.int .i64 (rnd (toN cs i) 67108864))) := hbw.grown hgr hbw.size (fun j hj => by injection hj with hj; omega)
                clear BX BZ BC BN hbw hgr hy HR HS
                generalize rnd (toN cs i) 67108864 = R at *
                generalize sumN 64 (fun k => cs.getD k 0 * toC i k) = s at *
                go_wp2_with fail
                refine HP.out.mono ?_
                rintro e w4 ⟨rfl, rfl⟩
                go_wp2_with fail
                refine HC.out.mono ?_
                rintro e w4 ⟨rfl, rfl⟩
                go_wp2_with fail
                go_roundg (64 - (i + 1))
                case rel => exact ⟨i + 1, rfl, by omega, by go_num, BX5, BZ5, BC5, BN5, HG5⟩
                case measure => omega
          · obtain rfl : i = 64 := by omega
            have HBr := BN.out
            have HR2 := BZ.out
            have Hlen : Hid ((ints .i64 (rfK toN cs 64)).length = 64) := by show _ = _; rw [ints_length, rfK, mapK_length]
            have hone := ints_one (k := .i64) (l := rfK toN cs 64)
            obtain ⟨ys, hys⟩ : ∃ ys, ys = ints .i64 (rfK toN cs 64) := ⟨_, rfl⟩
            rw [← hys] at Hlen hone HBr
            have HX := veil hys
            generalize zeroB = x0 at *
            clear BX BZ BC BN hys HR HS
            go_wp2_with (first
              | (refine wpList_load_mid rfl 28 (.tmp 9) rfl W2.heap.size 0 rfl ys _ HBr.range Tryd.underlying28 rfl (info_blkn Hlen.out) ?_)
              | (refine wpList_store_blk wr rfl 28 (.tmp 4) (.tmp 87) rfl (w.heap.size + 1) x0 ys 28 HR2 rfl rfl (info_blkn Hlen.out) (by rw [Hlen.out, Hz.out]) hone ?_; intro w5 HB5 hg5)
              | fail)
            refine bodyPost_ret (v := .tuple #[.agg ys.toArray, .int .i64 0]) (results_row_tmp rfl _ _ (w.heap.size + 1) 28 ys.toArray (0, 0) _ _ rfl rfl HB5 Tryd.underlying28 rfl (by simp only [List.size_toArray]; exact info_blkn Hlen.out)) rfl ⟨by rw [HX.out], hbw.grown hg5 hbw.size (fun j hj => by injection hj with hj; omega)⟩
set_option maxHeartbeats 4000000 in
set_option maxRecDepth 100000 in
theorem refFr_any (cs : List Int) (w : World) (hl : cs.length = 64) :
    Calls Tryd.prog 18 #[blkV cs, .bool false] w fun e w' => e = .returned (.tuple #[blkV (oFr cs), .int .i64 (badB (-40000) 40000 cs)]) ∧ Below w.heap.size w w' := by
  have hb2 := below2 w (.cells (ints .i64 cs).toArray 28) (.cells zeroB.toArray 28)
  have B0 := (Blk.new w (ints .i64 cs) 28).below (below1 _ (.cells zeroB.toArray 28)) (by simp)
  have B1 := Blk.new (w.alloc (.cells (ints .i64 cs).toArray 28)) zeroB 28
  have hz : ((w.alloc (.cells (ints .i64 cs).toArray 28)).alloc (.cells zeroB.toArray 28)).heap.size = w.heap.size + 1 + 1 := by simp
  have Hl : Hid ((ints .i64 cs).length = 64) := by show _ = _; rw [ints_length, hl]
  have HC := veil (bwithin_any cs (-40000) 40000 ((w.alloc (.cells (ints .i64 cs).toArray 28)).alloc (.cells zeroB.toArray 28)) hl)
  have Hz := veil zeroB_length
  have hzo := ints_one (k := .i64) (l := zero64)
  rw [zero_blk] at hzo
  rw [show (w.alloc (.cells (ints .i64 cs).toArray 28)).heap.size = w.heap.size + 1 by simp] at B1
  have r0 := B0.range
  cases hE : inB (-40000) 40000 cs with
  | false =>
    have HO : Hid (ints .i64 (oFr cs) = zeroB) := by show _ = _; rw [oFr, if_neg (by unfold badB; rw [hE]; simp)]; rfl
    rw [hE] at HC
    rw [show badB (-40000) 40000 cs = 1 by unfold badB; rw [hE]; rfl]
    clear hE
    unfold blkV at *
    rw [HO.out]; clear HO
    generalize ints .i64 cs = xs at *
    go_enter Tryd.func18, Tryd.ntmps18
    go_wp2_with (first
      | (refine wpList_load_mid rfl 28 (.tmp 2) rfl w.heap.size 0 rfl xs _ r0 Tryd.underlying28 rfl (info_blkn Hl.out) ?_)
      | fail)
    refine HC.out.mono ?_
    rintro e w1 ⟨rfl, hb1⟩
    have B1' := B1.below hb1 (by rw [hz]; omega)
    have hbw := hb2.trans (hb1.mono (by rw [hz]; omega))
    clear r0 B0 B1 HC hb2 hb1 hz
    go_wp2_with (first
      | (refine wpList_store_blk w1 rfl 28 (.tmp 4) (.tmp 17) rfl (w.heap.size + 1) zeroB zeroB 28 B1' rfl rfl (info_blkn Hz.out) rfl hzo ?_; intro w5 HB5 hg5)
      | fail)
    refine bodyPost_ret (v := .tuple #[.agg zeroB.toArray, .int .i64 1]) (results_row_tmp rfl _ _ (w.heap.size + 1) 28 zeroB.toArray (0, 0) _ _ rfl rfl HB5 Tryd.underlying28 rfl (by simp only [List.size_toArray]; exact info_blkn Hz.out)) rfl ⟨rfl, hbw.grown hg5 hbw.size (fun j hj => by injection hj with hj; omega)⟩
  | true =>
    have HO : Hid (ints .i64 (oFr cs) = ints .i64 (rfK frN cs 64)) := by show _ = _; rw [oFr, if_pos (by unfold badB; rw [hE]; rfl), rfK_fr]
    have Hat : Hid (∀ (k : Nat) (x : Int), cs[k]? = some x → (ints .i64 cs)[k]? = some (.int .i64 x)) := fun _ _ h => ints_at h
    have HS : Hid (∀ i k : Nat, i < 64 → k < 64 → ∃ x c1 c2 : Int, cs[k]? = some x ∧ (bsK 64)[8 * (k % 8) + i % 8]? = some c1 ∧ (bsK 64)[8 * (k / 8) + i / 8]? = some c2 ∧ IntKind.i64.wrap (x * c1) = x * c1 ∧ IntKind.i64.wrap (x * c1 * c2) = x * c1 * c2 ∧ IntKind.i64.wrap (sumN k (fun k => cs.getD k 0 * frC i k) + x * c1 * c2) = sumN (k + 1) (fun k => cs.getD k 0 * frC i k)) := by
      intro i k hi hk
      obtain ⟨x, hx⟩ := some_at (xs := cs) (j := k) (by omega)
      have hxx : cs.getD k 0 = x := by rw [List.getD_eq_getElem?_getD, hx]; rfl
      have h1 := inB_at hE hx
      have p1 := part_small hE (frC i) (frC_abs i) (show k ≤ 64 by omega)
      have p2 := part_small hE (frC i) (frC_abs i) (show k + 1 ≤ 64 by omega)
      have p3 := term_small hE (frC_abs i k) k
      have q1 := cW_abs (k % 8) (i % 8)
      have q3 : absZ (x * cW (k % 8) (i % 8)) ≤ 40000 * 4096 := by
        rw [absZ_mul]; exact mul_le_mulZ (absZ_le.2 ⟨h1.2, h1.1⟩) (absZ_le.2 ⟨q1.2, q1.1⟩) (absZ_nonneg _) (by omega)
      have q4 := absZ_le.1 q3
      have e : x * cW (k % 8) (i % 8) * cW (k / 8) (i / 8) = cs.getD k 0 * frC i k := by rw [hxx, Int.mul_assoc]; rfl
      refine ⟨x, cW (k % 8) (i % 8), cW (k / 8) (i / 8), hx, bsK_at (by omega) (by omega), bsK_at (by omega) (by omega), wrapM (by omega) (by omega), ?_, ?_⟩
      · rw [e]; exact wrapM (by omega) (by omega)
      · rw [e]; exact wrapM (by rw [sumN_succ] at p2; omega) (by rw [sumN_succ] at p2; omega)
    have HR : Hid (∀ (i : Nat) (W : World), Calls Tryd.prog 24 #[.int .i64 (sumN 64 (fun k => cs.getD k 0 * frC i k)), .int .i64 67108864] W fun e w' => e = .returned (.int .i64 (rnd (frN cs i) 67108864)) ∧ w' = W) := by
      intro i W
      have p1 := part_small hE (frC i) (frC_abs i) (show 64 ≤ 64 by omega)
      rw [frN_sum]
      exact refRound_any _ _ W (by omega) (by omega) (by omega) (by omega)
    rw [hE] at HC
    rw [show badB (-40000) 40000 cs = 0 by unfold badB; rw [hE]; rfl]
    clear hE
    unfold blkV at *
    rw [HO.out]; clear HO
    generalize ints .i64 cs = xs at *
    go_enter Tryd.func18, Tryd.ntmps18
    go_wp2_with (first
      | (refine wpList_load_mid rfl 28 (.tmp 2) rfl w.heap.size 0 rfl xs _ r0 Tryd.underlying28 rfl (info_blkn Hl.out) ?_)
      | fail)
    refine HC.out.mono ?_
    rintro e w1 ⟨rfl, hb1⟩
    have B0' := B0.below hb1 (by rw [hz]; omega)
    have B1' := B1.below hb1 (by rw [hz]; omega)
    have hbw := hb2.trans (hb1.mono (by rw [hz]; omega))
    have hz1 := hb1.size
    rw [hz] at hz1
    have hbn := below1 w1 (.cells zeroB.toArray 44)
    have BC : Hid (Blk (w1.alloc (.cells zeroB.toArray 44)) w1.heap.size (ints .i64 (bsK 0)) 44) := by rw [bsK_zero]; exact Blk.new w1 zeroB _
    have BX := veil (B0'.below hbn B0'.lt)
    have BZ := veil (B1'.below hbn B1'.lt)
    have hbw2 := hbw.trans (hbn.mono hbw.size)
    clear r0 B0 B1 HC hb2 hb1 hz B0' B1' hbw hbn
    go_wp2_with fail
    go_loopg [18] 8 (fun gk i wr => ∃ u : Nat, gk = 8 - u ∧ u ≤ 8 ∧ i = .int .i64 (u : Int) ∧ Hid (Blk wr w.heap.size xs 28) ∧ Hid (Blk wr (w.heap.size + 1) zeroB 28) ∧ Hid (Blk wr w1.heap.size (ints .i64 (bsK (8 * u))) 44) ∧ Below w.heap.size w wr)
    case atStart => exact ⟨0, rfl, by omega, rfl, BX, BZ, BC, hbw2⟩
    case round =>
      clear BX BZ BC hbw2
      obtain ⟨u, rfl, hu, rfl, BX, BZ, BC, hbw⟩ := hrel
      by_cases hlu : u < 8
      · have hluz : (u : Int) < 8 := by omega
        go_wp2_with fail
        rename World => W1
        go_loopg [21] 8 (fun gk i wr => ∃ x : Nat, gk = 8 - x ∧ x ≤ 8 ∧ i = .int .i64 (x : Int) ∧ Hid (Blk wr w.heap.size xs 28) ∧ Hid (Blk wr (w.heap.size + 1) zeroB 28) ∧ Hid (Blk wr w1.heap.size (ints .i64 (bsK (8 * u + x))) 44) ∧ Below w.heap.size w wr)
        case atStart => exact ⟨0, rfl, by omega, rfl, BX, BZ, BC, hbw⟩
        case round =>
          clear BX BZ BC hbw
          obtain ⟨x, rfl, hx, rfl, BX, BZ, BC, hbw⟩ := hrel
          by_cases hlx : x < 8
          · have hlxz : (x : Int) < 8 := by omega
            have HC := veil (refBasis_any u x wr.drew hlu hlx)
            have Hset := veil (bsK_next hlu hlx)
            obtain ⟨y, hy⟩ := some_at (xs := bsK (8 * u + x)) (j := 8 * u + x) (by rw [bsK_length]; omega)
            have Hy := veil (ints_at (k := .i64) hy)
            clear hy
            obtain ⟨l2, hl2⟩ : ∃ l2, l2 = ints .i64 (bsK (8 * u + (x + 1))) := ⟨_, rfl⟩
            rw [← hl2] at Hset
            have HL2 := veil hl2; clear hl2
            generalize ints .i64 (bsK (8 * u + x)) = l1 at *
            generalize cW u x = R at *
            go_wp2_with fail
            have BCd : Hid (Blk wr.drew w1.heap.size l1 44) := BC.out.drewN 1
            go_region_held3 (fun _ => True) (trivial)
              (first
                | (go_at_call 16; refine HC.out.mono ?_; rintro e w2 ⟨rfl, hb2⟩; have BC2 := BCd.out.below hb2 BCd.out.lt; have hcy := BC2.cell (Nat.mul_comm 8 u ▸ Hy.out); have hfy := BC2.frozen (u * 8 + x))
                | fail)
            have HB5 : Hid (Blk (w2.setCell ⟨w1.heap.size, u * 8 + x, none⟩ (.int .i64 R)) w1.heap.size l2 44) := by
              have := BC2.set (8 * u + x) (.int .i64 R)
              rw [Hset.out, Nat.mul_comm 8 u] at this
              exact this
            have hgr : w2.grownBy (w2.setCell ⟨w1.heap.size, u * 8 + x, none⟩ (.int .i64 R)) (some w1.heap.size) :=
              ⟨rfl, rfl, rfl, by simp [World.setCell], fun i _ hi => Below.heap_setCell _ _ _ _ (fun e => hi (by rw [e]))⟩
            have BX5 := veil (((BX.out.drewN 1).below hb2 BX.out.lt).kept hgr (by simp; omega))
            have BZ5 := veil (((BZ.out.drewN 1).below hb2 BZ.out.lt).kept hgr (by simp; omega))
            have hbd : Below w.heap.size w w2 := hbw.drew.trans (hb2.mono hbw.size)
            have HG5 : Below w.heap.size w (w2.setCell ⟨w1.heap.size, u * 8 + x, none⟩ (.int .i64 R)) := hbd.grown hgr hbd.size (fun j hj => by injection hj with hj; omega)
            clear BX BZ BC BC2 BCd hgr hbd hbw hb2 hcy hfy
            go_wp2_with fail
            go_roundg (8 - (x + 1))
            case rel => exact ⟨x + 1, rfl, by omega, by go_num, BX5, BZ5, veil (by rw [← HL2.out]; exact HB5), HG5⟩
            case measure => omega
          · obtain rfl : x = 8 := by omega
            go_wp2_with fail
            go_roundg (8 - (u + 1))
            case rel => exact ⟨u + 1, rfl, by omega, by go_num, BX, BZ, BC, hbw⟩
            case measure => omega
      · obtain rfl : u = 8 := by omega
        rename World => W2
        have hbn := below1 W2 (.cells zeroB.toArray 28)
        have BN : Hid (Blk (W2.alloc (.cells zeroB.toArray 28)) W2.heap.size (ints .i64 (rfK frN cs 0)) 28) := by
          rw [show rfK frN cs 0 = zero64 from mapK_zero _ _]; exact Blk.new W2 zeroB _
        have BX2 := veil (BX.out.below hbn BX.out.lt)
        have BZ2 := veil (BZ.out.below hbn BZ.out.lt)
        have BC2 := veil (BC.out.below hbn BC.out.lt)
        have hbw2 := hbw.trans (hbn.mono hbw.size)
        have n1 := BX.out.lt
        have n2 := BZ.out.lt
        have n3 := BC.out.lt
        clear BX BZ BC hbw hbn
        go_wp2_with fail
        go_loopg [33] 64 (fun gk i wr => ∃ i' : Nat, gk = 64 - i' ∧ i' ≤ 64 ∧ i = .int .i64 (i' : Int) ∧ Hid (Blk wr w.heap.size xs 28) ∧ Hid (Blk wr (w.heap.size + 1) zeroB 28) ∧ Hid (Blk wr w1.heap.size (ints .i64 (bsK 64)) 44) ∧ Hid (Blk wr W2.heap.size (ints .i64 (rfK frN cs i')) 28) ∧ Below w.heap.size w wr)
        case atStart => exact ⟨0, rfl, by omega, rfl, BX2, BZ2, BC2, BN, hbw2⟩
        case round =>
          clear BX2 BZ2 BC2 BN hbw2
          obtain ⟨i, rfl, hi, rfl, BX, BZ, BC, BN, hbw⟩ := hrel
          by_cases hli : i < 64
          · have hliz : (i : Int) < 64 := by omega
            have r0 := BX.out.range
            go_wp2_with (first
              | (refine wpList_load_mid rfl 28 (.tmp 2) rfl w.heap.size 0 rfl xs _ r0 Tryd.underlying28 rfl (info_blkn Hl.out) ?_)
              | fail)
            rename World => W3
            go_loopg [37, 11] 64 (fun gk i' s wr => ∃ k : Nat, gk = 64 - k ∧ k ≤ 64 ∧ i' = .int .i64 (k : Int) ∧ s = .int .i64 (sumN k (fun k => cs.getD k 0 * frC i k)) ∧ Hid (Blk wr w.heap.size xs 28) ∧ Hid (Blk wr (w.heap.size + 1) zeroB 28) ∧ Hid (Blk wr w1.heap.size (ints .i64 (bsK 64)) 44) ∧ Hid (Blk wr W2.heap.size (ints .i64 (rfK frN cs i)) 28) ∧ Below w.heap.size w wr)
            case atStart => exact ⟨0, rfl, by omega, rfl, rfl, BX, BZ, BC, BN, hbw⟩
            case round =>
              clear BX BZ BC BN hbw r0
              obtain ⟨k, rfl, hk, rfl, rfl, BX, BZ, BC, BN, hbw⟩ := hrel
              by_cases hlk : k < 64
              · have hlkz : (k : Int) < 64 := by omega
                obtain ⟨x, c1, c2, hx, hc1, hc2, hw1, hw2, hw3⟩ := HS.out i k hli hlk
                have hxs := Hat.out _ _ hx
                have hd1 := BC.out.cell (ints_at hc1)
                have hd2 := BC.out.cell (ints_at hc2)
                have t1 : (i : Int).tmod 8 = ((i % 8 : Nat) : Int) := by rw [Int.tmod_eq_emod_of_nonneg (by omega)]; omega
                have t2 : (k : Int).tmod 8 = ((k % 8 : Nat) : Int) := by rw [Int.tmod_eq_emod_of_nonneg (by omega)]; omega
                have t3 : (i : Int).tdiv 8 = ((i / 8 : Nat) : Int) := by rw [Int.tdiv_eq_ediv_of_nonneg (by omega)]; omega
                have t4 : (k : Int).tdiv 8 = ((k / 8 : Nat) : Int) := by rw [Int.tdiv_eq_ediv_of_nonneg (by omega)]; omega
                have s1 : (i : Int) % 8 = ((i % 8 : Nat) : Int) := by omega
                have s2 : (k : Int) % 8 = ((k % 8 : Nat) : Int) := by omega
                have s3 : (i : Int) / 8 = ((i / 8 : Nat) : Int) := by omega
                have s4 : (k : Int) / 8 = ((k / 8 : Nat) : Int) := by omega
                have v1 : i % 8 < 8 := by omega
                have v2 : k % 8 < 8 := by omega
                have v3 : i / 8 < 8 := by omega
                have v4 : k / 8 < 8 := by omega
                rw [Nat.mul_comm 8] at hd1 hd2
                clear hx hc1 hc2 HS HR
                obtain ⟨s', hs'⟩ : ∃ s', s' = sumN (k + 1) (fun k => cs.getD k 0 * frC i k) := ⟨_, rfl⟩
                rw [← hs'] at hw3
                have HS' := veil hs'; clear hs'
                generalize sumN k (fun k => cs.getD k 0 * frC i k) = s at *
                generalize i % 8 = a1 at *
                generalize k % 8 = a2 at *
                generalize i / 8 = a3 at *
                generalize k / 8 = a4 at *
                have v1z : (a1 : Int) < 8 := by omega
                have v2z : (a2 : Int) < 8 := by omega
                have v3z : (a3 : Int) < 8 := by omega
                have v4z : (a4 : Int) < 8 := by omega
                go_wp2_with (first
                  | (refine wpList_index_arr rfl 28 (.tmp 36) (.tmp 37) rfl 64 3 .i64 Tryd.underlying28 Tryd.underlying3 (by kernel_rfl) xs rfl .i64 k rfl (.int .i64 x) hlk hxs ?_)
                  | fail)
                go_quiet (fail)
                go_wp2_with fail
                go_roundg (64 - (k + 1))
                case rel => exact ⟨k + 1, rfl, by omega, by go_num, by rw [HS'.out], veil (BX.out.drewN _), veil (BZ.out.drewN _), veil (BC.out.drewN _), veil (BN.out.drewN _), hbw.drewN _⟩
                case measure => omega
              · obtain rfl : k = 64 := by omega
                have HC := veil (HR.out i wr)
                have HP := veil (power26 wr)
                obtain ⟨y, hy⟩ := some_at (xs := rfK frN cs i) (j := i) (by rw [rfK, mapK_length]; omega)
                have hcy := BN.out.cell (ints_at hy)
                have hfy := BN.out.frozen i
                have hgr : wr.grownBy (wr.setCell ⟨W2.heap.size, i, none⟩ (.int .i64 (rnd (frN cs i) 67108864))) (some W2.heap.size) :=
                  ⟨rfl, rfl, rfl, by simp [World.setCell], fun i _ hi => Below.heap_setCell _ _ _ _ (fun e => hi (by rw [e]))⟩
                have BN5 : Hid (Blk (wr.setCell ⟨W2.heap.size, i, none⟩ (.int .i64 (rnd (frN cs i) 67108864))) W2.heap.size (ints .i64 (rfK frN cs (i + 1))) 28) := by
                  rw [← rfK_next frN cs hli]; exact BN.out.set i _
                have BX5 := veil (BX.out.kept hgr (by simp; omega))
                have BZ5 := veil (BZ.out.kept hgr (by simp; omega))
                have BC5 := veil (BC.out.kept hgr (by simp; omega))
                have HG5 : Below w.heap.size w (wr.setCell ⟨W2.heap.size, i, none⟩ (.int .i64 (rnd (frN cs i) 67108864))) := hbw.grown hgr hbw.size (fun j hj => by injection hj with hj; omega)
                clear BX BZ BC BN hbw hgr hy HR HS
                generalize rnd (frN cs i) 67108864 = R at *
                generalize sumN 64 (fun k => cs.getD k 0 * frC i k) = s at *
                go_wp2_with fail
                refine HP.out.mono ?_
                rintro e w4 ⟨rfl, rfl⟩
                go_wp2_with fail
                refine HC.out.mono ?_
                rintro e w4 ⟨rfl, rfl⟩
                go_wp2_with fail
                go_roundg (64 - (i + 1))
                case rel => exact ⟨i + 1, rfl, by omega, by go_num, BX5, BZ5, BC5, BN5, HG5⟩
                case measure => omega
          · obtain rfl : i = 64 := by omega
            have HBr := BN.out
            have HR2 := BZ.out
            have Hlen : Hid ((ints .i64 (rfK frN cs 64)).length = 64) := by show _ = _; rw [ints_length, rfK, mapK_length]
            have hone := ints_one (k := .i64) (l := rfK frN cs 64)
            obtain ⟨ys, hys⟩ : ∃ ys, ys = ints .i64 (rfK frN cs 64) := ⟨_, rfl⟩
            rw [← hys] at Hlen hone HBr
            have HX := veil hys
            generalize zeroB = x0 at *
            clear BX BZ BC BN hys HR HS
            go_wp2_with (first
              | (refine wpList_load_mid rfl 28 (.tmp 9) rfl W2.heap.size 0 rfl ys _ HBr.range Tryd.underlying28 rfl (info_blkn Hlen.out) ?_)
              | (refine wpList_store_blk wr rfl 28 (.tmp 4) (.tmp 87) rfl (w.heap.size + 1) x0 ys 28 HR2 rfl rfl (info_blkn Hlen.out) (by rw [Hlen.out, Hz.out]) hone ?_; intro w5 HB5 hg5)
              | fail)
            refine bodyPost_ret (v := .tuple #[.agg ys.toArray, .int .i64 0]) (results_row_tmp rfl _ _ (w.heap.size + 1) 28 ys.toArray (0, 0) _ _ rfl rfl HB5 Tryd.underlying28 rfl (by simp only [List.size_toArray]; exact info_blkn Hlen.out)) rfl ⟨by rw [HX.out], hbw.grown hg5 hbw.size (fun j hj => by injection hj with hj; omega)⟩
end Go.Proofs.YtgnpjejjnhdejaaDoor
