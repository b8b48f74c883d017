/- The law WaveAdds, walked: of two added it is both added, but for one. -/
import Derived.Test.YtgnpjejjnhdejaaDoorWLaw
import Derived.Deep.RegionWith
namespace Go.Proofs.YtgnpjejjnhdejaaDoor
open Go.RowKit
set_option linter.unusedVariables false
set_option linter.unusedSimpArgs false

def fTen (_ : Nat) (x : Int) : Int := x % 20001 - 10000
theorem ten_in (n : Nat) (x : Int) : -10000 ≤ fTen n x ∧ fTen n x ≤ 10000 := by unfold fTen; omega
theorem ten_bad {bs : List Int} (hb : bs.length = 64) : badB (-40000) 40000 (mapL fTen bs) = 0 := by
  unfold badB
  rw [if_pos]
  rw [getD_mem (mapL_length _ _)]
  intro k hk
  obtain ⟨x, hx⟩ := some_at (xs := bs) (j := k) (by omega)
  rw [List.getD_eq_getElem?_getD, mapL_at hk hx]
  show -40000 ≤ fTen k x ∧ fTen k x ≤ 40000
  have := ten_in k x; omega
/-- Both added. -/
def fBoth (bs : List Int) (i : Nat) (x : Int) : Int := fTen i x + fTen i (bs.getD i 0)
theorem both_getD {cs bs : List Int} (ha : cs.length = 64) (hb : bs.length = 64) {k : Nat} (hk : k < 64) : (mapL (fBoth bs) cs).getD k 0 = (mapL fTen cs).getD k 0 + (mapL fTen bs).getD k 0 := by
  obtain ⟨x, hx⟩ := some_at (xs := cs) (j := k) (by omega)
  obtain ⟨y, hy⟩ := some_at (xs := bs) (j := k) (by omega)
  rw [List.getD_eq_getElem?_getD, mapL_at hk hx, List.getD_eq_getElem?_getD, mapL_at hk hx, List.getD_eq_getElem?_getD, mapL_at hk hy]
  show fBoth bs k x = fTen k x + fTen k y
  unfold fBoth
  rw [List.getD_eq_getElem?_getD, hy]; rfl
theorem both_bad {cs bs : List Int} (ha : cs.length = 64) (hb : bs.length = 64) : badB (-40000) 40000 (mapL (fBoth bs) cs) = 0 := by
  unfold badB
  rw [if_pos]
  rw [getD_mem (mapL_length _ _)]
  intro k hk
  obtain ⟨x, hx⟩ := some_at (xs := cs) (j := k) (by omega)
  rw [List.getD_eq_getElem?_getD, mapL_at hk hx]
  show -40000 ≤ fBoth bs k x ∧ fBoth bs k x ≤ 40000
  unfold fBoth
  have := ten_in k x
  have := ten_in k (bs.getD k 0)
  omega
theorem adds_at {cs bs : List Int} (ha : cs.length = 64) (hb : bs.length = 64) (k : Nat) (hk : k < 64) : ∃ x y z : Int, (ints .i64 (oTo (mapL fTen cs)))[k]? = some (.int .i64 x) ∧ (ints .i64 (oTo (mapL fTen bs)))[k]? = some (.int .i64 y) ∧ (ints .i64 (oTo (mapL (fBoth bs) cs)))[k]? = some (.int .i64 z) ∧ IntKind.i64.wrap (z - x) = z - x ∧ (IntKind.i64.wrap (z - x - y) = -1 ∨ IntKind.i64.wrap (z - x - y) = 0 ∨ IntKind.i64.wrap (z - x - y) = 1) := by
  have s1 := vTo_small (mapL fTen cs) k
  have s2 := vTo_small (mapL fTen bs) k
  have s3 := vTo_small (mapL (fBoth bs) cs) k
  refine ⟨_, _, _, ints_at (oTo_at _ hk), ints_at (oTo_at _ hk), ints_at (oTo_at _ hk), wrapK (by omega) (by omega), ?_⟩
  rw [wrapK (by omega) (by omega)]
  have h : -1 ≤ vTo (mapL (fBoth bs) cs) k - vTo (mapL fTen cs) k - vTo (mapL fTen bs) k ∧ vTo (mapL (fBoth bs) cs) k - vTo (mapL fTen cs) k - vTo (mapL fTen bs) k ≤ 1 := by
    unfold vTo
    rw [if_pos (both_bad ha hb), if_pos (ten_bad ha), if_pos (ten_bad hb), toN_add (fun k hk => both_getD ha hb hk)]
    exact rnd_adds (by omega)
  omega
/-- Two blocks boxed. -/
def boxV (xs ys : List Value) (w : World) : World := (w.alloc (.cells xs.toArray 28)).alloc (.cells ys.toArray 28)
theorem boxV_is (xs ys : List Value) (w : World) : Below w.heap.size w (boxV xs ys w) ∧ Blk (boxV xs ys w) w.heap.size xs 28 ∧ Blk (boxV xs ys w) (w.heap.size + 1) ys 28 := by
  have h0 := (Blk.new w xs 28).below (below1 _ (.cells ys.toArray 28)) (by simp)
  have h1 := Blk.new (w.alloc (.cells xs.toArray 28)) ys 28
  rw [show (w.alloc (.cells xs.toArray 28)).heap.size = w.heap.size + 1 by simp] at h1
  exact ⟨below2 _ _ _, h0, h1⟩
theorem set_grown (W : World) (b k : Nat) (v : Value) : W.grownBy (W.setCell ⟨b, k, none⟩ v) (some b) :=
  ⟨rfl, rfl, rfl, by simp [World.setCell], fun i _ hi => Below.heap_setCell _ _ _ _ (fun e => hi (by rw [e]))⟩
set_option maxHeartbeats 4000000 in
set_option maxRecDepth 100000 in
theorem waveAdds_walk (cs bs : List Int) (w : World) (Q : Quart w) (ha : cs.length = 64) (hwa : ∀ x ∈ cs, -9223372036854775808 ≤ x ∧ x ≤ 9223372036854775807) (hb : bs.length = 64) (hwb : ∀ x ∈ bs, -9223372036854775808 ≤ x ∧ x ≤ 9223372036854775807) :
    Calls Tryd.prog 12 #[blkV cs, blkV bs] w fun e w' => e = .returned (.bool true) ∧ Below w.heap.size w w' := by
  have hn0 := Nat.le_refl w.heap.size
  obtain ⟨hb0, HB0, HB1⟩ := boxV_is (ints .i64 cs) (ints .i64 bs) w
  have La : Hid ((ints .i64 (mapL fTen cs)).length = 64) := by show _ = _; rw [ints_length, mapL_length]
  have Lb : Hid ((ints .i64 (mapL fTen bs)).length = 64) := by show _ = _; rw [ints_length, mapL_length]
  have Lc : Hid ((ints .i64 (mapL (fBoth bs) cs)).length = 64) := by show _ = _; rw [ints_length, mapL_length]
  have L1 : Hid ((ints .i64 (oTo (mapL fTen cs))).length = 64) := by show _ = _; rw [ints_length, oTo_length]
  have L2 : Hid ((ints .i64 (oTo (mapL fTen bs))).length = 64) := by show _ = _; rw [ints_length, oTo_length]
  have L3 : Hid ((ints .i64 (oTo (mapL (fBoth bs) cs))).length = 64) := by show _ = _; rw [ints_length, oTo_length]
  have O1 := ints_one (k := .i64) (l := oTo (mapL fTen cs))
  have O2 := ints_one (k := .i64) (l := oTo (mapL fTen bs))
  have O3 := ints_one (k := .i64) (l := oTo (mapL (fBoth bs) cs))
  have HK := veil (waved_any (boxV (ints .i64 cs) (ints .i64 bs) w) (Q.after hb0))
  have C1 := veil (fun W hQ => to_any (mapL fTen cs) W (mapL_length _ _) hQ)
  have C2 := veil (fun W hQ => to_any (mapL fTen bs) W (mapL_length _ _) hQ)
  have C3 := veil (fun W hQ => to_any (mapL (fBoth bs) cs) W (mapL_length _ _) hQ)
  rw [ten_bad ha] at C1
  rw [ten_bad hb] at C2
  rw [both_bad ha hb] at C3
  have HF := veil (adds_at ha hb)
  have Hs : Hid (∀ k : Nat, k < 64 → ∃ x y z p q : Int, (ints .i64 (overK fTen cs k))[k]? = some (.int .i64 x) ∧ (ints .i64 (overK fTen bs k))[k]? = some (.int .i64 y) ∧ (ints .i64 (mapK (fBoth bs) cs k))[k]? = some (.int .i64 z) ∧
      (∀ W, Calls Tryd.prog 21 #[.int .i64 x, .int .i64 20001] W fun e w' => e = .returned (.int .i64 p) ∧ w' = W) ∧ (∀ W, Calls Tryd.prog 21 #[.int .i64 y, .int .i64 20001] W fun e w' => e = .returned (.int .i64 q) ∧ w' = W) ∧
      (0 ≤ p ∧ p < 20001) ∧ (0 ≤ q ∧ q < 20001) ∧ (ints .i64 (overK fTen cs k)).set k (.int .i64 (p - 10000)) = ints .i64 (overK fTen cs (k + 1)) ∧ (ints .i64 (overK fTen bs k)).set k (.int .i64 (q - 10000)) = ints .i64 (overK fTen bs (k + 1)) ∧ (ints .i64 (mapK (fBoth bs) cs k)).set k (.int .i64 (p - 10000 + (q - 10000))) = ints .i64 (mapK (fBoth bs) cs (k + 1))) := by
    intro k hk
    obtain ⟨x, hx⟩ := some_at (xs := cs) (j := k) (by omega)
    obtain ⟨y, hy⟩ := some_at (xs := bs) (j := k) (by omega)
    obtain ⟨z, hz⟩ := some_at (xs := mapK (fBoth bs) cs k) (j := k) (by rw [mapK_length]; omega)
    refine ⟨x, y, z, x % 20001, y % 20001, ints_at (overK_at hk hx), ints_at (overK_at hk hy), ints_at hz, fun W => (rest_any x 20001 W (by omega) (by omega) (hwa x (List.mem_of_getElem? hx))).mono fun e w' h => ⟨h.1, h.2.symm⟩, fun W => (rest_any y 20001 W (by omega) (by omega) (hwb y (List.mem_of_getElem? hy))).mono fun e w' h => ⟨h.1, h.2.symm⟩, by omega, by omega, ?_, ?_, ?_⟩
    · rw [overK_next hk hx]; simp [ints, List.map_set, fTen]
    · rw [overK_next hk hy]; simp [ints, List.map_set, fTen]
    · rw [mapK_next hk hx, fBoth, show bs.getD k 0 = y by rw [List.getD_eq_getElem?_getD, hy]; rfl]; simp [ints, List.map_set, fTen]
  have HB0' : Hid (Blk (boxV (ints .i64 cs) (ints .i64 bs) w) w.heap.size (ints .i64 (overK fTen cs 0)) 28) := by rw [overK_zero ha]; exact HB0
  have HB1' : Hid (Blk (boxV (ints .i64 cs) (ints .i64 bs) w) (w.heap.size + 1) (ints .i64 (overK fTen bs 0)) 28) := by rw [overK_zero hb]; exact HB1
  have H0 : Hid (ints .i64 (mapK (fBoth bs) cs 0) = zeroB) := by show _ = _; rw [mapK_zero]; rfl
  have Ha : Hid (ints .i64 (mapL fTen cs) = ints .i64 (overK fTen cs 64)) := by show _ = _; rw [overK_all]
  have Hb : Hid (ints .i64 (mapL fTen bs) = ints .i64 (overK fTen bs 64)) := by show _ = _; rw [overK_all]
  have Hc : Hid (ints .i64 (mapL (fBoth bs) cs) = ints .i64 (mapK (fBoth bs) cs 64)) := by show _ = _; rfl
  clear hwa hwb HB0 HB1
  unfold blkV at *
  generalize ints .i64 (oTo (mapL fTen cs)) = m1 at *
  generalize ints .i64 (oTo (mapL fTen bs)) = m2 at *
  generalize ints .i64 (oTo (mapL (fBoth bs) cs)) = m3 at *
  rw [Ha.out] at C1 La
  rw [Hb.out] at C2 Lb
  rw [Hc.out] at C3 Lc
  clear Ha Hb Hc
  generalize ints .i64 cs = xs at *
  generalize ints .i64 bs = ys at *
  unfold boxV at *
  go_enter Tryd.func12, Tryd.ntmps12
  go_wp2_with fail
  refine HK.out.mono ?_
  rintro e w0 ⟨rfl, hb1⟩
  have B0 := veil (HB0'.out.step hb1 (.cells zeroB.toArray 28))
  have B1 := veil (HB1'.out.step hb1 (.cells zeroB.toArray 28))
  have B2 : Hid (Blk (w0.alloc (.cells zeroB.toArray 28)) w0.heap.size (ints .i64 (mapK (fBoth bs) cs 0)) 28) := by rw [H0.out]; exact Blk.new w0 zeroB 28
  have hbw := below_step hb0 hn0 hb1 (.cells zeroB.toArray 28)
  have hne : w.heap.size + 1 < w0.heap.size := (HB1'.out.below hb1 HB1'.out.lt).lt
  clear HB0' HB1' hb0 hb1 HK H0
  go_wp2_with fail
  go_loopg [17] 64 (fun gk i wr => ∃ k : Nat, gk = 64 - k ∧ k ≤ 64 ∧ i = .int .i64 (k : Int) ∧ Hid (Blk wr w.heap.size (ints .i64 (overK fTen cs k)) 28) ∧ Hid (Blk wr (w.heap.size + 1) (ints .i64 (overK fTen bs k)) 28) ∧ Hid (Blk wr w0.heap.size (ints .i64 (mapK (fBoth bs) cs k)) 28) ∧ Below w.heap.size w wr)
  case atStart => exact ⟨0, rfl, by omega, rfl, B0, B1, B2, hbw⟩
  case round =>
    clear B0 B1 B2 hbw
    obtain ⟨k, rfl, hk, rfl, D0, D1, D2, hbr⟩ := hrel
    by_cases hlt : k < 64
    · have hltz : (k : Int) < 64 := by omega
      obtain ⟨x, y, z, p, q, hx, hy, hz, HR1, HR2, ⟨hp1, hp2⟩, ⟨hq1, hq2⟩, e1, e2, e3⟩ := Hs.out k hlt
      have HR1' := veil HR1
      have HR2' := veil HR2
      -- the world behind each store
      have D0d : Blk wr.drew w.heap.size (ints .i64 (overK fTen cs k)) 28 := D0.out.drewN 1
      have D1d : Blk wr.drew (w.heap.size + 1) (ints .i64 (overK fTen bs k)) 28 := D1.out.drewN 1
      have D2d : Blk wr.drew w0.heap.size (ints .i64 (mapK (fBoth bs) cs k)) 28 := D2.out.drewN 1
      have g1 := set_grown wr.drew w.heap.size k (.int .i64 (p - 10000))
      have S0 := D0d.set k (.int .i64 (p - 10000))
      rw [e1] at S0
      have S1 := D1d.kept g1 (by simp)
      have S2 := D2d.kept g1 (by simp; omega)
      have g2 := set_grown (wr.drew.setCell ⟨w.heap.size, k, none⟩ (.int .i64 (p - 10000))) (w.heap.size + 1) k (.int .i64 (q - 10000))
      have T0 := S0.kept g2 (by simp)
      have T1 := S1.set k (.int .i64 (q - 10000))
      rw [e2] at T1
      have T2 := S2.kept g2 (by simp; omega)
      have U0 := T0.drewN 1
      have U1 := T1.drewN 1
      have U2 := T2.drewN 1
      have g3 := set_grown ((wr.drew.setCell ⟨w.heap.size, k, none⟩ (.int .i64 (p - 10000))).setCell ⟨w.heap.size + 1, k, none⟩ (.int .i64 (q - 10000))).drew w0.heap.size k (.int .i64 (p - 10000 + (q - 10000)))
      have V0 := veil (U0.kept g3 (by simp; omega))
      have V1 := veil (U1.kept g3 (by simp; omega))
      have V2 := U2.set k (.int .i64 (p - 10000 + (q - 10000)))
      rw [e3] at V2
      have V2' := veil V2
      have b1 := (hbr.drew).grown g1 hbr.size (fun j hj => by injection hj with hj; omega)
      have b2 := b1.grown g2 b1.size (fun j hj => by injection hj with hj; omega)
      have b3 := (b2.drew).grown g3 b2.size (fun j hj => by injection hj with hj; omega)
      have c0 : wr.drew.cell? ⟨w.heap.size, k, none⟩ = some (.int .i64 x) := D0d.cell hx
      have f0 : wr.drew.frozen? ⟨w.heap.size, k, none⟩ = false := D0d.frozen k
      have c1 : wr.drew.cell? ⟨w.heap.size + 1, k, none⟩ = some (.int .i64 y) := D1d.cell hy
      have c2 : (wr.setCell ⟨w.heap.size, k, none⟩ (.int .i64 (p - 10000))).drew.cell? ⟨w.heap.size + 1, k, none⟩ = some (.int .i64 y) := S1.cell hy
      have f2 : (wr.setCell ⟨w.heap.size, k, none⟩ (.int .i64 (p - 10000))).drew.frozen? ⟨w.heap.size + 1, k, none⟩ = false := S1.frozen k
      have hpp : (ints .i64 (overK fTen cs (k + 1)))[k]? = some (.int .i64 (p - 10000)) := by rw [← e1]; exact List.getElem?_set_self (by rw [ints_length, overK_length]; omega)
      have hqq : (ints .i64 (overK fTen bs (k + 1)))[k]? = some (.int .i64 (q - 10000)) := by rw [← e2]; exact List.getElem?_set_self (by rw [ints_length, overK_length]; omega)
      have c3 : (((wr.setCell ⟨w.heap.size, k, none⟩ (.int .i64 (p - 10000))).setCell ⟨w.heap.size + 1, k, none⟩ (.int .i64 (q - 10000))).drew.drew).cell? ⟨w.heap.size, k, none⟩ = some (.int .i64 (p - 10000)) := U0.cell hpp
      have c4 : (((wr.setCell ⟨w.heap.size, k, none⟩ (.int .i64 (p - 10000))).setCell ⟨w.heap.size + 1, k, none⟩ (.int .i64 (q - 10000))).drew.drew).cell? ⟨w.heap.size + 1, k, none⟩ = some (.int .i64 (q - 10000)) := U1.cell hqq
      have c5 : (((wr.setCell ⟨w.heap.size, k, none⟩ (.int .i64 (p - 10000))).setCell ⟨w.heap.size + 1, k, none⟩ (.int .i64 (q - 10000))).drew.drew).cell? ⟨w0.heap.size, k, none⟩ = some (.int .i64 z) := U2.cell hz
      have f5 : (((wr.setCell ⟨w.heap.size, k, none⟩ (.int .i64 (p - 10000))).setCell ⟨w.heap.size + 1, k, none⟩ (.int .i64 (q - 10000))).drew.drew).frozen? ⟨w0.heap.size, k, none⟩ = false := U2.frozen k
      have wp1 : IntKind.i64.wrap (p - 10000) = p - 10000 := wrapK (by omega) (by omega)
      have wq1 : IntKind.i64.wrap (q - 10000) = q - 10000 := wrapK (by omega) (by omega)
      have wpq : IntKind.i64.wrap (p - 10000 + (q - 10000)) = p - 10000 + (q - 10000) := wrapK (by omega) (by omega)
      clear D0 D1 D2 D0d D1d D2d S0 S1 S2 T0 T1 T2 U0 U1 U2 V2 g1 g2 g3 hbr b1 b2 hx hy hz e1 e2 e3 hpp hqq HF C1 C2 C3 Hs HR1 HR2
      go_wp2_with fail
      go_region_with (first
        | (go_at_call_of 21 x; refine (HR1'.out _).mono ?_; rintro e w5 ⟨rfl, rfl⟩)
        | (go_at_call_of 21 y; refine (HR2'.out _).mono ?_; rintro e w5 ⟨rfl, rfl⟩)
        | fail)
      all_goals
        go_wp2_with fail
        obtain ⟨WX, hWX⟩ : ∃ WX, WX = ((wr.setCell ⟨w.heap.size, k, none⟩ (.int .i64 (p - 10000))).setCell ⟨w.heap.size + 1, k, none⟩ (.int .i64 (q - 10000))).drew := ⟨_, rfl⟩
        rw [← hWX] at c3 c4 c5 f5
        rw [← hWX]
        have HX := veil hWX
        clear hWX c0 f0 c1 c2 f2
        have e3 : WX.cell? ⟨w.heap.size, k, none⟩ = some (.int .i64 (p - 10000)) := c3
        have e4 : WX.cell? ⟨w.heap.size + 1, k, none⟩ = some (.int .i64 (q - 10000)) := c4
        go_still_tail 9, (by kernel_rfl)
        repeat still_step
        change wpList _ _ _ _ _ WX.drew
        go_wp2_with fail
        go_roundg (64 - (k + 1))
        case rel =>
          have e := HX.out
          subst e
          exact ⟨k + 1, rfl, by omega, by go_num, V0, V1, V2', b3⟩
        case measure => omega
    · obtain rfl : k = 64 := by omega
      clear Hs
      generalize ints .i64 (overK fTen cs 64) = as1 at *
      generalize ints .i64 (overK fTen bs 64) = bs1 at *
      generalize ints .i64 (mapK (fBoth bs) cs 64) = cs1 at *
      have r0 := D0.out.range
      rename World => W0
      have C1' := veil (C1.out W0 (Q.after hbr))
      go_wp2_with (first
        | (refine wpList_load_mid rfl 28 (.tmp 2) rfl (w.heap.size) 0 rfl as1 _ r0 Tryd.underlying28 rfl (info_blkn La.out) ?_)
        | fail)
      refine C1'.out.mono ?_
      rintro e w1 ⟨rfl, hb1⟩
      have E1 := D1.out.step hb1 (.cells m1.toArray 28)
      have E2 := D2.out.step hb1 (.cells m1.toArray 28)
      have E3 := Blk.new w1 m1 28
      have hbs := below_step hbr hn0 hb1 (.cells m1.toArray 28)
      have C2' := veil (C2.out _ (Q.after hbs))
      have r1 := E1.range
      clear r0 D0 D1 D2 hbr hb1 C1 C1' C2
      go_upto_region 11 with (first
        | (refine wpList_store_new w1 rfl 28 (.tmp 7) (.tmp 47) rfl _ m1 rfl rfl (info_blkn L1.out) (by rw [L1.out]; rfl) O1 ?_)
        | fail)
      go_wp2_with (first
        | (refine wpList_load_mid rfl 28 (.tmp 3) rfl (w.heap.size + 1) 0 rfl bs1 _ r1 Tryd.underlying28 rfl (info_blkn Lb.out) ?_)
        | fail)
      refine C2'.out.mono ?_
      rintro e w2 ⟨rfl, hb2⟩
      have F2 := E2.step hb2 (.cells m2.toArray 28)
      have F3 := E3.step hb2 (.cells m2.toArray 28)
      have F4 := Blk.new w2 m2 28
      have hbt := below_step hbs hn0 hb2 (.cells m2.toArray 28)
      have C3' := veil (C3.out _ (Q.after hbt))
      have r2 := F2.range
      clear r1 E1 E2 E3 hbs hb2 C2' C3
      go_upto_region 12 with (first
        | (refine wpList_store_new w2 rfl 28 (.tmp 9) (.tmp 52) rfl _ m2 rfl rfl (info_blkn L2.out) (by rw [L2.out]; rfl) O2 ?_)
        | fail)
      go_wp2_with (first
        | (refine wpList_load_mid rfl 28 (.tmp 5) rfl (w0.heap.size) 0 rfl cs1 _ r2 Tryd.underlying28 rfl (info_blkn Lc.out) ?_)
        | fail)
      refine C3'.out.mono ?_
      rintro e w3 ⟨rfl, hb3⟩
      have K3 := veil (F3.step hb3 (.cells m3.toArray 28))
      have K4 := veil (F4.step hb3 (.cells m3.toArray 28))
      have K5 := veil (Blk.new w3 m3 28)
      have hbv := below_step hbt hn0 hb3 (.cells m3.toArray 28)
      clear r2 F2 F3 F4 hbt hb3 C3'
      go_upto_region 13 with (first
        | (refine wpList_store_new w3 rfl 28 (.tmp 11) (.tmp 57) rfl _ m3 rfl rfl (info_blkn L3.out) (by rw [L3.out]; rfl) O3 ?_)
        | fail)
      go_wp2_with fail
      go_loopg [69] 64 (fun gk i wr => ∃ k : Nat, gk = 64 - k ∧ k ≤ 64 ∧ i = .int .i64 (k : Int) ∧ Hid (Blk wr w1.heap.size m1 28) ∧ Hid (Blk wr w2.heap.size m2 28) ∧ Hid (Blk wr w3.heap.size m3 28) ∧ Below w.heap.size w wr)
      case atStart => exact ⟨0, rfl, by omega, rfl, K3, K4, K5, hbv⟩
      case round =>
        clear K3 K4 K5 hbv
        obtain ⟨k, rfl, hk, rfl, G1, G2, G3, hbr⟩ := hrel
        by_cases hlt : k < 64
        · have hltz : (k : Int) < 64 := by omega
          obtain ⟨x, y, z, h1, h2, h3, hw1, hcase⟩ := HF.out k hlt
          have hc1 := G1.out.cell h1
          have hc2 := G2.out.cell h2
          have hc3 := G3.out.cell h3
          clear HF h1 h2 h3
          rcases hcase with hw2 | hw2 | hw2
          all_goals
            go_wp2_with fail
            go_quiet (fail)
            go_wp2_with fail
            go_roundg (64 - (k + 1))
            case rel => exact ⟨k + 1, rfl, by omega, by go_num, veil (G1.out.drewN _), veil (G2.out.drewN _), veil (G3.out.drewN _), hbr.drewN _⟩
            case measure => omega
        · obtain rfl : k = 64 := by omega
          go_wp2
          go_ret
          exact ⟨rfl, hbr⟩
end Go.Proofs.YtgnpjejjnhdejaaDoor
