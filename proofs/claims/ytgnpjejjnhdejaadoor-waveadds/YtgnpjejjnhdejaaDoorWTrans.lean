/- wave.transform with each of the two functions that it is handed; wave.To and wave.From: their contracts. -/
import Derived.Test.YtgnpjejjnhdejaaDoorWAdd
import Derived.Test.YtgnpjejjnhdejaaDoorWRaw
import Derived.Deep.Cut
namespace Go.Proofs.YtgnpjejjnhdejaaDoor
open Go.RowKit
set_option linter.unusedVariables false
set_option linter.unusedSimpArgs false

/-- The three blocks of transform. -/
def boxF (xs : List Value) (w : World) : World := ((w.alloc (.cells xs.toArray 28)).alloc (.cells #[.func (.func 27) #[] #[]] 36)).alloc (.cells zeroB.toArray 28)
theorem boxF_is (xs : List Value) (w : World) : Below w.heap.size w (boxF xs w) ∧ Blk (boxF xs w) w.heap.size xs 28 ∧ (boxF xs w).cell? ⟨w.heap.size + 1, 0, none⟩ = some (.func (.func 27) #[] #[]) ∧ Blk (boxF xs w) (w.heap.size + 1 + 1) zeroB 28 ∧ (boxF xs w).heap.size = w.heap.size + 3 := by
  have e1 := World.size_alloc w (.cells xs.toArray 28)
  have e2 := World.size_alloc (w.alloc (.cells xs.toArray 28)) (.cells #[.func (.func 27) #[] #[]] 36)
  have h0 := Blk.new w xs 28
  have h1 := Blk.new (w.alloc (.cells xs.toArray 28)) [.func (.func 27) #[] #[]] 36
  have h2 := Blk.new ((w.alloc (.cells xs.toArray 28)).alloc (.cells #[.func (.func 27) #[] #[]] 36)) zeroB 28
  have b1 := below1 ((w.alloc (.cells xs.toArray 28)).alloc (.cells #[.func (.func 27) #[] #[]] 36)) (.cells zeroB.toArray 28)
  have b2 := below2 (w.alloc (.cells xs.toArray 28)) (.cells #[.func (.func 27) #[] #[]] 36) (.cells zeroB.toArray 28)
  refine ⟨below3 _ _ _ _, h0.below b2 (by omega), ?_, ?_, by simp [boxF]⟩
  · have := h1.below b1 (by omega)
    rw [e1] at this; exact this.cell rfl
  · rw [e2, e1] at h2; exact h2
theorem bad_cases (lo hi : Int) (cs : List Int) : badB lo hi cs = 0 ∨ badB lo hi cs = 1 := by unfold badB; split <;> simp
theorem bad_in {lo hi : Int} {cs : List Int} (h : badB lo hi cs = 0) : inB lo hi cs = true := by
  unfold badB at h
  by_cases e : inB lo hi cs = true
  · exact e
  · rw [if_neg e] at h; omega
set_option maxHeartbeats 4000000 in
set_option maxRecDepth 100000 in
theorem trTo_any (cs : List Int) (w : World) (hl : cs.length = 64) (Q : Quart w) :
    Calls Tryd.prog 26 #[blkV cs, .func (.func 27) #[] #[], .func (.func 25) #[] #[]] w fun e w' => e = .returned (.tuple #[blkV (oTo cs), .int .i64 (badB (-40000) 40000 cs)]) ∧ Below w.heap.size w w' := by
  obtain ⟨hb3, HB0, hcf, HB2, hz3⟩ := boxF_is (ints .i64 cs) w
  have Hl : Hid ((ints .i64 cs).length = 64) := by show _ = _; rw [ints_length, hl]
  have HC := veil (contains_any cs w.heap.size (w.heap.size + 1) 64 (boxF (ints .i64 cs) w) hl HB0 hcf)
  have Hz := veil zeroB_length
  have hzo := ints_one (k := .i64) (l := zero64)
  rw [zero_blk] at hzo
  have r0 := HB0.range
  rcases bad_cases (-40000) 40000 cs with hE | hE
  · have hin := bad_in hE
    have hsm : ∀ k, absZ (cs.getD k 0) ≤ 40000 := inB_getD (by omega) hin
    have hF : ∀ a b, -4096 ≤ (cW) a b ∧ (cW) a b ≤ 4096 := cW_abs
    have hsm1 := adL_small hF hsm
    have HA1 := veil (fun W hQ => addTo_any cs W hl (fun k => by have := hsm k; omega) hQ)
    have HA2 := veil (fun W hQ => addTo_any (adL (cW) cs) W (adL_length _ _) (fun k => by have := hsm1 k; omega) hQ)
    have HR : Hid (∀ (k : Nat) (x : Int) (W : World), (adL (cW) (adL (cW) cs))[k]? = some x → Calls Tryd.prog 34 #[.int .i64 x, .int .i64 67108864] W fun e w' => e = .returned (.int .i64 (rnd x 67108864)) ∧ ∃ q, w' = W.drewN q) := by
      intro k x W hx
      have hk : k < 64 := by have := (List.getElem?_eq_some_iff.1 hx).1; rwa [adL_length] at this
      rw [adL_at _ _ hk] at hx
      injection hx with hx
      subst hx
      have := adS_small hF (by omega) hsm1 k 8
      exact round_any _ _ W (by omega) (by omega) (by omega) (by omega)
    have HO : Hid (ints .i64 (oTo cs) = ints .i64 (rdK (adL (cW) (adL (cW) cs)) 64)) := by show _ = _; rw [oTo, if_pos hE, rdK_to]
    have Hl2 : Hid ((ints .i64 (adL (cW) (adL (cW) cs))).length = 64) := by show _ = _; rw [ints_length, adL_length]
    have hl2 : Hid ((adL (cW) (adL (cW) cs)).length = 64) := adL_length _ _
    have ho2 := ints_one (k := .i64) (l := adL (cW) (adL (cW) cs))
    have Hat : Hid (∀ (k : Nat) (x : Int), (adL (cW) (adL (cW) cs))[k]? = some x → (ints .i64 (adL (cW) (adL (cW) cs)))[k]? = some (.int .i64 x)) := fun _ _ h => ints_at h
    have Hr0 : Hid (ints .i64 (adL (cW) (adL (cW) cs)) = ints .i64 (rdK (adL (cW) (adL (cW) cs)) 0)) := by show _ = _; rw [rdK_zero (adL_length _ _)]
    rw [show decide (badB (-40000) 40000 cs = 1) = false by rw [hE]; rfl] at HC
    rw [hE]
    clear hE hin hsm hsm1 hF hcf
    unfold blkV at *
    rw [HO.out]; clear HO
    generalize adL (cW) (adL (cW) cs) = ss at *
    generalize ints .i64 (adL (cW) cs) = xs1 at *
    generalize ints .i64 ss = xs2 at *
    generalize ints .i64 cs = xs at *
    unfold boxF at *
    go_enter Tryd.func26, Tryd.ntmps26
    go_wp2_with fail
    refine HC.out.mono ?_
    rintro e w1 ⟨rfl, rfl⟩
    clear HC
    have HA1' := veil (HA1.out _ (Q.below hb3 Q.pos))
    clear HA1
    go_wp2_with (first
      | (refine wpList_load_mid rfl 28 (.tmp 3) rfl w.heap.size 0 rfl xs _ r0 Tryd.underlying28 rfl (info_blkn Hl.out) ?_)
      | fail)
    refine HA1'.out.mono ?_
    rintro e w2 ⟨rfl, hb2⟩
    have B2 := HB2.below hb2 (by rw [hz3]; omega)
    have hbw := hb3.trans (hb2.mono (by rw [hz3]; omega))
    have hz2 := hb2.size
    rw [hz3] at hz2
    have HA2' := veil (HA2.out w2 (Q.below hbw Q.pos))
    clear HA2 HA1' r0 HB0 HB2 hb3 hz3 hb2
    go_wp2_with fail
    refine HA2'.out.mono ?_
    rintro e w3 ⟨rfl, hb4⟩
    have B2' := B2.below hb4 (by omega)
    have hbw3 := hbw.trans (hb4.mono hbw.size)
    have hz4 := hb4.size
    clear HA2' B2 hbw hb4
    have HN := Blk.new w3 xs2 28
    have BZ := veil (B2'.below (below1 w3 (.cells xs2.toArray 28)) B2'.lt)
    have hbw5 := hbw3.trans ((below1 w3 (.cells xs2.toArray 28)).mono hbw3.size)
    have hzz : (w.heap.size + 1 + 1) ≠ w3.heap.size := by omega
    have hzw : w.heap.size ≤ w3.heap.size := by omega
    clear B2' hbw3 hz4 hz2
    go_upto_region 4 with (first
      | (refine wpList_store_new w3 rfl 28 (.tmp 8) (.tmp 19) rfl _ xs2 rfl rfl (info_blkn Hl2.out) (by rw [Hl2.out]; rfl) ho2 ?_)
      | fail)
    have rN := HN.range
    have HN' : Hid (Blk (w3.alloc (.cells xs2.toArray 28)) w3.heap.size (ints .i64 (rdK ss 0)) 28) := by rw [← Hr0.out]; exact HN
    clear HN Hr0
    go_wp2_with (first
      | (refine wpList_load_mid rfl 28 (.tmp 8) rfl w3.heap.size 0 rfl xs2 _ rN Tryd.underlying28 rfl (info_blkn Hl2.out) ?_)
      | fail)
    go_loopg [21] 64 (fun gk i wr => ∃ k : Nat, gk = 64 - k ∧ k ≤ 64 ∧ i = .int .i64 (k : Int) ∧ Hid (Blk wr w3.heap.size (ints .i64 (rdK ss k)) 28) ∧ Hid (Blk wr (w.heap.size + 1 + 1) zeroB 28) ∧ Below w.heap.size w wr)
    case atStart => exact ⟨0, rfl, by omega, rfl, HN', BZ, hbw5⟩
    case round =>
      clear HN' BZ hbw5 rN
      obtain ⟨k, rfl, hk, rfl, HB, HZ, hbw⟩ := hrel
      by_cases hlt : k < 64
      · have hltz : (k : Int) < 64 := by omega
        obtain ⟨x, hx⟩ := some_at (xs := ss) (j := k) (by rw [hl2.out]; omega)
        have hxs := Hat.out _ _ hx
        have HCk := veil (HR.out k x wr hx)
        obtain ⟨y, hy⟩ := some_at (xs := rdK ss k) (j := k) (by rw [rdK_length]; omega)
        have hcy := HB.out.cell (ints_at hy)
        have hfy := HB.out.frozen k
        have HB5 : Hid (∀ q, Blk ((wr.drewN q).setCell ⟨w3.heap.size, k, none⟩ (.int .i64 (rnd x 67108864))) w3.heap.size (ints .i64 (rdK ss (k + 1))) 28) := fun q => by
          have := (HB.out.drewN q).set k (.int .i64 (rnd x 67108864))
          rw [rdK_next hlt, show ss.getD k 0 = x by rw [List.getD_eq_getElem?_getD, hx]; rfl]
          rw [show (ints .i64 (rdK ss k)).set k (.int .i64 (rnd x 67108864)) = ints .i64 ((rdK ss k).set k (rnd x 67108864)) by simp [ints, List.map_set]] at this
          exact this
        have hgr : ∀ q, wr.grownBy ((wr.drewN q).setCell ⟨w3.heap.size, k, none⟩ (.int .i64 (rnd x 67108864))) (some w3.heap.size) := fun q =>
          (drewN_grown wr q _).trans ⟨rfl, rfl, rfl, by simp [World.setCell], fun i _ hi => Below.heap_setCell _ _ _ _ (fun e => hi (by rw [e]))⟩
        have HZ5 : Hid (∀ q, Blk ((wr.drewN q).setCell ⟨w3.heap.size, k, none⟩ (.int .i64 (rnd x 67108864))) (w.heap.size + 1 + 1) zeroB 28) := fun q => HZ.out.kept (hgr q) (fun e => hzz (by injection e))
        have HG5 : Hid (∀ q, Below w.heap.size w ((wr.drewN q).setCell ⟨w3.heap.size, k, none⟩ (.int .i64 (rnd x 67108864)))) := fun q => hbw.grown (hgr q) hbw.size (fun j hj => by injection hj with hj; omega)
        clear HB HZ hgr hx hy hbw HR
        generalize rnd x 67108864 = R at *
        go_wp2_with (first
          | (refine wpList_index_arr rfl 28 (.tmp 20) (.tmp 21) rfl 64 3 .i64 Tryd.underlying28 Tryd.underlying3 (by kernel_rfl) xs2 rfl .i64 k rfl (.int .i64 x) hlt hxs ?_)
          | fail)
        refine HCk.out.mono ?_
        rintro e w1 ⟨rfl, q, rfl⟩
        have hcy' : (wr.drewN q).cell? ⟨w3.heap.size, k, none⟩ = some (.int .i64 y) := hcy
        have hfy' : (wr.drewN q).frozen? ⟨w3.heap.size, k, none⟩ = false := hfy
        have HB6 := veil (HB5.out q)
        have HZ6 := veil (HZ5.out q)
        have HG6 := HG5.out q
        clear HB5 HZ5 HG5 HCk hcy hfy
        go_wp2_with fail
        go_roundg (64 - (k + 1))
        case rel => exact ⟨k + 1, rfl, by omega, by go_num, HB6, HZ6, HG6⟩
        case measure => omega
      · obtain rfl : k = 64 := by omega
        have HBr := HB.out
        have HR := HZ.out
        have Hlen : Hid ((ints .i64 (rdK ss 64)).length = 64) := by show _ = _; rw [ints_length, rdK_length]
        have hone := ints_one (k := .i64) (l := rdK ss 64)
        obtain ⟨ys, hys⟩ : ∃ ys, ys = ints .i64 (rdK ss 64) := ⟨_, rfl⟩
        rw [← hys] at Hlen hone HBr
        have HX := veil hys
        generalize zeroB = x0 at *
        clear HB HZ hys
        go_wp2_with (first
          | (refine wpList_load_mid rfl 28 (.tmp 8) rfl w3.heap.size 0 rfl ys _ HBr.range Tryd.underlying28 rfl (info_blkn Hlen.out) ?_)
          | (refine wpList_store_blk wr rfl 28 (.tmp 6) (.tmp 30) rfl (w.heap.size + 1 + 1) x0 ys 28 HR rfl rfl (info_blkn Hlen.out) (by rw [Hlen.out, Hz.out]) hone ?_; intro w5 HB5 hg5)
          | fail)
        refine bodyPost_ret (v := .tuple #[.agg ys.toArray, .int .i64 0]) (results_row_tmp rfl _ _ (w.heap.size + 1 + 1) 28 ys.toArray (0, 0) _ _ rfl rfl HB5 Tryd.underlying28 rfl (by simp only [List.size_toArray]; exact info_blkn Hlen.out)) rfl ⟨by rw [HX.out], hbw.grown hg5 hbw.size (fun j hj => by injection hj with hj; omega)⟩
  · have HO : Hid (ints .i64 (oTo cs) = zeroB) := by show _ = _; rw [oTo, if_neg (by omega)]; rfl
    rw [show decide (badB (-40000) 40000 cs = 1) = true by rw [hE]; rfl] at HC
    rw [hE]
    clear hE hcf Q
    unfold blkV at *
    rw [HO.out]; clear HO
    generalize ints .i64 cs = xs at *
    unfold boxF at *
    go_enter Tryd.func26, Tryd.ntmps26
    go_wp2_with fail
    refine HC.out.mono ?_
    rintro e w1 ⟨rfl, rfl⟩
    clear HC r0 HB0
    go_wp2_with (first
      | (refine wpList_store_blk _ rfl 28 (.tmp 6) (.tmp 14) rfl (w.heap.size + 1 + 1) zeroB zeroB 28 HB2 rfl rfl (info_blkn Hz.out) rfl hzo ?_; intro w5 HB5 hg5)
      | fail)
    refine bodyPost_ret (v := .tuple #[.agg zeroB.toArray, .int .i64 1]) (results_row_tmp rfl _ _ (w.heap.size + 1 + 1) 28 zeroB.toArray (0, 0) _ _ rfl rfl HB5 Tryd.underlying28 rfl (by simp only [List.size_toArray]; exact info_blkn Hz.out)) rfl ⟨rfl, hb3.grown hg5 hb3.size (fun j hj => by injection hj with hj; omega)⟩
set_option maxHeartbeats 4000000 in
set_option maxRecDepth 100000 in
theorem to_any (cs : List Int) (w : World) (hl : cs.length = 64) (Q : Quart w) :
    Calls Tryd.prog 17 #[blkV cs] w fun e w' => e = .returned (.tuple #[blkV (oTo cs), .int .i64 (badB (-40000) 40000 cs)]) ∧ Below w.heap.size w w' := by
  have hb2 := below2 w (.cells (ints .i64 cs).toArray 28) (.cells zeroB.toArray 28)
  have B0 := (Blk.new w (ints .i64 cs) 28).below (below1 _ (.cells zeroB.toArray 28)) (by simp)
  have B1 := Blk.new (w.alloc (.cells (ints .i64 cs).toArray 28)) zeroB 28
  have hz : ((w.alloc (.cells (ints .i64 cs).toArray 28)).alloc (.cells zeroB.toArray 28)).heap.size = w.heap.size + 1 + 1 := by simp
  have Hl : Hid ((ints .i64 cs).length = 64) := by show _ = _; rw [ints_length, hl]
  have HC := veil (fun W hQ => trTo_any cs W hl hQ)
  have Hl2 : Hid ((ints .i64 (oTo cs)).length = 64) := by show _ = _; rw [ints_length, oTo_length]
  have ho2 := ints_one (k := .i64) (l := oTo cs)
  have Hz := veil zeroB_length
  generalize badB (-40000) 40000 cs = E at *
  unfold blkV at *
  generalize ints .i64 (oTo cs) = ys at *
  generalize ints .i64 cs = xs at *
  rw [show (w.alloc (.cells xs.toArray 28)).heap.size = w.heap.size + 1 by simp] at B1
  have r0 := B0.range
  have HC' := veil (HC.out _ (Q.below hb2 Q.pos))
  clear HC
  go_enter Tryd.func17, Tryd.ntmps17
  go_wp2_with (first
    | (refine wpList_load_mid rfl 28 (.tmp 1) rfl w.heap.size 0 rfl xs _ r0 Tryd.underlying28 rfl (info_blkn Hl.out) ?_)
    | fail)
  refine HC'.out.mono ?_
  rintro e w1 ⟨rfl, hb1⟩
  have B1' := B1.below hb1 (by rw [hz]; omega)
  have hbw := hb2.trans (hb1.mono (by rw [hz]; omega))
  clear r0 B0 B1 HC' hb2 hb1 hz
  generalize zeroB = x0 at *
  go_wp2_with (first
    | (refine wpList_store_blk w1 rfl 28 (.tmp 2) (.tmp 6) rfl (w.heap.size + 1) x0 ys 28 B1' rfl rfl (info_blkn Hl2.out) (by rw [Hl2.out, Hz.out]) ho2 ?_; intro w5 HB5 hg5)
    | fail)
  refine bodyPost_ret (v := .tuple #[.agg ys.toArray, .int .i64 E]) (results_row_tmp rfl _ _ (w.heap.size + 1) 28 ys.toArray (0, 0) _ _ rfl rfl HB5 Tryd.underlying28 rfl (by simp only [List.size_toArray]; exact info_blkn Hl2.out)) rfl ⟨rfl, hbw.grown hg5 hbw.size (fun j hj => by injection hj with hj; omega)⟩
set_option maxHeartbeats 4000000 in
set_option maxRecDepth 100000 in
theorem trFr_any (cs : List Int) (w : World) (hl : cs.length = 64) (Q : Quart w) :
    Calls Tryd.prog 26 #[blkV cs, .func (.func 27) #[] #[], .func (.func 30) #[] #[]] w fun e w' => e = .returned (.tuple #[blkV (oFr cs), .int .i64 (badB (-40000) 40000 cs)]) ∧ Below w.heap.size w w' := by
  obtain ⟨hb3, HB0, hcf, HB2, hz3⟩ := boxF_is (ints .i64 cs) w
  have Hl : Hid ((ints .i64 cs).length = 64) := by show _ = _; rw [ints_length, hl]
  have HC := veil (contains_any cs w.heap.size (w.heap.size + 1) 64 (boxF (ints .i64 cs) w) hl HB0 hcf)
  have Hz := veil zeroB_length
  have hzo := ints_one (k := .i64) (l := zero64)
  rw [zero_blk] at hzo
  have r0 := HB0.range
  rcases bad_cases (-40000) 40000 cs with hE | hE
  · have hin := bad_in hE
    have hsm : ∀ k, absZ (cs.getD k 0) ≤ 40000 := inB_getD (by omega) hin
    have hF : ∀ a b, -4096 ≤ (fun a b => cW b a) a b ∧ (fun a b => cW b a) a b ≤ 4096 := fun a b => cW_abs b a
    have hsm1 := adL_small hF hsm
    have HA1 := veil (fun W hQ => addFr_any cs W hl (fun k => by have := hsm k; omega) hQ)
    have HA2 := veil (fun W hQ => addFr_any (adL (fun a b => cW b a) cs) W (adL_length _ _) (fun k => by have := hsm1 k; omega) hQ)
    have HR : Hid (∀ (k : Nat) (x : Int) (W : World), (adL (fun a b => cW b a) (adL (fun a b => cW b a) cs))[k]? = some x → Calls Tryd.prog 34 #[.int .i64 x, .int .i64 67108864] W fun e w' => e = .returned (.int .i64 (rnd x 67108864)) ∧ ∃ q, w' = W.drewN q) := by
      intro k x W hx
      have hk : k < 64 := by have := (List.getElem?_eq_some_iff.1 hx).1; rwa [adL_length] at this
      rw [adL_at _ _ hk] at hx
      injection hx with hx
      subst hx
      have := adS_small hF (by omega) hsm1 k 8
      exact round_any _ _ W (by omega) (by omega) (by omega) (by omega)
    have HO : Hid (ints .i64 (oFr cs) = ints .i64 (rdK (adL (fun a b => cW b a) (adL (fun a b => cW b a) cs)) 64)) := by show _ = _; rw [oFr, if_pos hE, rdK_fr]
    have Hl2 : Hid ((ints .i64 (adL (fun a b => cW b a) (adL (fun a b => cW b a) cs))).length = 64) := by show _ = _; rw [ints_length, adL_length]
    have hl2 : Hid ((adL (fun a b => cW b a) (adL (fun a b => cW b a) cs)).length = 64) := adL_length _ _
    have ho2 := ints_one (k := .i64) (l := adL (fun a b => cW b a) (adL (fun a b => cW b a) cs))
    have Hat : Hid (∀ (k : Nat) (x : Int), (adL (fun a b => cW b a) (adL (fun a b => cW b a) cs))[k]? = some x → (ints .i64 (adL (fun a b => cW b a) (adL (fun a b => cW b a) cs)))[k]? = some (.int .i64 x)) := fun _ _ h => ints_at h
    have Hr0 : Hid (ints .i64 (adL (fun a b => cW b a) (adL (fun a b => cW b a) cs)) = ints .i64 (rdK (adL (fun a b => cW b a) (adL (fun a b => cW b a) cs)) 0)) := by show _ = _; rw [rdK_zero (adL_length _ _)]
    rw [show decide (badB (-40000) 40000 cs = 1) = false by rw [hE]; rfl] at HC
    rw [hE]
    clear hE hin hsm hsm1 hF hcf
    unfold blkV at *
    rw [HO.out]; clear HO
    generalize adL (fun a b => cW b a) (adL (fun a b => cW b a) cs) = ss at *
    generalize ints .i64 (adL (fun a b => cW b a) cs) = xs1 at *
    generalize ints .i64 ss = xs2 at *
    generalize ints .i64 cs = xs at *
    unfold boxF at *
    go_enter Tryd.func26, Tryd.ntmps26
    go_wp2_with fail
    refine HC.out.mono ?_
    rintro e w1 ⟨rfl, rfl⟩
    clear HC
    have HA1' := veil (HA1.out _ (Q.below hb3 Q.pos))
    clear HA1
    go_wp2_with (first
      | (refine wpList_load_mid rfl 28 (.tmp 3) rfl w.heap.size 0 rfl xs _ r0 Tryd.underlying28 rfl (info_blkn Hl.out) ?_)
      | fail)
    refine HA1'.out.mono ?_
    rintro e w2 ⟨rfl, hb2⟩
    have B2 := HB2.below hb2 (by rw [hz3]; omega)
    have hbw := hb3.trans (hb2.mono (by rw [hz3]; omega))
    have hz2 := hb2.size
    rw [hz3] at hz2
    have HA2' := veil (HA2.out w2 (Q.below hbw Q.pos))
    clear HA2 HA1' r0 HB0 HB2 hb3 hz3 hb2
    go_wp2_with fail
    refine HA2'.out.mono ?_
    rintro e w3 ⟨rfl, hb4⟩
    have B2' := B2.below hb4 (by omega)
    have hbw3 := hbw.trans (hb4.mono hbw.size)
    have hz4 := hb4.size
    clear HA2' B2 hbw hb4
    have HN := Blk.new w3 xs2 28
    have BZ := veil (B2'.below (below1 w3 (.cells xs2.toArray 28)) B2'.lt)
    have hbw5 := hbw3.trans ((below1 w3 (.cells xs2.toArray 28)).mono hbw3.size)
    have hzz : (w.heap.size + 1 + 1) ≠ w3.heap.size := by omega
    have hzw : w.heap.size ≤ w3.heap.size := by omega
    clear B2' hbw3 hz4 hz2
    go_upto_region 4 with (first
      | (refine wpList_store_new w3 rfl 28 (.tmp 8) (.tmp 19) rfl _ xs2 rfl rfl (info_blkn Hl2.out) (by rw [Hl2.out]; rfl) ho2 ?_)
      | fail)
    have rN := HN.range
    have HN' : Hid (Blk (w3.alloc (.cells xs2.toArray 28)) w3.heap.size (ints .i64 (rdK ss 0)) 28) := by rw [← Hr0.out]; exact HN
    clear HN Hr0
    go_wp2_with (first
      | (refine wpList_load_mid rfl 28 (.tmp 8) rfl w3.heap.size 0 rfl xs2 _ rN Tryd.underlying28 rfl (info_blkn Hl2.out) ?_)
      | fail)
    go_loopg [21] 64 (fun gk i wr => ∃ k : Nat, gk = 64 - k ∧ k ≤ 64 ∧ i = .int .i64 (k : Int) ∧ Hid (Blk wr w3.heap.size (ints .i64 (rdK ss k)) 28) ∧ Hid (Blk wr (w.heap.size + 1 + 1) zeroB 28) ∧ Below w.heap.size w wr)
    case atStart => exact ⟨0, rfl, by omega, rfl, HN', BZ, hbw5⟩
    case round =>
      clear HN' BZ hbw5 rN
      obtain ⟨k, rfl, hk, rfl, HB, HZ, hbw⟩ := hrel
      by_cases hlt : k < 64
      · have hltz : (k : Int) < 64 := by omega
        obtain ⟨x, hx⟩ := some_at (xs := ss) (j := k) (by rw [hl2.out]; omega)
        have hxs := Hat.out _ _ hx
        have HCk := veil (HR.out k x wr hx)
        obtain ⟨y, hy⟩ := some_at (xs := rdK ss k) (j := k) (by rw [rdK_length]; omega)
        have hcy := HB.out.cell (ints_at hy)
        have hfy := HB.out.frozen k
        have HB5 : Hid (∀ q, Blk ((wr.drewN q).setCell ⟨w3.heap.size, k, none⟩ (.int .i64 (rnd x 67108864))) w3.heap.size (ints .i64 (rdK ss (k + 1))) 28) := fun q => by
          have := (HB.out.drewN q).set k (.int .i64 (rnd x 67108864))
          rw [rdK_next hlt, show ss.getD k 0 = x by rw [List.getD_eq_getElem?_getD, hx]; rfl]
          rw [show (ints .i64 (rdK ss k)).set k (.int .i64 (rnd x 67108864)) = ints .i64 ((rdK ss k).set k (rnd x 67108864)) by simp [ints, List.map_set]] at this
          exact this
        have hgr : ∀ q, wr.grownBy ((wr.drewN q).setCell ⟨w3.heap.size, k, none⟩ (.int .i64 (rnd x 67108864))) (some w3.heap.size) := fun q =>
          (drewN_grown wr q _).trans ⟨rfl, rfl, rfl, by simp [World.setCell], fun i _ hi => Below.heap_setCell _ _ _ _ (fun e => hi (by rw [e]))⟩
        have HZ5 : Hid (∀ q, Blk ((wr.drewN q).setCell ⟨w3.heap.size, k, none⟩ (.int .i64 (rnd x 67108864))) (w.heap.size + 1 + 1) zeroB 28) := fun q => HZ.out.kept (hgr q) (fun e => hzz (by injection e))
        have HG5 : Hid (∀ q, Below w.heap.size w ((wr.drewN q).setCell ⟨w3.heap.size, k, none⟩ (.int .i64 (rnd x 67108864)))) := fun q => hbw.grown (hgr q) hbw.size (fun j hj => by injection hj with hj; omega)
        clear HB HZ hgr hx hy hbw HR
        generalize rnd x 67108864 = R at *
        go_wp2_with (first
          | (refine wpList_index_arr rfl 28 (.tmp 20) (.tmp 21) rfl 64 3 .i64 Tryd.underlying28 Tryd.underlying3 (by kernel_rfl) xs2 rfl .i64 k rfl (.int .i64 x) hlt hxs ?_)
          | fail)
        refine HCk.out.mono ?_
        rintro e w1 ⟨rfl, q, rfl⟩
        have hcy' : (wr.drewN q).cell? ⟨w3.heap.size, k, none⟩ = some (.int .i64 y) := hcy
        have hfy' : (wr.drewN q).frozen? ⟨w3.heap.size, k, none⟩ = false := hfy
        have HB6 := veil (HB5.out q)
        have HZ6 := veil (HZ5.out q)
        have HG6 := HG5.out q
        clear HB5 HZ5 HG5 HCk hcy hfy
        go_wp2_with fail
        go_roundg (64 - (k + 1))
        case rel => exact ⟨k + 1, rfl, by omega, by go_num, HB6, HZ6, HG6⟩
        case measure => omega
      · obtain rfl : k = 64 := by omega
        have HBr := HB.out
        have HR := HZ.out
        have Hlen : Hid ((ints .i64 (rdK ss 64)).length = 64) := by show _ = _; rw [ints_length, rdK_length]
        have hone := ints_one (k := .i64) (l := rdK ss 64)
        obtain ⟨ys, hys⟩ : ∃ ys, ys = ints .i64 (rdK ss 64) := ⟨_, rfl⟩
        rw [← hys] at Hlen hone HBr
        have HX := veil hys
        generalize zeroB = x0 at *
        clear HB HZ hys
        go_wp2_with (first
          | (refine wpList_load_mid rfl 28 (.tmp 8) rfl w3.heap.size 0 rfl ys _ HBr.range Tryd.underlying28 rfl (info_blkn Hlen.out) ?_)
          | (refine wpList_store_blk wr rfl 28 (.tmp 6) (.tmp 30) rfl (w.heap.size + 1 + 1) x0 ys 28 HR rfl rfl (info_blkn Hlen.out) (by rw [Hlen.out, Hz.out]) hone ?_; intro w5 HB5 hg5)
          | fail)
        refine bodyPost_ret (v := .tuple #[.agg ys.toArray, .int .i64 0]) (results_row_tmp rfl _ _ (w.heap.size + 1 + 1) 28 ys.toArray (0, 0) _ _ rfl rfl HB5 Tryd.underlying28 rfl (by simp only [List.size_toArray]; exact info_blkn Hlen.out)) rfl ⟨by rw [HX.out], hbw.grown hg5 hbw.size (fun j hj => by injection hj with hj; omega)⟩
  · have HO : Hid (ints .i64 (oFr cs) = zeroB) := by show _ = _; rw [oFr, if_neg (by omega)]; rfl
    rw [show decide (badB (-40000) 40000 cs = 1) = true by rw [hE]; rfl] at HC
    rw [hE]
    clear hE hcf Q
    unfold blkV at *
    rw [HO.out]; clear HO
    generalize ints .i64 cs = xs at *
    unfold boxF at *
    go_enter Tryd.func26, Tryd.ntmps26
    go_wp2_with fail
    refine HC.out.mono ?_
    rintro e w1 ⟨rfl, rfl⟩
    clear HC r0 HB0
    go_wp2_with (first
      | (refine wpList_store_blk _ rfl 28 (.tmp 6) (.tmp 14) rfl (w.heap.size + 1 + 1) zeroB zeroB 28 HB2 rfl rfl (info_blkn Hz.out) rfl hzo ?_; intro w5 HB5 hg5)
      | fail)
    refine bodyPost_ret (v := .tuple #[.agg zeroB.toArray, .int .i64 1]) (results_row_tmp rfl _ _ (w.heap.size + 1 + 1) 28 zeroB.toArray (0, 0) _ _ rfl rfl HB5 Tryd.underlying28 rfl (by simp only [List.size_toArray]; exact info_blkn Hz.out)) rfl ⟨rfl, hb3.grown hg5 hb3.size (fun j hj => by injection hj with hj; omega)⟩
set_option maxHeartbeats 4000000 in
set_option maxRecDepth 100000 in
theorem from_any (cs : List Int) (w : World) (hl : cs.length = 64) (Q : Quart w) :
    Calls Tryd.prog 19 #[blkV cs] w fun e w' => e = .returned (.tuple #[blkV (oFr cs), .int .i64 (badB (-40000) 40000 cs)]) ∧ Below w.heap.size w w' := by
  have hb2 := below2 w (.cells (ints .i64 cs).toArray 28) (.cells zeroB.toArray 28)
  have B0 := (Blk.new w (ints .i64 cs) 28).below (below1 _ (.cells zeroB.toArray 28)) (by simp)
  have B1 := Blk.new (w.alloc (.cells (ints .i64 cs).toArray 28)) zeroB 28
  have hz : ((w.alloc (.cells (ints .i64 cs).toArray 28)).alloc (.cells zeroB.toArray 28)).heap.size = w.heap.size + 1 + 1 := by simp
  have Hl : Hid ((ints .i64 cs).length = 64) := by show _ = _; rw [ints_length, hl]
  have HC := veil (fun W hQ => trFr_any cs W hl hQ)
  have Hl2 : Hid ((ints .i64 (oFr cs)).length = 64) := by show _ = _; rw [ints_length, oFr_length]
  have ho2 := ints_one (k := .i64) (l := oFr cs)
  have Hz := veil zeroB_length
  generalize badB (-40000) 40000 cs = E at *
  unfold blkV at *
  generalize ints .i64 (oFr cs) = ys at *
  generalize ints .i64 cs = xs at *
  rw [show (w.alloc (.cells xs.toArray 28)).heap.size = w.heap.size + 1 by simp] at B1
  have r0 := B0.range
  have HC' := veil (HC.out _ (Q.below hb2 Q.pos))
  clear HC
  go_enter Tryd.func19, Tryd.ntmps19
  go_wp2_with (first
    | (refine wpList_load_mid rfl 28 (.tmp 1) rfl w.heap.size 0 rfl xs _ r0 Tryd.underlying28 rfl (info_blkn Hl.out) ?_)
    | fail)
  refine HC'.out.mono ?_
  rintro e w1 ⟨rfl, hb1⟩
  have B1' := B1.below hb1 (by rw [hz]; omega)
  have hbw := hb2.trans (hb1.mono (by rw [hz]; omega))
  clear r0 B0 B1 HC' hb2 hb1 hz
  generalize zeroB = x0 at *
  go_wp2_with (first
    | (refine wpList_store_blk w1 rfl 28 (.tmp 2) (.tmp 6) rfl (w.heap.size + 1) x0 ys 28 B1' rfl rfl (info_blkn Hl2.out) (by rw [Hl2.out, Hz.out]) ho2 ?_; intro w5 HB5 hg5)
    | fail)
  refine bodyPost_ret (v := .tuple #[.agg ys.toArray, .int .i64 E]) (results_row_tmp rfl _ _ (w.heap.size + 1) 28 ys.toArray (0, 0) _ _ rfl rfl HB5 Tryd.underlying28 rfl (by simp only [List.size_toArray]; exact info_blkn Hl2.out)) rfl ⟨rfl, hbw.grown hg5 hbw.size (fun j hj => by injection hj with hj; omega)⟩
end Go.Proofs.YtgnpjejjnhdejaaDoor
