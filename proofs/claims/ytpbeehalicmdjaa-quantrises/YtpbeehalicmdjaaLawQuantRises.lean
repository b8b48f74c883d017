/- The law on numbers that grow, walked. -/
import Derived.Test.YtpbeehalicmdjaaQNum
import Derived.Test.YtpbeehalicmdjaaRest
import Derived.Test.YtpbeehalicmdjaaOpen
import Derived.StillTailTactics
import Derived.Deep.Cut
namespace Go.Proofs.Ytpbeehalicmdjaa
open Go.RowKit
set_option linter.unusedVariables false
set_option linter.unusedSimpArgs false

def fRise (ms : List Int) (i : Nat) (x : Int) : Int := if IntKind.i64.wrap (x + ms.getD i 0 % 100) < 40000 then IntKind.i64.wrap (x + ms.getD i 0 % 100) else 40000
def riseK (ms bs : List Int) (k : Nat) : List Int := overK (fRise ms) bs (min k 64)
theorem riseK_length (ms bs : List Int) (k : Nat) : (riseK ms bs k).length = 64 := overK_length _ _ _
theorem riseK_stay {ms bs : List Int} {k : Nat} (h : 64 ≤ k) : riseK ms bs (k + 1) = riseK ms bs k := by unfold riseK; congr 1; omega
theorem riseK_next {ms bs : List Int} {k : Nat} {x m R : Int} (hk : k < 64) (hx : bs[k]? = some x) (hm : ms[k]? = some m) (hR : R = if IntKind.i64.wrap (x + m % 100) < 40000 then IntKind.i64.wrap (x + m % 100) else 40000) :
    (ints .i64 (riseK ms bs k)).set k (.int .i64 R) = ints .i64 (riseK ms bs (k + 1)) := by
  have e1 : min k 64 = k := by omega
  have e2 : min (k + 1) 64 = k + 1 := by omega
  unfold riseK
  rw [e1, e2, overK_next hk hx]
  have : fRise ms k x = R := by rw [hR, fRise, show ms.getD k 0 = m by simp [List.getD_eq_getElem?_getD, hm]]
  rw [this]
  simp [ints, List.map_set]
/-- What Down makes of two blocks. -/
theorem rises_at {bs cs qs : List Int} (hb : bs.length = 64) (hc : cs.length = 64) (hq : qs.length = 64) (h1 : eBoth 40000 bs qs = 0) (h2 : eBoth 40000 cs qs = 0) (k : Nat) (hk : k < 64) :
    ∃ x y u v : Int, (ints .i64 bs)[k]? = some (.int .i64 x) ∧ (ints .i64 cs)[k]? = some (.int .i64 y) ∧ (ints .i64 (oDown bs qs))[k]? = some (.int .i64 u) ∧ (ints .i64 (oDown cs qs))[k]? = some (.int .i64 v) ∧ (x ≤ y → u ≤ v) := by
  obtain ⟨x, hx⟩ := some_at (xs := bs) (j := k) (by omega)
  obtain ⟨y, hy⟩ := some_at (xs := cs) (j := k) (by omega)
  obtain ⟨d, hd⟩ := some_at (xs := qs) (j := k) (by omega)
  have hd1 := inB_at (eBoth_ok h1).1 hd
  refine ⟨x, y, fDown qs k x, fDown qs k y, ints_at hx, ints_at hy, ints_at ?_, ints_at ?_, fun h => ?_⟩
  · rw [oDown_ok h1, mapL_at hk hx]
  · rw [oDown_ok h2, mapL_at hk hy]
  · rw [fDown_at hd, fDown_at hd]; exact clampZ_mono (rnd_mono (by omega) h) (by omega)
set_option maxHeartbeats 4000000 in
set_option maxRecDepth 100000 in
theorem quantRises_walk (bs qs : List Int) (A : Option Addr) (c : Nat) (ms : List Int) (w : World) (hb : bs.length = 64) (hq : qs.length = 64) (hs : Seen w w.heap.size A (ints .i64 ms)) (hmw : ∀ x ∈ ms, (Lit.int .i64 x).wf = true) (hml : ms.length ≤ maxLen) :
    Calls Try.prog 9 #[blkV bs, blkV qs, .slice A ms.length c] w fun e w' => e = .returned (.bool true) ∧ Below w.heap.size w w' := by
  obtain ⟨hb3, HB0, HB1, hz3⟩ := boxU_is (ints .i64 bs) (ints .i64 qs) w
  have Hlb : Hid ((ints .i64 bs).length = 64) := by show _ = _; rw [ints_length, hb]
  have Hlq : Hid ((ints .i64 qs).length = 64) := by show _ = _; rw [ints_length, hq]
  have hone0 := ints_one (k := .i64) (l := bs)
  have HK := veil (coarse_any (boxU (ints .i64 bs) (ints .i64 qs) w))
  have HD := veil (fun cs (h : cs.length = 64) W => down_any cs qs W h hq)
  have HF := veil (fun cs h1 h2 h3 => rises_at hb (cs := cs) h1 hq h2 h3)
  have HL := veil (fun cs => ints_length (k := .i64) (oDown cs qs) |>.trans (oDown_length cs qs))
  have Hx : Hid (∀ (k : Nat) (x : Int), bs[k]? = some x → (ints .i64 bs)[k]? = some (.int .i64 x)) := fun _ _ h => ints_at h
  have H0 : Hid (ints .i64 (riseK ms bs 0) = ints .i64 bs) := by show _ = _; rw [riseK, show min 0 64 = 0 from rfl, overK_zero hb]
  have HR : Hid (∀ (k : Nat) (m : Int), ms[k]? = some m → ∀ W, Calls Try.prog 22 #[.int .i64 m, .int .i64 100] W fun e w' => e = .returned (.int .i64 (m % 100)) ∧ w' = W) := fun k m hm W =>
    (rest_any m 100 W (by omega) (by omega) (bounds_i64 (hmw m (List.mem_of_getElem? hm)))).mono fun e w' h => ⟨h.1, h.2.symm⟩
  have hml2 : (ms.length : Int) ≤ 9223372036854775807 := by unfold maxLen at hml; omega
  clear hmw
  unfold blkV at *
  generalize hXS : ints .i64 bs = xs at *
  generalize ints .i64 qs = ys at *
  unfold boxU at *
  go_enter Try.func9, Try.ntmps9
  go_wp2_with fail
  refine HK.out.mono ?_
  rintro e w0 ⟨rfl, hb0⟩
  have hz0 := hb0.size
  rw [hz3] at hz0
  have B0 := HB0.below hb0 (by rw [hz3]; omega)
  have B1 := veil ((HB1.below hb0 (by rw [hz3]; omega)).below (below1 w0 (.cells xs.toArray 23)) (by omega))
  have B0' := veil (B0.below (below1 w0 (.cells xs.toArray 23)) (by omega))
  have B2 := veil (Blk.new w0 xs 23)
  have hbw := (hb3.trans (hb0.mono (by rw [hz3]; omega))).trans ((below1 w0 (.cells xs.toArray 23)).mono (show w.heap.size ≤ w0.heap.size by omega))
  have r0 := B0.range
  clear HB0 HB1 hb3 hz3 hb0 HK B0
  go_upto_region 4 with (first
    | (refine wpList_load_mid rfl 23 (.tmp 3) rfl w.heap.size 0 rfl xs _ r0 Try.underlying23 rfl (info_blkn Hlb.out) ?_)
    | (refine wpList_store_new w0 rfl 23 (.tmp 7) (.tmp 17) rfl zeroB.toArray xs rfl rfl (info_blkn Hlb.out) (by rw [Hlb.out]; rfl) hone0 ?_)
    | fail)
  go_wp2_with fail
  go_loopg [20] ms.length (fun gk i wr => ∃ k : Nat, gk = ms.length - k ∧ k ≤ ms.length ∧ i = .int .i64 (k : Int) ∧ Hid (Blk wr w.heap.size xs 23) ∧ Hid (Blk wr (w.heap.size + 1) ys 23) ∧ Hid (Blk wr w0.heap.size (ints .i64 (riseK ms bs k)) 23) ∧ Below w.heap.size w wr)
  case atStart => exact ⟨0, rfl, by omega, rfl, B0', B1, veil (by rw [H0.out]; exact B2.out), hbw⟩
  case round =>
    clear r0 B0' B1 B2 hbw H0
    obtain ⟨k, rfl, hk, rfl, D0, D1, D2, hbr⟩ := hrel
    by_cases hlt : k < ms.length
    · have hltz : (k : Int) < (ms.length : Int) := by omega
      obtain ⟨g, o, m, rfl, hg, hm, hcm⟩ := (hs.below hbr (Nat.le_refl _)).int hlt
      by_cases h64 : k < 64
      · have h64z : (k : Int) < 64 := by omega
        obtain ⟨x, hx⟩ := some_at (xs := bs) (j := k) (by omega)
        have hcx := D0.out.cell (Hx.out _ _ hx)
        obtain ⟨y, hy⟩ := some_at (xs := riseK ms bs k) (j := k) (by rw [riseK_length]; omega)
        have hcy := D2.out.cell (ints_at hy)
        have hfy := D2.out.frozen k
        have HRk := veil (HR.out k m hm wr.drew)
        have hset := fun R hR => riseK_next (R := R) h64 hx hm hR
        have Hset := veil hset
        clear hset HR HF HD HL hy
        generalize hS : IntKind.i64.wrap (x + m % 100) = T at *
        have hgr : ∀ R, wr.grownBy (wr.drew.setCell ⟨w0.heap.size, k, none⟩ (.int .i64 R)) (some w0.heap.size) := fun R =>
          World.grownBy.trans (drewN_grown wr 1 _) ⟨rfl, rfl, rfl, by simp [World.setCell], fun i _ hi => Below.heap_setCell _ _ _ _ (fun e => hi (by rw [e]))⟩
        by_cases hT : T < 40000
        · have D2' : Hid (Blk (wr.drew.setCell ⟨w0.heap.size, k, none⟩ (.int .i64 T)) w0.heap.size (ints .i64 (riseK ms bs (k + 1))) 23) := by
            have := (D2.out.drewN 1).set k (.int .i64 T)
            rw [Hset.out T (by rw [if_pos hT])] at this
            exact this
          have D0' := veil (D0.out.kept (hgr T) (by simp; omega))
          have D1' := veil (D1.out.kept (hgr T) (by simp; omega))
          have hbr' : Below w.heap.size w (wr.drew.setCell ⟨w0.heap.size, k, none⟩ (.int .i64 T)) := hbr.grown (hgr T) hbr.size (fun j hj => by injection hj with hj; omega)
          clear Hset D0 D1 D2 hgr hbr hx hm
          go_wp2_with fail
          go_still_tail 9, (by kernel_rfl)
          still_call HRk.out
          repeat still_step
          refine wpStill_nil ?_
          change wpList _ _ _ _ _ wr.drew
          have hcy' : wr.drew.cell? ⟨w0.heap.size, k, none⟩ = some (.int .i64 y) := hcy
          have hfy' : wr.drew.frozen? ⟨w0.heap.size, k, none⟩ = false := hfy
          go_wp2_with fail
          go_roundg (ms.length - (k + 1))
          case rel => exact ⟨k + 1, rfl, by omega, by go_num, D0', D1', D2', hbr'⟩
          case measure => omega
        · have D2' : Hid (Blk (wr.drew.setCell ⟨w0.heap.size, k, none⟩ (.int .i64 40000)) w0.heap.size (ints .i64 (riseK ms bs (k + 1))) 23) := by
            have := (D2.out.drewN 1).set k (.int .i64 40000)
            rw [Hset.out 40000 (by rw [if_neg hT])] at this
            exact this
          have D0' := veil (D0.out.kept (hgr 40000) (by simp; omega))
          have D1' := veil (D1.out.kept (hgr 40000) (by simp; omega))
          have hbr' : Below w.heap.size w (wr.drew.setCell ⟨w0.heap.size, k, none⟩ (.int .i64 40000)) := hbr.grown (hgr 40000) hbr.size (fun j hj => by injection hj with hj; omega)
          clear Hset D0 D1 D2 hgr hbr hx hm
          go_wp2_with fail
          go_still_tail 9, (by kernel_rfl)
          still_call HRk.out
          repeat still_step
          refine wpStill_nil ?_
          change wpList _ _ _ _ _ wr.drew
          have hcy' : wr.drew.cell? ⟨w0.heap.size, k, none⟩ = some (.int .i64 y) := hcy
          have hfy' : wr.drew.frozen? ⟨w0.heap.size, k, none⟩ = false := hfy
          go_wp2_with fail
          go_roundg (ms.length - (k + 1))
          case rel => exact ⟨k + 1, rfl, by omega, by go_num, D0', D1', D2', hbr'⟩
          case measure => omega
      · have h64z : ¬ (k : Int) < 64 := by omega
        have D2' : Hid (Blk wr w0.heap.size (ints .i64 (riseK ms bs (k + 1))) 23) := by rw [riseK_stay (by omega)]; exact D2
        clear D2 HR HF HD HL hm
        go_wp2_with fail
        go_roundg (ms.length - (k + 1))
        case rel => exact ⟨k + 1, rfl, by omega, by go_num, D0, D1, D2', hbr⟩
        case measure => omega
    · obtain rfl : k = ms.length := by omega
      clear Hx HR
      have hcl := riseK_length ms bs ms.length
      have r0 := D0.out.range
      have r1 := D1.out.range
      have hz1 := D2.out.lt
      have HD1 := veil (HD.out bs hb)
      have HD2 := veil (HD.out _ hcl)
      have Hl1 : Hid ((ints .i64 (oDown bs qs)).length = 64) := HL.out bs
      have Hl2 : Hid ((ints .i64 (oDown (riseK ms bs ms.length) qs)).length = 64) := HL.out _
      have Hlc : Hid ((ints .i64 (riseK ms bs ms.length)).length = 64) := by show _ = _; rw [ints_length, hcl]
      have hone1 := ints_one (k := .i64) (l := oDown bs qs)
      have hone2 := ints_one (k := .i64) (l := oDown (riseK ms bs ms.length) qs)
      have HF' := veil (HF.out _ hcl)
      clear HF HD HL hs
      rw [hXS] at HD1
      generalize eBoth 40000 (riseK ms bs ms.length) qs = E2 at *
      generalize eBoth 40000 bs qs = E1 at *
      generalize ints .i64 (oDown (riseK ms bs ms.length) qs) = fs at *
      generalize ints .i64 (riseK ms bs ms.length) = cs at *
      generalize ints .i64 (oDown bs qs) = ds at *
      clear hcl hXS
      rename World => W0
      go_wp2_with (first
        | (refine wpList_load_mid rfl 23 (.tmp 3) rfl w.heap.size 0 rfl xs _ r0 Try.underlying23 rfl (info_blkn Hlb.out) ?_)
        | (refine wpList_load_mid rfl 23 (.tmp 4) rfl (w.heap.size + 1) 0 rfl ys _ r1 Try.underlying23 rfl (info_blkn Hlq.out) ?_)
        | fail)
      refine (HD1.out _).mono ?_
      rintro e w1 ⟨rfl, hb1⟩
      have hz2 := hb1.size
      have C0 := (D0.out.below hb1 (by omega)).below (below1 w1 (.cells ds.toArray 23)) (by omega)
      have C1 := (D1.out.below hb1 (by omega)).below (below1 w1 (.cells ds.toArray 23)) (by omega)
      have C2 := (D2.out.below hb1 (by omega)).below (below1 w1 (.cells ds.toArray 23)) (by omega)
      have C3 := Blk.new w1 ds 23
      have r1' := C1.range
      have r2' := C2.range
      have hbw1 := (hbr.trans (hb1.mono hbr.size)).trans ((below1 w1 (.cells ds.toArray 23)).mono (show w.heap.size ≤ w1.heap.size by omega))
      have hzw : (w1.alloc (.cells ds.toArray 23)).heap.size = w1.heap.size + 1 := by simp
      clear r0 r1 D0 D1 D2 hb1 HD1 hbr C1
      go_wp2_with (first
        | (refine wpList_store_new w1 rfl 23 (.tmp 10) (.tmp 41) rfl zeroB.toArray ds rfl rfl (info_blkn Hl1.out) (by rw [Hl1.out]; rfl) hone1 ?_)
        | (refine wpList_load_mid rfl 23 (.tmp 7) rfl w0.heap.size 0 rfl cs _ r2' Try.underlying23 rfl (info_blkn Hlc.out) ?_)
        | (refine wpList_load_mid rfl 23 (.tmp 4) rfl (w.heap.size + 1) 0 rfl ys _ r1' Try.underlying23 rfl (info_blkn Hlq.out) ?_)
        | fail)
      refine (HD2.out _).mono ?_
      rintro e w2 ⟨rfl, hb2⟩
      have hz3 := hb2.size
      rw [hzw] at hz3
      have F0 := veil ((C0.below hb2 (by rw [hzw]; omega)).below (below1 w2 (.cells fs.toArray 23)) (by omega))
      have F2 := veil ((C2.below hb2 (by rw [hzw]; omega)).below (below1 w2 (.cells fs.toArray 23)) (by omega))
      have F3 := veil ((C3.below hb2 (by rw [hzw]; omega)).below (below1 w2 (.cells fs.toArray 23)) (by omega))
      have F4 := veil (Blk.new w2 fs 23)
      have hbw2 := (hbw1.trans (hb2.mono hbw1.size)).trans ((below1 w2 (.cells fs.toArray 23)).mono (show w.heap.size ≤ w2.heap.size by omega))
      clear r1' r2' C0 C2 C3 hb2 HD2 hbw1 hzw
      go_upto_region 12 with (first
        | (refine wpList_store_new w2 rfl 23 (.tmp 12) (.tmp 47) rfl zeroB.toArray fs rfl rfl (info_blkn Hl2.out) (by rw [Hl2.out]; rfl) hone2 ?_)
        | fail)
      by_cases hE1 : E1 = 0
      · subst hE1
        by_cases hE2 : E2 = 0
        · subst hE2
          have HG := veil (HF'.out rfl rfl)
          clear HF'
          go_wp2_with fail
          go_loopg [55] 64 (fun gk i wr => ∃ k : Nat, gk = 64 - k ∧ k ≤ 64 ∧ i = .int .i64 (k : Int) ∧ Hid (Blk wr w.heap.size xs 23) ∧ Hid (Blk wr w0.heap.size cs 23) ∧ Hid (Blk wr w1.heap.size ds 23) ∧ Hid (Blk wr w2.heap.size fs 23) ∧ Below w.heap.size w wr)
          case atStart => exact ⟨0, rfl, by omega, rfl, F0, F2, F3, F4, hbw2⟩
          case round =>
            clear F0 F2 F3 F4 hbw2
            obtain ⟨k, rfl, hk, rfl, G0, G1, G2, G3, hbr⟩ := hrel
            by_cases hlt : k < 64
            · have hltz : (k : Int) < 64 := by omega
              obtain ⟨x, y, u, v, h1, h2, h3, h4, hm⟩ := HG.out k hlt
              have hc0 := G0.out.cell h1
              have hc1 := G1.out.cell h2
              have hc2 := G2.out.cell h3
              have hc3 := G3.out.cell h4
              clear HG h1 h2 h3 h4
              by_cases hxy : x ≤ y
              · have huv := hm hxy
                have hd1 : decide (x ≤ y) = true := by simpa using hxy
                have hd2 : decide (v < u) = false := by simp; omega
                clear hm
                go_wp2_with fail
                go_quiet (fail)
                go_wp2_with fail
                go_roundg (64 - (k + 1))
                case rel => exact ⟨k + 1, rfl, by omega, by go_num, veil (G0.out.drewN _), veil (G1.out.drewN _), veil (G2.out.drewN _), veil (G3.out.drewN _), hbr.drewN _⟩
                case measure => omega
              · have hd1 : decide (x ≤ y) = false := by simpa using hxy
                clear hm
                go_wp2_with fail
                go_quiet (fail)
                go_wp2_with fail
                go_roundg (64 - (k + 1))
                case rel => exact ⟨k + 1, rfl, by omega, by go_num, veil (G0.out.drewN _), veil (G1.out.drewN _), veil (G2.out.drewN _), veil (G3.out.drewN _), hbr.drewN _⟩
                case measure => omega
            · obtain rfl : k = 64 := by omega
              go_wp2
              go_ret
              exact ⟨rfl, hbr⟩
        · have hne : (E2 != 0) = true := by simpa using hE2
          go_wp2
          go_ret
          exact ⟨rfl, hbw2⟩
      · have hne : (E1 != 0) = true := by simpa using hE1
        go_wp2
        go_ret
        exact ⟨rfl, hbw2⟩
end Go.Proofs.Ytpbeehalicmdjaa
