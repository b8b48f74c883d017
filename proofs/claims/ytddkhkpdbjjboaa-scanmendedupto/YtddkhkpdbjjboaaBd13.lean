/- Texts shared by the claims of this seat, in one. -/
import Derived.Test.YtddkhkpdbjjboaaBd12
import Derived.Test.YtddkhkpdbjjboaaBd4
import Derived.StillTailTactics
import Derived.Test.YtddkhkpdbjjboaaBd1
import Derived.RangeFuncNested
import Derived.RangeFuncBound
import Derived.RangeFuncCalls
import Derived.RangeFuncLeaves
import Derived.RangeFuncBox
import Derived.Shelf.Abstract
import Derived.Shelf.RegionOpen
import Derived.WalkKit
import Derived.OwnWalkIn
import Derived.TacticsInMore
import Derived.LoopNIn
import Derived.LoopIn
import Derived.Test.YtddkhkpdbjjboaaRows
import Derived.Lib.AppendZerosOnto
/- The reference's FrameCounts: its contract, for whatever lengths parts cuts. -/
namespace Go.Proofs.Ytddkhkpdbjjboaa
open Go.RowKit
set_option linter.unusedVariables false
set_option linter.unusedSimpArgs false
set_option maxRecDepth 100000

theorem cnt_formF {w : World} {B : Nat} {v1 v2 : Value} {X Y : List Int} (h : Owns B [intRow 3 .i64 v1 X, intRow 3 .i64 v2 Y] w) : ∃ A1 c1 A2 c2, v1 = .slice A1 X.length c1 ∧ v2 = .slice A2 Y.length c2 ∧ Seen w w.heap.size A1 (ints .i64 X) ∧ Seen w w.heap.size A2 (ints .i64 Y) := by
  obtain ⟨A1, c1, e1, h1, _, _⟩ := h.seen (List.mem_cons_self ..)
  obtain ⟨A2, c2, e2, h2, _, _⟩ := h.seen (List.mem_cons_of_mem _ (List.mem_cons_self ..))
  exact ⟨A1, c1, A2, c2, e1, e2, h1, h2⟩
set_option maxRecDepth 100000 in
set_option maxHeartbeats 8000000 in
theorem frCounts_any (ps : List Nat) (every : Int) (L : List (List Int)) (A : Option Addr) (c G : Nat) (w : World) (hl : ∀ r ∈ L, r.length = 64) (hcap : L.length ≤ c) (hm : L.length ≤ maxLen) (hin : ∀ r ∈ L, inB (-2047) 2047 r = true) (hs : Seen w G A (rowsC L)) (hG : G ≤ w.heap.size)
    (h400 : ∀ n ∈ ps, n ≤ 400) (hsum : ∀ k, (ps.take k).sum ≤ L.length) (hpl : ps.length ≤ 100000000000)
    (HP : ∀ W, Calls Try.prog 25 #[.int .i64 L.length, .int .i64 every] W fun e w' => ∃ v, e = .returned v ∧ Owns W.heap.size [intRow 3 .i64 v (ps.map Int.ofNat)] w' ∧ Below W.heap.size W w') :
    Calls Try.prog 30 #[.slice A L.length c, .int .i64 every] w fun e w' => ∃ v1 v2, e = .returned (.tuple #[v1, v2]) ∧ Owns w.heap.size [intRow 3 .i64 v1 (fcL true ps L ps.length), intRow 3 .i64 v2 (fcL false ps L ps.length)] w' ∧ Below w.heap.size w w' := by
  have hmk := run_make256
  have HPp := veil HP
  have Hs := veil hs
  clear hs HP
  go_enter Try.func30, Try.ntmps30
  go_upto_region 1 with fail
  go_cut [6, 7] (fun v4 v5 wx => ∃ p1 p2 : Nat, v4 = .slice (some ⟨p1, 0, none⟩) 256 256 ∧ v5 = .slice (some ⟨p2, 0, none⟩) 256 256 ∧ Blk wx p1 zero256 3 ∧ Blk wx p2 zero256 3 ∧ p1 ≠ p2 ∧ w.heap.size ≤ p1 ∧ w.heap.size ≤ p2 ∧ Below w.heap.size w wx)
  case first =>
    go_region
    all_goals (go_wp2; go_meet)
    all_goals refine ⟨_, _, rfl, rfl, (by first | exact two0 _ _ _ _ | exact two1 _ _ _ _), (by first | exact two0 _ _ _ _ | exact two1 _ _ _ _), by omega, by omega, by omega, (below2 w _ _).drew⟩
  case rest =>
    obtain ⟨p1, p2, rfl, rfl, hp1, hp2, n1, l1, l2, hb⟩ := hcut
    have HP1 := veil hp1; have HP2 := veil hp2; have HbC := veil hb
    have hlp1 := hp1.lt; have hlp2 := hp2.lt
    clear hmk hp1 hp2 hb
    go_wp2_with fail
    refine (HPp.out wc).mono ?_
    rintro e w1 ⟨v, rfl, HO1, hb1⟩
    obtain ⟨Ap, cp, hv, hsp, _, _⟩ := HO1.seen (List.mem_cons_self ..)
    have hz1 := hb1.size
    have hvv : v = .slice Ap ps.length cp := by
      have h9 : v = .slice Ap (ps.map Int.ofNat).length cp := hv
      rw [List.length_map] at h9; exact h9
    subst v
    have hpB : Hid (Below wc.heap.size wc w1) := hb1
    have HQ1 := veil (HP1.out.below hb1 hlp1); have HQ2 := veil (HP2.out.below hb1 hlp2); have HbD := veil (HbC.out.trans (hb1.mono HbC.out.size))
    have HO1' := veil HO1
    clear HP1 HP2 HbC hb1 hv HO1 HPp hpB
    go_wp2_with fail
    go_loopg [0, 20] ps.length (fun gk lv iv wr => ∃ (k : Nat) (A' : Option Addr) (c' : Nat) (M : List (List Int)), gk = ps.length - k ∧ k ≤ ps.length ∧ lv = .slice A' M.length c' ∧ iv = .int .i64 (k : Int) ∧ M.length ≤ c' ∧ Hid (M = L.drop (ps.take k).sum) ∧ Hid (Seen w G A' (rowsC M)) ∧ Hid (Blk wr p1 (ints .i64 (fcL true ps L k)) 3) ∧ Hid (Blk wr p2 (ints .i64 (fcL false ps L k)) 3) ∧ Hid (Owns wc.heap.size [intRow 3 .i64 (.slice Ap ps.length cp) (ps.map Int.ofNat)] wr) ∧ Hid (Below w.heap.size w wr))
    case atStart => exact ⟨0, A, c, L, rfl, Nat.zero_le _, rfl, rfl, hcap, veil (by simp), Hs, HQ1, HQ2, HO1', HbD⟩
    case round =>
      clear HQ1 HQ2 HO1' HbD
      obtain ⟨k, A', c', M, rfl, hk, rfl, rfl, hMc, HM, HsM, HQ1, HQ2, HO, Hbe⟩ := hrel
      obtain ⟨W1, hW1⟩ : ∃ W1, W1 = wr := ⟨_, rfl⟩
      subst hW1
      have hzr := Hbe.out.size
      have hzo := HO.out.base
      by_cases hlt : k < ps.length
      · have hltz : (k : Int) < (ps.length : Int) := by omega
        obtain ⟨Ap2, cp2, hv2, hsp2, _, _⟩ := HO.out.seen (List.mem_cons_self ..)
        obtain ⟨rfl, rfl⟩ : Ap = Ap2 ∧ cp = cp2 := by
          have h9 : Value.slice Ap ps.length cp = .slice Ap2 (ps.map Int.ofNat).length cp2 := hv2
          simp at h9; exact h9
        obtain ⟨gp, op, x, rfl, hgp, hx, hcell⟩ := hsp2.int (k := k) (by simp; omega)
        obtain ⟨n, hn, rfl⟩ : ∃ n : Nat, ps[k]? = some n ∧ x = (n : Int) := by
          rw [List.getElem?_map] at hx
          cases hq : ps[k]? with
          | none => rw [hq] at hx; cases hx
          | some n => rw [hq] at hx; simp at hx; exact ⟨n, rfl, hx.symm⟩
        have hn400 := h400 n (List.mem_of_getElem? hn)
        have hsk := hsum (k + 1)
        have hst : (ps.take (k + 1)).sum = (ps.take k).sum + n := by rw [fc_snoc hn]; simp
        have hMl : M.length = L.length - (ps.take k).sum := by rw [HM.out, List.length_drop]
        have hnM : n ≤ M.length := by omega
        have hlM : ∀ r ∈ M, r.length = 64 := fun r hr => hl r (by rw [HM.out] at hr; exact List.mem_of_mem_drop hr)
        have hinM : ∀ r ∈ M, inB (-2047) 2047 r = true := fun r hr => hin r (by rw [HM.out] at hr; exact List.mem_of_mem_drop hr)
        obtain ⟨A2, hA2, hsA2⟩ := cutR_drop hlM HsM.out hnM hMc
        have hct := fun u => run_cutR_to A' M.length c' n (by omega) u
        have hce := fun u => run_cutR_end A' M.length c' n hnM u
        rw [hA2] at hce
        have hMd : M.drop n = L.drop (ps.take (k + 1)).sum := by rw [HM.out, List.drop_drop, hst]
        have hMt : M.take n = piece ps L k := by
          unfold piece
          rw [HM.out, List.getD_eq_getElem?_getD, hn]; rfl
        have htl : (M.take n).length = n := by rw [List.length_take]; omega
        have hC := refCounts_any (M.take n) A' c' G W1 (fun r hr => hlM r (List.mem_of_mem_take hr)) (by omega) (fun r hr => hinM r (List.mem_of_mem_take hr)) (cutR_take (HsM.out.below Hbe.out hG)) (by omega)
        rw [htl, hMt] at hC
        have hin1 := fcL_in true ps L (fun M => toksB_len M 0) h400 k
        have hin2 := fcL_in false ps L (fun M => toksB_len M 0) h400 k
        have hfl1 := fcL_length true ps L k
        have hfl2 := fcL_length false ps L k
        have htl1 := tally_length true (toksB 0 (piece ps L k))
        have htl2 := tally_length false (toksB 0 (piece ps L k))
        have hpk : (toksB 0 (piece ps L k)).length ≤ 25600 := by
          have h5 := toksB_len (piece ps L k) 0
          rw [← hMt, htl] at h5
          rw [← hMt]; omega
        have hit1 := tally_in true (toksB 0 (piece ps L k))
        have hit2 := tally_in false (toksB 0 (piece ps L k))
        have hnx1 : fcL true ps L (k + 1) = addL (fcL true ps L k) (tally true (toksB 0 (piece ps L k))) := rfl
        have hnx2 : fcL false ps L (k + 1) = addL (fcL false ps L k) (tally false (toksB 0 (piece ps L k))) := rfl
        obtain ⟨F1, hF1⟩ : ∃ F, F = fcL true ps L k := ⟨_, rfl⟩
        obtain ⟨F2, hF2⟩ : ∃ F, F = fcL false ps L k := ⟨_, rfl⟩
        obtain ⟨T1, hT1⟩ : ∃ T, T = tally true (toksB 0 (piece ps L k)) := ⟨_, rfl⟩
        obtain ⟨T2, hT2⟩ : ∃ T, T = tally false (toksB 0 (piece ps L k)) := ⟨_, rfl⟩
        rw [← hF1] at HQ1 hin1 hfl1 hnx1
        rw [← hF2] at HQ2 hin2 hfl2 hnx2
        rw [← hT1] at hC htl1 hit1 hnx1
        rw [← hT2] at hC htl2 hit2 hnx2
        have HC := veil hC; have Hin1 := veil hin1; have Hin2 := veil hin2; have Hfl1 := veil hfl1; have Hfl2 := veil hfl2; have Htl1 := veil htl1; have Htl2 := veil htl2; have Hit1 := veil hit1; have Hit2 := veil hit2; have Hnx1 := veil hnx1; have Hnx2 := veil hnx2; have Hpk := veil hpk; have HMd := veil hMd; have HsA2 := veil hsA2
        have hMd2 : (M.drop n).length ≤ c' - n := by rw [List.length_drop]; omega
        clear hC hin1 hin2 hfl1 hfl2 htl1 htl2 hit1 hit2 hnx1 hnx2 hpk hMd hsA2 hF1 hF2 hT1 hT2 hlM hinM hMt htl hst hsk hMl hx hn hsp2 hv2 hA2
        go_wp2_with fail
        refine HC.out.mono ?_
        rintro e w3 ⟨v1, v2, rfl, HO3, hb3⟩
        obtain ⟨A1, c1, A3, c3, rfl, rfl, s1, s2⟩ := cnt_formF HO3
        rw [Htl1.out, Htl2.out] at HO3 ⊢
        have hz3 := hb3.size
        have HR1 := veil (HQ1.out.below hb3 HQ1.out.lt); have HR2 := veil (HQ2.out.below hb3 HQ2.out.lt); have HS3 := veil (HO.out.below hb3); have Hbf := veil (Hbe.out.trans (hb3.mono hzr))
        have HT3 := veil HO3
        clear HQ1 HQ2 HO Hbe HO3 s1 s2 hb3 HC
        have hz1 : mixL F1 T1 0 = F1 := mix_zero _ _
        have hz2 : mixL F2 T2 0 = F2 := mix_zero _ _
        go_wp2_with fail
        go_loopg [36] 256 (fun gk iv wi => ∃ (i : Nat), gk = 256 - i ∧ i ≤ 256 ∧ iv = .int .i64 (i : Int) ∧ Hid (Blk wi p1 (ints .i64 (mixL F1 T1 i)) 3) ∧ Hid (Blk wi p2 (ints .i64 (mixL F2 T2 i)) 3) ∧ Hid (Owns W1.heap.size [intRow 3 .i64 (.slice A1 256 c1) T1, intRow 3 .i64 (.slice A3 256 c3) T2] wi) ∧ Hid (Owns wc.heap.size [intRow 3 .i64 (.slice (some ⟨gp, op, none⟩) ps.length cp) (ps.map Int.ofNat)] wi) ∧ Hid (Below w.heap.size w wi))
        case atStart => exact ⟨0, rfl, by omega, rfl, by rw [hz1]; exact HR1, by rw [hz2]; exact HR2, HT3, HS3, Hbf⟩
        case round =>
          clear HR1 HR2 HT3 HS3 Hbf hz1 hz2
          obtain ⟨i, rfl, hi, rfl, HB1, HB2, HOt, HOs, Hbw⟩ := hrel
          by_cases hlti : i < 256
          · have hltiz : (i : Int) < (256 : Int) := by omega
            obtain ⟨x1, hx1⟩ := some_at (xs := F1) (j := i) (by rw [Hfl1.out]; exact hlti)
            obtain ⟨x2, hx2⟩ := some_at (xs := F2) (j := i) (by rw [Hfl2.out]; exact hlti)
            obtain ⟨A4, c4, A5, c5, e4, e5, s4, s5⟩ := cnt_formF HOt.out
            obtain ⟨rfl, rfl⟩ : A1 = A4 ∧ c1 = c4 := by rw [Htl1.out] at e4; simpa using e4
            obtain ⟨rfl, rfl⟩ : A3 = A5 ∧ c3 = c5 := by rw [Htl2.out] at e5; simpa using e5
            obtain ⟨g4, o4, y1, rfl, hg4, hy1, k2⟩ := s4.int (k := i) (by rw [Htl1.out]; exact hlti)
            obtain ⟨g5, o5, y2, rfl, hg5, hy2, k4⟩ := s5.int (k := i) (by rw [Htl2.out]; exact hlti)
            have hb1 := Hin1.out x1 (List.mem_of_getElem? hx1)
            have hb2 := Hin2.out x2 (List.mem_of_getElem? hx2)
            have hb3 := Hit1.out y1 (List.mem_of_getElem? hy1)
            have hb4 := Hit2.out y2 (List.mem_of_getElem? hy2)
            have hpk := Hpk.out
            have hw1 : IntKind.i64.wrap (x1 + y1) = x1 + y1 := by rw [IntKind.wrap_i64]; omega
            have hw2 : IntKind.i64.wrap (x2 + y2) = x2 + y2 := by rw [IntKind.wrap_i64]; omega
            have k1 := HB1.out.cell (i := i) (v := .int .i64 x1) (ints_at (mix_at (by rw [Htl1.out, Hfl1.out]) hx1))
            have k3 := HB2.out.cell (i := i) (v := .int .i64 x2) (ints_at (mix_at (by rw [Htl2.out, Hfl2.out]) hx2))
            have f1 := HB1.out.frozen i
            have hlq1 := HB1.out.lt
            have hlq2 := HB2.out.lt
            have hset1 := HB1.out.set i (.int .i64 (x1 + y1))
            rw [ints_set, mix_set (by rw [Htl1.out, Hfl1.out]) hx1 hy1] at hset1
            have hgr1 := grown_setCell wr p1 i (.int .i64 (x1 + y1))
            have hO4 : g4 ≠ p1 ∧ g5 ≠ p1 ∧ g5 ≠ p2 ∧ W1.heap.size ≤ g5 := by
              have h1 := (HOt.out.head.lt g4 rfl).1
              have h2 := (HOt.out.tail.head.lt g5 rfl).1
              exact ⟨by omega, by omega, by omega, h2⟩
            have hB2a := HB2.out.kept hgr1 (by intro h; injection h with h; omega)
            have hOta := HOt.out.kept hgr1 (by omega)
            have hOsa := HOs.out.kept hgr1 (by omega)
            have hbwa : Below w.heap.size w (wr.setCell ⟨p1, i, none⟩ (.int .i64 (x1 + y1))) := Hbw.out.grown hgr1 Hbw.out.size (fun j hj => by injection hj with hj; omega)
            have k3a := hB2a.cell (i := i) (v := .int .i64 x2) (ints_at (mix_at (by rw [Htl2.out, Hfl2.out]) hx2))
            have f3 := hB2a.frozen i
            have k4a : (wr.setCell ⟨p1, i, none⟩ (.int .i64 (x1 + y1))).cell? ⟨g5, o5 + i, none⟩ = some (.int .i64 y2) := by
              rw [World.cell?_of_block (hgr1.block g5 (HOt.out.tail.head.lt g5 rfl).2 (fun h => by injection h with h; omega))]; exact k4
            have Hset1 := veil hset1; have HB2a := veil hB2a; have HOta := veil hOta; have HOsa := veil hOsa; have Hbwa := veil hbwa; have K3a := veil k3a; have F3 := veil f3; have K4a := veil k4a
            have Hx2 := veil hx2; have Hy2 := veil hy2
            clear hset1 hgr1 hB2a hOta hOsa hbwa k3a f3 k4a k3 k4 hx1 hy1 hx2 hy2 s4 s5 e4 e5 HB1 HB2 HOt HOs Hbw
            go_upto_region 10 with fail
            go_still_tail 10, (by kernel_rfl)
            repeat still_step
            try refine wpStill_nil ?_
            change wpList _ _ _ _ _ wr.drew
            have f1' : wr.drew.frozen? ⟨p1, i, none⟩ = false := f1
            have k1' : wr.drew.cell? ⟨p1, i, none⟩ = some (.int .i64 x1) := k1
            go_upto_region 11 with fail
            obtain ⟨W5, hW5⟩ : ∃ W5, W5 = (wr.setCell ⟨p1, i, none⟩ (.int .i64 (x1 + y1))).drew := ⟨_, rfl⟩
            rw [← hW5]
            have k3' : W5.cell? ⟨p2, i, none⟩ = some (.int .i64 x2) := by rw [hW5]; exact K3a.out
            have k4' : W5.cell? ⟨g5, o5 + i, none⟩ = some (.int .i64 y2) := by rw [hW5]; exact K4a.out
            have f3' : W5.frozen? ⟨p2, i, none⟩ = false := by rw [hW5]; exact F3.out
            have hset5 : Blk W5 p1 (ints .i64 (mixL F1 T1 (i + 1))) 3 := by rw [hW5]; exact Hset1.out
            have hB25 : Blk W5 p2 (ints .i64 (mixL F2 T2 i)) 3 := by rw [hW5]; exact HB2a.out
            have hOt5 : Owns W1.heap.size [intRow 3 .i64 (.slice (some ⟨g4, o4, none⟩) 256 c1) T1, intRow 3 .i64 (.slice (some ⟨g5, o5, none⟩) 256 c3) T2] W5 := by rw [hW5]; exact HOta.out.drew
            have hOs5 : Owns wc.heap.size [intRow 3 .i64 (.slice (some ⟨gp, op, none⟩) ps.length cp) (ps.map Int.ofNat)] W5 := by rw [hW5]; exact HOsa.out.drew
            have hbw5 : Below w.heap.size w W5 := by rw [hW5]; exact Hbwa.out.drew
            clear hW5 f1' k1' k1 k2 f1
            have hset6 := hB25.set i (.int .i64 (x2 + y2))
            rw [ints_set, mix_set (by rw [Htl2.out, Hfl2.out]) Hx2.out Hy2.out] at hset6
            have hgr6 := grown_setCell W5 p2 i (.int .i64 (x2 + y2))
            have hQ1 := hset5.kept hgr6 (by intro h; injection h with h; omega)
            have hlp5 := hbw5.size
            have hQ3 := hOt5.kept hgr6 (by omega)
            have hQ4 := hOs5.kept hgr6 (by omega)
            have hQ5 : Below w.heap.size w (W5.setCell ⟨p2, i, none⟩ (.int .i64 (x2 + y2))) := hbw5.grown hgr6 hbw5.size (fun j hj => by injection hj with hj; omega)
            have HQ1 := veil hQ1; have HQ2 := veil hset6; have HQ3 := veil hQ3; have HQ4 := veil hQ4; have HQ5 := veil hQ5
            clear hset6 hgr6 hQ1 hQ3 hQ4 hQ5 hset5 hB25 hOt5 hOs5 hbw5 Hset1 HB2a HOta HOsa Hbwa K3a K4a F3
            go_still_tail 10, (by kernel_rfl)
            repeat still_step
            try refine wpStill_nil ?_
            change wpList _ _ _ _ _ W5.drew
            have f3'' : W5.drew.frozen? ⟨p2, i, none⟩ = false := f3'
            have k3'' : W5.drew.cell? ⟨p2, i, none⟩ = some (.int .i64 x2) := k3'
            go_wp2_with fail
            go_roundg (256 - (i + 1))
            case rel => exact ⟨i + 1, rfl, by omega, by go_num, veil (HQ1.out.drewN 1), veil (HQ2.out.drewN 1), veil HQ3.out.drew, veil HQ4.out.drew, veil HQ5.out.drew⟩
            case measure => omega
          · obtain rfl : i = 256 := by omega
            have h1 := HB1.out
            have h2 := HB2.out
            have q1 := mix_end (F := F1) (T := T1) (by rw [Htl1.out, Hfl1.out])
            have q2 := mix_end (F := F2) (T := T2) (by rw [Htl2.out, Hfl2.out])
            rw [Hfl1.out, ← Hnx1.out] at q1
            rw [Hfl2.out, ← Hnx2.out] at q2
            rw [q1] at h1
            rw [q2] at h2
            have H1 := veil h1; have H2 := veil h2
            clear h1 h2 q1 q2
            go_wp2_with fail
            go_roundg (ps.length - (k + 1))
            case rel => exact ⟨k + 1, A2, c' - n, M.drop n, rfl, by omega, by rw [List.length_drop], by go_num, hMd2, HMd, HsA2, H1, H2, HOs, Hbw⟩
            case measure => omega
      · obtain rfl : k = ps.length := by omega
        have h1 := HQ1.out
        have h2 := HQ2.out
        have hl1 := fcL_length true ps L ps.length
        have hl2 := fcL_length false ps L ps.length
        have own := fun (p : Nat) (X : List Int) (hx : X.length = 256) (hp : Blk W1 p (ints .i64 X) 3) (hw : w.heap.size ≤ p) =>
          (⟨by rw [ints_length, hx], .inr ⟨p, 256, (ints .i64 X).toArray, rfl, hw, hp, by omega, by unfold maxLen; omega, by simp [ints_length, hx], by rw [List.take_of_length_le (by simp [ints_length, hx])]⟩⟩ : W1.ownsRow w.heap.size 3 1 (.slice (some ⟨p, 0, none⟩) 256 256) 256 (ints .i64 X))
        have o1 := own p1 _ hl1 h1 l1
        have o2 := own p2 _ hl2 h2 l2
        have HOw : Hid (Owns w.heap.size [intRow 3 .i64 (.slice (some ⟨p1, 0, none⟩) 256 256) (fcL true ps L ps.length), intRow 3 .i64 (.slice (some ⟨p2, 0, none⟩) 256 256) (fcL false ps L ps.length)] W1) :=
          ⟨Hbe.out.size, fun r hr => by
            rcases List.mem_cons.1 hr with rfl | hr
            · simp only [intRow, hl1]; exact o1
            · rw [List.mem_singleton.1 hr]; simp only [intRow, hl2]; exact o2, by
            refine List.pairwise_cons.2 ⟨fun s hs g hg hg2 => ?_, List.pairwise_singleton _ _⟩
            rw [List.mem_singleton.1 hs] at hg2
            simp only [intRow, Value.ownBlock] at hg hg2
            injection hg with hg; injection hg2 with hg2; omega⟩
        clear own o1 o2 h1 h2 hl1 hl2 HQ1 HQ2 HO
        go_wp2_with fail
        go_ret2
        exact ⟨_, _, rfl, HOw.out, Hbe.out⟩
end Go.Proofs.Ytddkhkpdbjjboaa

/- Numbers with their places. No program is named here. -/
namespace Go.Proofs.Ytddkhkpdbjjboaa
set_option linter.unusedVariables false
set_option linter.unusedSimpArgs false
set_option maxRecDepth 100000

/-- The numbers with their places. -/
def enumI (zs : List Int) : List (Int × Int) := zs.zipIdx.map fun p => ((p.2 : Int), p.1)
theorem enumI_length (zs : List Int) : (enumI zs).length = zs.length := by simp [enumI]
theorem enumI_at {zs : List Int} {k : Nat} {x : Int} (h : zs[k]? = some x) : (enumI zs)[k]? = some ((k : Int), x) := by
  simp [enumI, List.getElem?_zipIdx, h]
end Go.Proofs.Ytddkhkpdbjjboaa

/- slices.Backward over numbers: what its iterator hands out. -/
namespace Go.Proofs.Ytddkhkpdbjjboaa
open Go.RowKit Go.Shelf
set_option linter.unusedVariables false
set_option linter.unusedSimpArgs false
set_option maxRecDepth 100000
attribute [local go_sem] Oper.semAt_some

/-- .. from the last one down to place r. -/
def backTo (zs : List Int) (r : Nat) : List (Int × Int) := ((enumI zs).drop r).reverse
theorem backTo_all {zs : List Int} {r : Nat} (h : zs.length ≤ r) : backTo zs r = [] := by
  unfold backTo; rw [List.drop_of_length_le (by rw [enumI_length]; exact h)]; rfl
theorem backTo_next {zs : List Int} {k : Nat} {x : Int} (h : zs[k]? = some x) : backTo zs k = backTo zs (k + 1) ++ [((k : Int), x)] := by
  unfold backTo
  obtain ⟨hk, e⟩ := List.getElem?_eq_some_iff.1 (enumI_at h)
  rw [List.drop_eq_getElem_cons hk, e, List.reverse_cons]
theorem backTo_length (zs : List Int) (r : Nat) : (backTo zs r).length = zs.length - r := by simp [backTo, enumI_length]

/-- What a round keeps: all that lay below n₀, and the iterator's box. -/
def KpB (n₀ Bs : Nat) (W W' : World) : Prop := Below n₀ W W' ∧ W'.heap[Bs]? = W.heap[Bs]?
theorem KpB.refl (n₀ Bs : Nat) (W : World) : KpB n₀ Bs W W := ⟨Below.refl _ _, rfl⟩
theorem KpB.trans {n₀ Bs : Nat} {A B C : World} (h : KpB n₀ Bs A B) (k : KpB n₀ Bs B C) : KpB n₀ Bs A C := ⟨h.1.trans k.1, k.2.trans h.2⟩
theorem KpB.put {n₀ Bs N : Nat} (hn : n₀ ≤ N) (hB : Bs < N) (W : World) (l : Nat) (o o' : Obj) (hl : N ≤ l) (ho : W.heap[l]? = some o) (h1 : o.isCells = false) (h2 : o.isWalk = false) : KpB n₀ Bs W (W.putObj l o') :=
  ⟨⟨rfl, rfl, rfl, by simp, fun k hk => World.putObj_heap_other (by omega)⟩, World.putObj_heap_other (by omega)⟩
theorem KpB.cell {n₀ Bs : Nat} {W W' : World} (h : KpB n₀ Bs W W') (i : Nat) : W'.cell? ⟨Bs, i, none⟩ = W.cell? ⟨Bs, i, none⟩ := by simp [World.cell?, h.2]

set_option maxRecDepth 100000 in
set_option maxHeartbeats 2000000 in
theorem back1_in (F : Fence) (n : Nat) (hf : F.fn 103) (hro : F.round = none) (hn : 1 ≤ n) (l Bs n₀ len cap : Nat) (A : Option Addr) (zs : List Int) (hlen : Hid (zs.length = len)) (hl : len ≤ 1048576) (J Jx : List (Int × Int) → World → Prop)
    (hY : ∀ pre x W, J pre W → pre.length < len → YieldAt F (n - 1) Try.prog l #[.int .i64 x.1, .int .i64 x.2] W fun e W' =>
      (e = .returned (.bool true) ∧ J (pre ++ [x]) W' ∧ KpB n₀ Bs W W') ∨ (e = .returned (.bool false) ∧ Jx (pre ++ [x]) W'))
    (W : World) (hBs : W.cell? ⟨Bs, 0, none⟩ = some (.slice A len cap)) (hs : Seen W n₀ A (ints .i64 zs)) (h0 : J [] W) :
    CallsIn F n Try.prog 103 #[.func (.yield l) #[] #[], .pointer (some ⟨Bs, 0, none⟩)] W fun e W' => (∃ v, e = .returned v) ∧
      ((∃ ys, ys = backTo zs 0 ∧ J ys W') ∨ (∃ pre, (∃ r, pre = backTo zs r) ∧ Jx pre W')) := by
  have hY' := veil hY; clear hY
  refine callsIn_of_wp Try.func103 rfl hf ?_ hro
  simp only [Try.ntmps103, List.size_toArray, List.length_cons, List.length_nil, Nat.reduceAdd, Nat.reduceSub, Array.replicate_succ, Array.replicate_zero, List.push_toArray, List.append_toArray, List.nil_append, List.cons_append]
  gi_wp2
  gi_loopw [3] (fun i wr => (i = .int .i64 ((len : Int) - 1) ∧ len = 0 ∧ J (backTo zs 0) wr) ∨ (∃ q : Nat, q < len ∧ i = .int .i64 (q : Int) ∧ J (backTo zs (q + 1)) wr ∧ KpB n₀ Bs W wr) ∨ (i = .int .i64 (-1) ∧ J (backTo zs 0) wr))
    (fun i _ => (intOf i + 1).toNat)
  case atStart =>
    rcases Nat.eq_zero_or_pos len with h | h
    · refine .inl ⟨rfl, h, ?_⟩
      rw [backTo_all (by rw [hlen.out, h]; omega)]; exact h0
    · refine .inr (.inl ⟨len - 1, by omega, by congr 1; omega, ?_, KpB.refl _ _ _⟩)
      rw [backTo_all (by rw [hlen.out]; omega)]; exact h0
  case round =>
    rcases hrel with ⟨rfl, hz, hJ⟩ | ⟨q, hq, rfl, hJ, hnx⟩ | ⟨rfl, hJ⟩
    · subst hz
      gi_wp2
      go_end0
      exact ⟨⟨_, rfl⟩, .inl ⟨_, rfl, hJ⟩⟩
    · obtain ⟨b, off, x, rfl, hb, hx, hc⟩ := hs.int (k := q) (by rw [hlen.out]; exact hq)
      have hcx := (hnx.1.cell (p := ⟨b, off + q, none⟩) hb).trans hc
      have hBx := (hnx.cell 0).trans hBs
      obtain ⟨fn, tmps, assign, body, hy, hR⟩ := hY'.out _ ((q : Int), x) wr hJ (by rw [backTo_length, hlen.out]; omega)
      dsimp only at hy
      have Hn := veil (backTo_next hx)
      clear hx hc
      have hqz : (q : Int) < (len : Int) := by omega
      gi_wp2
      refine hR.mono ?_
      rintro e W3 (⟨rfl, hJ3, hk3⟩ | ⟨rfl, hJx3⟩)
      · rw [← Hn.out] at hJ3
        gi_wp2
        go_roundw
        case rel =>
          rcases Nat.eq_zero_or_pos q with h | h
          · subst h; exact .inr (.inr ⟨rfl, hJ3⟩)
          · refine .inr (.inl ⟨q - 1, by omega, by congr 1; omega, ?_, hnx.trans hk3⟩)
            rw [show q - 1 + 1 = q by omega]; exact hJ3
        case measure => simp [intOf]
      · rw [← Hn.out] at hJx3
        gi_wp2
        refine bodyPost_ret (results_none rfl _ _ _) rfl ?_
        exact ⟨⟨_, rfl⟩, .inr ⟨_, ⟨q, rfl⟩, hJx3⟩⟩
    · gi_wp2
      go_end0
      exact ⟨⟨_, rfl⟩, .inl ⟨_, rfl, hJ⟩⟩
set_option maxHeartbeats 1000000 in
theorem back_in (F : Fence) (n : Nat) (hf : F.fn 84) (hro : F.round = none) (a : Option Addr) (len cap : Nat) (w : World) :
    CallsIn F n Try.prog 84 #[.slice a len cap] w fun e w' => e = .returned (.func (.func 103) #[] #[.pointer (some ⟨w.heap.size, 0, none⟩)]) ∧ w' = w.alloc (.cells #[.slice a len cap] 23) := by
  refine callsIn_of_wp Try.func84 rfl hf ?_ hro
  simp only [Try.ntmps84, List.size_toArray, List.length_cons, List.length_nil, Nat.reduceAdd, Nat.reduceSub, Array.replicate_succ, Array.replicate_zero, List.push_toArray, List.append_toArray, List.nil_append, List.cons_append]
  gi_wp2
  go_ret
  exact ⟨rfl, rfl⟩
theorem back_stops (F : Fence) (n : Nat) (hf : F.fn 103) (hro : F.round = none) (hn : 1 ≤ n) (Bs n₀ cap : Nat) (A : Option Addr) (zs : List Int) (hl : zs.length ≤ 1048576) (w : World) (hBs : Bs < w.heap.size) (hn₀ : n₀ ≤ w.heap.size)
    (hc : w.cell? ⟨Bs, 0, none⟩ = some (.slice A zs.length cap)) (hs : Seen w n₀ A (ints .i64 zs)) :
    SeqStopsK F n Try.prog 103 #[.pointer (some ⟨Bs, 0, none⟩)] (fun x : Int × Int => #[Value.int .i64 x.1, Value.int .i64 x.2]) (KpB n₀ Bs) (fun ys => ys = backTo zs 0) (fun pre => ∃ r, pre = backTo zs r) zs.length w := fun l J Jx W hW _ _ hY h0 =>
  back1_in F n hf hro hn l Bs n₀ zs.length cap A zs rfl hl J Jx hY W ((hW.cell (p := ⟨Bs, 0, none⟩) hBs).trans hc) (hs.below hW hn₀) h0
end Go.Proofs.Ytddkhkpdbjjboaa

/- slices.Grow and slices.Concat, over numbers and over bundles: their contracts. -/
namespace Go.Proofs.Ytddkhkpdbjjboaa
open Go.RowKit
set_option linter.unusedVariables false
set_option linter.unusedSimpArgs false
set_option maxRecDepth 100000

theorem zeroCells_size (c : Array Value) (n : Nat) : (Builtin.zeroCells c n).size = n * c.size := by
  simp [Builtin.zeroCells]

theorem elemN : ElemOf Try.prog 23 3 1 8 := .mk' Try.underlying23 (z := .int .i64 0) (by kernel_rfl) rfl (by omega)
set_option maxHeartbeats 1000000 in
set_option maxRecDepth 100000 in
theorem growN_any (n : Nat) (w : World) (hn : n ≤ 1048576) :
    Calls Try.prog 111 #[.slice none 0 0, .int .i64 n] w fun e w' => ∃ v, e = .returned v ∧ w'.ownsRow w.heap.size 3 1 v 0 [] ∧ Below w.heap.size w w' := by
  by_cases h0 : n = 0
  · subst h0
    go_enter Try.func111, Try.ntmps111
    go_wp2
    go_ret
    exact ⟨_, rfl, World.ownsRow_nil _ _ _ _, Below.refl _ _⟩
  · obtain ⟨i, z, hi, hz0, hz1, hz2, hzs⟩ := elemN.hi
    have hr := fun ty => Lib.run_append_nil_zeros (P := Try.prog) w 23 3 ty 3 i z .i64 .i64 Try.underlying23 Try.underlying3 hi hz0 n (by omega) (by omega) (by omega) (by rw [hz2]; omega)
    have hG := grownCap_ge w n 0 3
    have hG2 := grownCap_le_maxLen w n 0 3 (by unfold maxLen; omega)
    have hsz : (Builtin.zeroCells z.cells n ++ Builtin.zeroCells z.cells (grownCap w n 0 3 - n)).size = grownCap w n 0 3 * 1 := by
      simp only [Array.size_append, zeroCells_size, hzs]
      omega
    generalize grownCap w n 0 3 = G at hr hG hG2 hsz
    generalize Builtin.zeroCells z.cells n ++ Builtin.zeroCells z.cells (G - n) = cur at hr hsz
    have Hsz := veil hsz; have HG2 := veil hG2
    unfold maxLen at hG2
    clear hsz hi hz0 hz1 hz2 hzs
    have hpos : (0 : Int) < (n : Int) := by omega
    have hneg : ¬ (n : Int) < 0 := by omega
    go_enter Try.func111, Try.ntmps111
    go_wp2_with (at_builtin; refine Lib.wpList_append_run _ rfl _ _ _ _ rfl _ _ rfl rfl _ _ (hr _) ?_)
    go_ret
    refine ⟨_, rfl, ?_, ?_⟩
    · exact World.ownsRow_made w.drew cur G (Nat.le_refl _) HG2.out Hsz.out
    · exact below_of_drew (below1 w.drew _)
set_option maxHeartbeats 2000000 in
set_option maxRecDepth 100000 in
theorem concatN_any (b c n1 n2 c1 c2 : Nat) (A1 A2 : Option Addr) (xs1 xs2 : List Value) (w : World) (hb : b < w.heap.size) (h0 : w.cell? ⟨b, 0, none⟩ = some (.slice A1 n1 c1)) (h1 : w.cell? ⟨b, 1, none⟩ = some (.slice A2 n2 c2))
    (hs1 : Seen w w.heap.size A1 xs1) (hs2 : Seen w w.heap.size A2 xs2) (hl1 : xs1.length = n1 * 1) (hl2 : xs2.length = n2 * 1) (ho1 : ∀ u ∈ xs1, u.oneCell' = true) (ho2 : ∀ u ∈ xs2, u.oneCell' = true) (hn : n1 + n2 ≤ 1048576) :
    Calls Try.prog 100 #[.slice (some ⟨b, 0, none⟩) 2 c] w fun e w' => ∃ v, e = .returned v ∧ Owns w.heap.size [⟨3, 1, v, n1 + n2, xs1 ++ xs2⟩] w' ∧ Below w.heap.size w w' := by
  have HL1 := veil hl1; have HL2 := veil hl2
  clear hl1 hl2
  go_enter Try.func100, Try.ntmps100
  go_wp2
  go_loopg [3, 5, 11] 2 (fun gk sz v5 i wr => w = wr ∧ (i = .int .i64 0 ∧ sz = .int .i64 0 ∧ gk = 2 ∨ i = .int .i64 1 ∧ sz = .int .i64 n1 ∧ gk = 1 ∨ i = .int .i64 2 ∧ sz = .int .i64 ((n1 : Int) + (n2 : Int)) ∧ gk = 0))
  case atStart => exact ⟨rfl, .inl ⟨rfl, rfl, rfl⟩⟩
  case round =>
    obtain ⟨rfl, ⟨rfl, rfl, rfl⟩ | ⟨rfl, rfl, rfl⟩ | ⟨rfl, rfl, rfl⟩⟩ := hrel
    · have hneg : ¬ (n1 : Int) < 0 := by omega
      go_wp2
      go_roundg 1
      case rel => exact ⟨rfl, .inr (.inl ⟨by go_num, by go_num, rfl⟩)⟩
      case measure => omega
    · have hneg : ¬ (n1 : Int) + (n2 : Int) < 0 := by omega
      go_wp2
      go_roundg 0
      case rel => exact ⟨rfl, .inr (.inr ⟨by go_num, by go_num, rfl⟩)⟩
      case measure => omega
    · have hg := growN_any (n1 + n2) w hn
      rw [show ((n1 + n2 : Nat) : Int) = (n1 : Int) + (n2 : Int) by omega] at hg
      have Hg := veil hg; clear hg
      go_wp2_with fail
      refine Hg.out.mono ?_
      rintro e w1 ⟨v1, rfl, hown1, hb1⟩
      have c0 := (hb1.cell (p := ⟨b, 0, none⟩) hb).trans h0
      have c1' := (hb1.cell (p := ⟨b, 1, none⟩) hb).trans h1
      have HO := Owns.one (r := ⟨3, 1, v1, 0, []⟩) hb1.size hown1
      clear hown1 Hg
      have HB1 := veil hb1
      go_wp2_with fail
      go_loopg [6, 8, 27] 2 (fun gk v6 v8 i wr => Below w.heap.size w1 wr ∧ (i = .int .i64 0 ∧ Owns w.heap.size [⟨3, 1, v6, 0, []⟩] wr ∧ gk = 2 ∨ i = .int .i64 1 ∧ Owns w.heap.size [⟨3, 1, v6, 0 + n1, [] ++ xs1⟩] wr ∧ gk = 1 ∨ i = .int .i64 2 ∧ Owns w.heap.size [⟨3, 1, v6, 0 + n1 + n2, [] ++ xs1 ++ xs2⟩] wr ∧ gk = 0))
      case atStart => exact ⟨Below.refl _ _, .inl ⟨rfl, HO, rfl⟩⟩
      case round =>
        clear HO
        obtain ⟨hb2, ⟨rfl, HO, rfl⟩ | ⟨rfl, HO, rfl⟩ | ⟨rfl, HO, rfl⟩⟩ := hrel
        · have d0 := (hb2.cell (p := ⟨b, 0, none⟩) hb).trans c0
          have hsn : Seen wr w.heap.size A1 xs1 := (hs1.below hb1 (Nat.le_refl _)).below hb2 (Nat.le_refl _)
          clear c0 c1' h0 h1
          go_wp2_with (first
            | (at_builtin; go_loud (refine wpList_ownV wr rfl (.tmp 31) (.tmp 32) 23 rfl w.heap.size 3 1 8 elemN u6 0 [] [] rfl HO w.heap.size A1 n1 c1 xs1 rfl hsn HL1.out ho1 (by unfold maxLen; omega) (by omega) ?_); intro v' w' HO' hb')
            | fail)
          go_roundg 1
          case rel => exact ⟨hb2.trans hb', .inr (.inl ⟨by go_num, HO', rfl⟩)⟩
          case measure => omega
        · have d1 := (hb2.cell (p := ⟨b, 1, none⟩) hb).trans c1'
          have hsn : Seen wr w.heap.size A2 xs2 := (hs2.below hb1 (Nat.le_refl _)).below hb2 (Nat.le_refl _)
          clear c0 c1' h0 h1
          go_wp2_with (first
            | (at_builtin; go_loud (refine wpList_ownV wr rfl (.tmp 31) (.tmp 32) 23 rfl w.heap.size 3 1 8 elemN u6 (0 + n1) ([] ++ xs1) [] rfl HO w.heap.size A2 n2 c2 xs2 rfl hsn HL2.out ho2 (by unfold maxLen; omega) (by omega) ?_); intro v' w' HO' hb')
            | fail)
          go_roundg 0
          case rel => exact ⟨hb2.trans hb', .inr (.inr ⟨by go_num, HO', rfl⟩)⟩
          case measure => omega
        · rw [Nat.zero_add, List.nil_append] at HO
          go_wp2
          go_ret
          exact ⟨_, rfl, HO, HB1.out.trans hb2⟩

theorem elemB : ElemOf Try.prog 118 150 2 32 := .mk' Try.underlying118 (z := .agg #[.int .i64 0, .slice none 0 0]) (by kernel_rfl) rfl (by omega)
set_option maxHeartbeats 1000000 in
set_option maxRecDepth 100000 in
theorem growB_any (n : Nat) (w : World) (hn : n ≤ 1048576) :
    Calls Try.prog 99 #[.slice none 0 0, .int .i64 n] w fun e w' => ∃ v, e = .returned v ∧ w'.ownsRow w.heap.size 150 2 v 0 [] ∧ Below w.heap.size w w' := by
  by_cases h0 : n = 0
  · subst h0
    go_enter Try.func99, Try.ntmps99
    go_wp2
    go_ret
    exact ⟨_, rfl, World.ownsRow_nil _ _ _ _, Below.refl _ _⟩
  · obtain ⟨i, z, hi, hz0, hz1, hz2, hzs⟩ := elemB.hi
    have hr := fun ty => Lib.run_append_nil_zeros (P := Try.prog) w 118 3 ty 150 i z .i64 .i64 Try.underlying118 Try.underlying3 hi hz0 n (by omega) (by omega) (by omega) (by rw [hz2]; omega)
    have hG := grownCap_ge w n 0 150
    have hG2 := grownCap_le_maxLen w n 0 150 (by unfold maxLen; omega)
    have hsz : (Builtin.zeroCells z.cells n ++ Builtin.zeroCells z.cells (grownCap w n 0 150 - n)).size = grownCap w n 0 150 * 2 := by
      simp only [Array.size_append, zeroCells_size, hzs]
      omega
    generalize grownCap w n 0 150 = G at hr hG hG2 hsz
    generalize Builtin.zeroCells z.cells n ++ Builtin.zeroCells z.cells (G - n) = cur at hr hsz
    have Hsz := veil hsz; have HG2 := veil hG2
    unfold maxLen at hG2
    clear hsz hi hz0 hz1 hz2 hzs
    have hpos : (0 : Int) < (n : Int) := by omega
    have hneg : ¬ (n : Int) < 0 := by omega
    go_enter Try.func99, Try.ntmps99
    go_wp2_with (at_builtin; refine Lib.wpList_append_run _ rfl _ _ _ _ rfl _ _ rfl rfl _ _ (hr _) ?_)
    go_ret
    refine ⟨_, rfl, ?_, ?_⟩
    · exact World.ownsRow_made w.drew cur G (Nat.le_refl _) HG2.out Hsz.out
    · exact below_of_drew (below1 w.drew _)
set_option maxHeartbeats 2000000 in
set_option maxRecDepth 100000 in
theorem concatB_any (b c n1 n2 c1 c2 : Nat) (A1 A2 : Option Addr) (xs1 xs2 : List Value) (w : World) (hb : b < w.heap.size) (h0 : w.cell? ⟨b, 0, none⟩ = some (.slice A1 n1 c1)) (h1 : w.cell? ⟨b, 1, none⟩ = some (.slice A2 n2 c2))
    (hs1 : Seen w w.heap.size A1 xs1) (hs2 : Seen w w.heap.size A2 xs2) (hl1 : xs1.length = n1 * 2) (hl2 : xs2.length = n2 * 2) (ho1 : ∀ u ∈ xs1, u.oneCell' = true) (ho2 : ∀ u ∈ xs2, u.oneCell' = true) (hn : n1 + n2 ≤ 1048576) :
    Calls Try.prog 79 #[.slice (some ⟨b, 0, none⟩) 2 c] w fun e w' => ∃ v, e = .returned v ∧ Owns w.heap.size [⟨150, 2, v, n1 + n2, xs1 ++ xs2⟩] w' ∧ Below w.heap.size w w' := by
  have HL1 := veil hl1; have HL2 := veil hl2
  clear hl1 hl2
  go_enter Try.func79, Try.ntmps79
  go_wp2
  go_loopg [3, 5, 11] 2 (fun gk sz v5 i wr => w = wr ∧ (i = .int .i64 0 ∧ sz = .int .i64 0 ∧ gk = 2 ∨ i = .int .i64 1 ∧ sz = .int .i64 n1 ∧ gk = 1 ∨ i = .int .i64 2 ∧ sz = .int .i64 ((n1 : Int) + (n2 : Int)) ∧ gk = 0))
  case atStart => exact ⟨rfl, .inl ⟨rfl, rfl, rfl⟩⟩
  case round =>
    obtain ⟨rfl, ⟨rfl, rfl, rfl⟩ | ⟨rfl, rfl, rfl⟩ | ⟨rfl, rfl, rfl⟩⟩ := hrel
    · have hneg : ¬ (n1 : Int) < 0 := by omega
      go_wp2
      go_roundg 1
      case rel => exact ⟨rfl, .inr (.inl ⟨by go_num, by go_num, rfl⟩)⟩
      case measure => omega
    · have hneg : ¬ (n1 : Int) + (n2 : Int) < 0 := by omega
      go_wp2
      go_roundg 0
      case rel => exact ⟨rfl, .inr (.inr ⟨by go_num, by go_num, rfl⟩)⟩
      case measure => omega
    · have hg := growB_any (n1 + n2) w hn
      rw [show ((n1 + n2 : Nat) : Int) = (n1 : Int) + (n2 : Int) by omega] at hg
      have Hg := veil hg; clear hg
      go_wp2_with fail
      refine Hg.out.mono ?_
      rintro e w1 ⟨v1, rfl, hown1, hb1⟩
      have c0 := (hb1.cell (p := ⟨b, 0, none⟩) hb).trans h0
      have c1' := (hb1.cell (p := ⟨b, 1, none⟩) hb).trans h1
      have HO := Owns.one (r := ⟨150, 2, v1, 0, []⟩) hb1.size hown1
      clear hown1 Hg
      have HB1 := veil hb1
      go_wp2_with fail
      go_loopg [6, 8, 27] 2 (fun gk v6 v8 i wr => Below w.heap.size w1 wr ∧ (i = .int .i64 0 ∧ Owns w.heap.size [⟨150, 2, v6, 0, []⟩] wr ∧ gk = 2 ∨ i = .int .i64 1 ∧ Owns w.heap.size [⟨150, 2, v6, 0 + n1, [] ++ xs1⟩] wr ∧ gk = 1 ∨ i = .int .i64 2 ∧ Owns w.heap.size [⟨150, 2, v6, 0 + n1 + n2, [] ++ xs1 ++ xs2⟩] wr ∧ gk = 0))
      case atStart => exact ⟨Below.refl _ _, .inl ⟨rfl, HO, rfl⟩⟩
      case round =>
        clear HO
        obtain ⟨hb2, ⟨rfl, HO, rfl⟩ | ⟨rfl, HO, rfl⟩ | ⟨rfl, HO, rfl⟩⟩ := hrel
        · have d0 := (hb2.cell (p := ⟨b, 0, none⟩) hb).trans c0
          have hsn : Seen wr w.heap.size A1 xs1 := (hs1.below hb1 (Nat.le_refl _)).below hb2 (Nat.le_refl _)
          clear c0 c1' h0 h1
          go_wp2_with (first
            | (at_builtin; go_loud (refine wpList_ownV wr rfl (.tmp 31) (.tmp 32) 118 rfl w.heap.size 150 2 32 elemB u6 0 [] [] rfl HO w.heap.size A1 n1 c1 xs1 rfl hsn HL1.out ho1 (by unfold maxLen; omega) (by omega) ?_); intro v' w' HO' hb')
            | fail)
          go_roundg 1
          case rel => exact ⟨hb2.trans hb', .inr (.inl ⟨by go_num, HO', rfl⟩)⟩
          case measure => omega
        · have d1 := (hb2.cell (p := ⟨b, 1, none⟩) hb).trans c1'
          have hsn : Seen wr w.heap.size A2 xs2 := (hs2.below hb1 (Nat.le_refl _)).below hb2 (Nat.le_refl _)
          clear c0 c1' h0 h1
          go_wp2_with (first
            | (at_builtin; go_loud (refine wpList_ownV wr rfl (.tmp 31) (.tmp 32) 118 rfl w.heap.size 150 2 32 elemB u6 (0 + n1) ([] ++ xs1) [] rfl HO w.heap.size A2 n2 c2 xs2 rfl hsn HL2.out ho2 (by unfold maxLen; omega) (by omega) ?_); intro v' w' HO' hb')
            | fail)
          go_roundg 0
          case rel => exact ⟨hb2.trans hb', .inr (.inr ⟨by go_num, HO', rfl⟩)⟩
          case measure => omega
        · rw [Nat.zero_add, List.nil_append] at HO
          go_wp2
          go_ret
          exact ⟨_, rfl, HO, HB1.out.trans hb2⟩
end Go.Proofs.Ytddkhkpdbjjboaa

/- Packages that are merged (Larmore, Hirschberg), in numbers: the lengths that they give leave room, and no lengths that leave room cost less. No program is named here. -/
namespace Go.Proofs.Ytddkhkpdbjjboaa
set_option linter.unusedVariables false
set_option linter.unusedSimpArgs false
set_option maxRecDepth 100000

/-- A bundle: its cost and its symbols. -/
abbrev Bun : Type := Nat × List Int
def mergeB (a b : Bun) : Bun := (a.1 + b.1, a.2 ++ b.2)
def pairsOf : List Bun → List Bun
  | a :: b :: l => mergeB a b :: pairsOf l
  | _ => []
def Asc (l : List Bun) : Prop := l.Pairwise fun a b => a.1 ≤ b.1
def sumC (l : List Bun) : Nat := (l.map (·.1)).sum
def flatB (l : List Bun) : List Int := l.flatMap (·.2)
/-- A sum over symbols. -/
def sumF {α : Type} (l : List α) (f : α → Nat) : Nat := (l.map f).sum
/-- How much room a symbol takes that is longer t times, in units of which 65536 are one place of the last round. -/
def wid (t : Nat) : Nat := 131072 - 2 ^ (17 - t)
def single1 (w : Int → Nat) (i : Int) : Bun := (w i, [i])
def singlesOf (w : Int → Nat) (idx : List Int) : List Bun := idx.map (single1 w)
/-- j rounds of merging. -/
inductive Chain (w : Int → Nat) (idx : List Int) : Nat → List Bun → Prop
  | zero : Chain w idx 0 []
  | succ {j : Nat} {l q : List Bun} : Chain w idx j l → q.Perm (singlesOf w idx ++ pairsOf l) → Asc q → Chain w idx (j + 1) q

section
variable {α : Type} {l m : List α} {f g : α → Nat}
theorem sumF_cons (a : α) (l : List α) (f : α → Nat) : sumF (a :: l) f = f a + sumF l f := by simp [sumF]
theorem sumF_append (l m : List α) (f : α → Nat) : sumF (l ++ m) f = sumF l f + sumF m f := by simp [sumF, List.sum_append]
theorem sumF_add (l : List α) (f g : α → Nat) : sumF l (fun x => f x + g x) = sumF l f + sumF l g := by
  induction l with
  | nil => rfl
  | cons a l ih => simp only [sumF_cons, ih]; omega
theorem sumF_mul (l : List α) (f : α → Nat) (c : Nat) : sumF l (fun x => c * f x) = c * sumF l f := by
  induction l with
  | nil => rfl
  | cons a l ih => simp only [sumF_cons, ih, Nat.mul_add]
theorem sumF_le (h : ∀ x ∈ l, f x ≤ g x) : sumF l f ≤ sumF l g := by
  induction l with
  | nil => exact Nat.le_refl _
  | cons a l ih =>
    have h1 := h a (by simp)
    have h2 := ih fun x hx => h x (by simp [hx])
    simp only [sumF_cons]; omega
theorem sumF_congr (h : ∀ x ∈ l, f x = g x) : sumF l f = sumF l g := by
  unfold sumF; rw [List.map_congr_left h]
theorem sumF_perm (h : l.Perm m) (f : α → Nat) : sumF l f = sumF m f := (h.map f).sum_nat
theorem sumF_const (l : List α) (c : Nat) : sumF l (fun _ => c) = c * l.length := by
  induction l with
  | nil => rfl
  | cons a l ih => simp only [sumF_cons, ih, List.length_cons, Nat.mul_add]; omega
theorem sumF_filter (l : List α) (p : α → Bool) (f : α → Nat) : sumF (l.filter p) f = sumF l fun x => if p x then f x else 0 := by
  induction l with
  | nil => rfl
  | cons a l ih =>
    rw [sumF_cons]
    cases h : p a with
    | false => rw [List.filter_cons_of_neg (by simp [h]), ih]; simp
    | true => rw [List.filter_cons_of_pos h, sumF_cons, ih]; simp
theorem sumF_pos (x : α) (hx : x ∈ l) : f x ≤ sumF l f := by
  induction l with
  | nil => cases hx
  | cons a l ih =>
    rw [sumF_cons]
    rcases List.mem_cons.1 hx with rfl | hx
    · omega
    · have := ih hx; omega
end

theorem sumC_append (l m : List Bun) : sumC (l ++ m) = sumC l + sumC m := sumF_append _ _ _
theorem sumC_cons (a : Bun) (l : List Bun) : sumC (a :: l) = a.1 + sumC l := sumF_cons _ _ _
theorem sumC_perm {l m : List Bun} (h : l.Perm m) : sumC l = sumC m := sumF_perm h _
theorem flatB_append (l m : List Bun) : flatB (l ++ m) = flatB l ++ flatB m := by simp [flatB]
theorem flatB_cons (a : Bun) (l : List Bun) : flatB (a :: l) = a.2 ++ flatB l := by simp [flatB]
theorem flatB_perm {l m : List Bun} (h : l.Perm m) : (flatB l).Perm (flatB m) := h.flatMap_right _

/-- Two steps at a time. -/
theorem two_ind {α : Type} {P : List α → Prop} (h0 : P []) (h1 : ∀ a, P [a]) (h2 : ∀ a b l, P l → P (a :: b :: l)) : ∀ l, P l
  | [] => h0
  | [a] => h1 a
  | a :: b :: l => h2 a b l (two_ind h0 h1 h2 l)
theorem pairsOf_length (l : List Bun) : (pairsOf l).length = l.length / 2 := by
  induction l using two_ind with
  | h0 => rfl
  | h1 a => simp [pairsOf]
  | h2 a b l ih => simp [pairsOf, ih]; omega
theorem pairsOf_take (l : List Bun) : ∀ q, sumC ((pairsOf l).take q) = sumC (l.take (2 * (min q (l.length / 2)))) := by
  induction l using two_ind with
  | h0 => intro q; simp [pairsOf]
  | h1 a => intro q; simp [pairsOf]
  | h2 a b l ih =>
    intro q
    cases q with
    | zero => simp
    | succ q =>
      have e : 2 * min (q + 1) ((a :: b :: l).length / 2) = 2 * min q (l.length / 2) + 1 + 1 := by simp; omega
      rw [e]
      simp only [pairsOf, List.take_succ_cons, sumC_cons, ih q, mergeB]
      omega
theorem mem_perm {α : Type} {a : α} {l : List α} (h : a ∈ l) : ∃ m, l.Perm (a :: m) := by
  obtain ⟨s, t, rfl⟩ := List.append_of_mem h
  exact ⟨s ++ t, List.perm_middle⟩
/-- Of a sorted list the first ones cost least. -/
theorem least {q : List Bun} (hq : Asc q) : ∀ (m : Nat) (x y : List Bun), q.Perm (x ++ y) → m ≤ x.length → sumC (q.take m) ≤ sumC x := by
  induction q with
  | nil => intro m x y h hm; simp [sumC]
  | cons a q ih =>
    intro m x y h hm
    cases m with
    | zero => simp [sumC]
    | succ m =>
      obtain ⟨ha, hq'⟩ := List.pairwise_cons.1 hq
      rw [List.take_succ_cons, sumC_cons]
      have hmem : a ∈ x ++ y := h.mem_iff.1 (by simp)
      rcases List.mem_append.1 hmem with hx | hy
      · obtain ⟨x', hp⟩ := mem_perm hx
        have h2 : q.Perm (x' ++ y) := by
          have : (a :: q).Perm (a :: (x' ++ y)) := h.trans (hp.append_right y)
          exact this.cons_inv
        have h3 := ih hq' m _ _ h2 (by have := hp.length_eq; simp at this; omega)
        have h4 := sumC_perm hp
        rw [sumC_cons] at h4
        omega
      · cases x with
        | nil => simp at hm
        | cons b x =>
          obtain ⟨y', hp⟩ := mem_perm hy
          have h2 : q.Perm (x ++ (b :: y')) := by
            have h5 : (a :: q).Perm (a :: (b :: x ++ y')) := by
              refine h.trans ((hp.append_left (b :: x)).trans ?_)
              exact List.perm_middle
            exact h5.cons_inv.trans List.perm_middle.symm
          have h3 := ih hq' m _ _ h2 (by simp at hm; omega)
          have h6 : a.1 ≤ b.1 := ha b (h2.mem_iff.2 (by simp))
          rw [sumC_cons]
          omega

theorem wid_succ {t : Nat} (h : t ≤ 16) : 2 * wid (t + 1) = 131072 + wid t := by
  have e : 2 ^ (17 - t) = 2 * 2 ^ (17 - (t + 1)) := by rw [show 17 - t = (17 - (t + 1)) + 1 by omega, Nat.pow_succ]; omega
  have h1 : 2 ^ (17 - t) ≤ 2 ^ 17 := Nat.pow_le_pow_right (by omega) (by omega)
  have : 2 ^ 17 = 131072 := by decide
  unfold wid
  omega
theorem perm_filter {α : Type} (p : α → Bool) (l : List α) : (l.filter p ++ l.filter fun x => !p x).Perm l := List.filter_append_perm p l
theorem cross {α : Type} (a b c : List α) (n : Nat) : (a ++ b ++ c).Perm (a ++ c.take n ++ (b ++ c.drop n)) := by
  have h : (b ++ (c.take n ++ c.drop n)).Perm (c.take n ++ (b ++ c.drop n)) := by
    rw [← List.append_assoc, ← List.append_assoc]
    exact List.perm_append_comm.append_right _
  rw [List.take_append_drop] at h
  rw [List.append_assoc, List.append_assoc]
  exact h.append_left a
theorem arith0 {c m k X Y : Nat} (h1 : m * c ≤ X) (h2 : 2 * X = 2 * c * k + Y) : 2 * (m - k) * c ≤ Y := by
  rcases Nat.le_total m k with h | h
  · rw [Nat.sub_eq_zero_of_le h]; simp
  · obtain ⟨d, rfl⟩ : ∃ d, m = k + d := ⟨m - k, by omega⟩
    rw [Nat.add_sub_cancel_left]
    have e : 2 * ((k + d) * c) = 2 * c * k + 2 * d * c := by
      rw [Nat.add_mul, Nat.mul_add, ← Nat.mul_assoc 2 d c, Nat.mul_comm k c, ← Nat.mul_assoc]
    have h3 := Nat.mul_le_mul_left 2 h1
    rw [e, h2] at h3
    exact Nat.le_of_add_le_add_left h3
theorem arith1 {m k X Y : Nat} (h1 : m * 65536 ≤ X) (h2 : 2 * X = 131072 * k + Y) : 2 * (m - k) * 65536 ≤ Y := arith0 h1 (h2.trans (by rw [show 2 * 65536 = 131072 by rfl]))
/-- No lengths that leave room cost less. -/
theorem Chain.least {w : Int → Nat} {idx : List Int} {j : Nat} {l : List Bun} (h : Chain w idx j l) : j ≤ 16 → ∀ (t : Int → Nat) (m : Nat), (∀ i ∈ idx, t i ≤ j) → m * 65536 ≤ sumF idx (fun i => wid (t i)) → m ≤ l.length ∧ sumC (l.take m) ≤ sumF idx fun i => w i * t i := by
  induction h with
  | zero =>
    intro _ t m ht hm
    have : sumF idx (fun i => wid (t i)) = sumF idx fun _ => 0 := sumF_congr fun i hi => by have := ht i hi; rw [show t i = 0 by omega]; rfl
    rw [this, sumF_const] at hm
    have : m = 0 := by omega
    subst this
    exact ⟨Nat.le_refl _, by simp [sumC]⟩
  | @succ j l q h hp hq ih =>
    intro hj t m ht hm
    have e1 : 2 * sumF idx (fun i => wid (t i)) = 131072 * (idx.filter fun i => decide (1 ≤ t i)).length + sumF idx fun i => wid (t i - 1) := by
      rw [← sumF_mul, ← sumF_const, sumF_filter, ← sumF_add]
      refine sumF_congr fun i hi => ?_
      have := ht i hi
      by_cases h1 : 1 ≤ t i
      · have h2 := wid_succ (t := t i - 1) (by omega)
        rw [show t i - 1 + 1 = t i by omega] at h2
        simp [h1, h2]
      · rw [show t i = 0 by omega]; decide
    obtain ⟨k, hk⟩ : ∃ k, k = (idx.filter fun i => decide (1 ≤ t i)).length := ⟨_, rfl⟩
    rw [← hk] at e1
    have hh : 2 * (m - k) * 65536 ≤ sumF idx (fun i => wid (t i - 1)) := by
      exact arith1 hm e1
    have hh2 : ∀ i ∈ idx, t i - 1 ≤ j := fun i hi => by have := ht i hi; omega
    obtain ⟨h3, h4⟩ := ih (by omega) (fun i => t i - 1) (2 * (m - k)) hh2 hh
    have hpl := pairsOf_length l
    have hx := Go.Proofs.Ytddkhkpdbjjboaa.least hq m (singlesOf w (idx.filter fun i => decide (1 ≤ t i)) ++ (pairsOf l).take (m - k)) (singlesOf w (idx.filter fun i => !decide (1 ≤ t i)) ++ (pairsOf l).drop (m - k)) (by
      have p1 : (singlesOf w (idx.filter fun i => decide (1 ≤ t i)) ++ singlesOf w (idx.filter fun i => !decide (1 ≤ t i))).Perm (singlesOf w idx) := by
        rw [singlesOf, singlesOf, ← List.map_append]; exact (perm_filter _ _).map _
      refine hp.trans ((p1.symm.append_right _).trans ?_)
      exact cross _ _ (pairsOf l) (m - k)) (by
      simp [singlesOf, ← hk]; omega)
    refine ⟨?_, ?_⟩
    · have := hp.length_eq
      simp only [List.length_append, singlesOf, List.length_map] at this
      have h5 : k ≤ idx.length := by rw [hk]; exact List.length_filter_le _ _
      omega
    · refine Nat.le_trans hx ?_
      rw [sumC_append, pairsOf_take, show min (m - k) (l.length / 2) = m - k by omega]
      have e2 : sumC (singlesOf w (idx.filter fun i => decide (1 ≤ t i))) = sumF idx fun i => if decide (1 ≤ t i) then w i else 0 := by
        rw [← sumF_filter]; simp [sumC, singlesOf, sumF, single1, Function.comp_def]
      have e3 : sumF idx (fun i => w i * t i) = sumF idx (fun i => if decide (1 ≤ t i) then w i else 0) + sumF idx fun i => w i * (t i - 1) := by
        rw [← sumF_add]
        refine sumF_congr fun i _ => ?_
        by_cases h1 : 1 ≤ t i
        · simp only [h1, decide_true, if_true]
          obtain ⟨u, hu⟩ : ∃ u, t i = u + 1 := ⟨t i - 1, by omega⟩
          rw [hu, Nat.mul_add]; simp; omega
        · rw [show t i = 0 by omega]; simp
      rw [e2, e3]
      omega

/-! ### what is chosen leaves room -/
theorem pairsOf_unpack (l : List Bun) : ∀ x y : List Bun, (x ++ y).Perm (pairsOf l) → ∃ t r, (t ++ r).Perm l ∧ t.length = 2 * x.length ∧ (flatB t).Perm (flatB x) := by
  induction l using two_ind with
  | h0 =>
    intro x y h
    have := List.Perm.eq_nil h
    simp at this
    obtain ⟨rfl, rfl⟩ := this
    exact ⟨[], [], .refl _, rfl, .refl _⟩
  | h1 a =>
    intro x y h
    have : x ++ y = [] := List.Perm.eq_nil (by simpa [pairsOf] using h)
    simp at this
    obtain ⟨rfl, rfl⟩ := this
    exact ⟨[], [a], .refl _, rfl, .refl _⟩
  | h2 a b l ih =>
    intro x y h
    simp only [pairsOf] at h
    have hmem : mergeB a b ∈ x ++ y := h.mem_iff.2 (by simp)
    rcases List.mem_append.1 hmem with hx | hy
    · obtain ⟨x', hp⟩ := mem_perm hx
      have h2 : (x' ++ y).Perm (pairsOf l) := ((hp.append_right y).symm.trans h).cons_inv
      obtain ⟨t, r, h3, h4, h5⟩ := ih x' y h2
      refine ⟨a :: b :: t, r, (h3.cons b).cons a, ?_, ?_⟩
      · have := hp.length_eq; simp at this ⊢; omega
      · refine List.Perm.trans ?_ (flatB_perm hp).symm
        simp only [flatB_cons, mergeB, List.append_assoc]
        exact (h5.append_left _).append_left _
    · obtain ⟨y', hp⟩ := mem_perm hy
      have h2 : (x ++ y').Perm (pairsOf l) := by
        have : (mergeB a b :: (x ++ y')).Perm (mergeB a b :: pairsOf l) := (List.perm_middle.symm.trans (hp.append_left x).symm).trans h
        exact this.cons_inv
      obtain ⟨t, r, h3, h4, h5⟩ := ih x y' h2
      refine ⟨t, a :: b :: r, ?_, h4, h5⟩
      refine List.perm_middle.trans ((List.perm_middle.cons a).trans ?_)
      exact (h3.cons b).cons a
theorem Chain.each {w : Int → Nat} {idx : List Int} {j : Nat} {l : List Bun} (h : Chain w idx j l) : ∀ b ∈ l, b.1 = sumF b.2 w ∧ b.2 ≠ [] ∧ ∀ s ∈ b.2, s ∈ idx := by
  induction h with
  | zero => simp
  | @succ j l q h hp hq ih =>
    have hpair : ∀ l : List Bun, (∀ b ∈ l, b.1 = sumF b.2 w ∧ b.2 ≠ [] ∧ ∀ s ∈ b.2, s ∈ idx) → ∀ b ∈ pairsOf l, b.1 = sumF b.2 w ∧ b.2 ≠ [] ∧ ∀ s ∈ b.2, s ∈ idx := by
      intro l
      induction l using two_ind with
      | h0 => intro _ b hb; simp [pairsOf] at hb
      | h1 a => intro _ b hb; simp [pairsOf] at hb
      | h2 a b l ih =>
        intro hl c hc
        simp only [pairsOf, List.mem_cons] at hc
        rcases hc with rfl | hc
        · have ha := hl a (by simp)
          have hb := hl b (by simp)
          refine ⟨?_, ?_, ?_⟩
          · simp only [mergeB, sumF_append, ← ha.1, ← hb.1]
          · simp [mergeB, ha.2.1]
          · intro s hs
            simp only [mergeB, List.mem_append] at hs
            rcases hs with hs | hs
            · exact ha.2.2 s hs
            · exact hb.2.2 s hs
        · exact ih (fun x hx => hl x (by simp [hx])) c hc
    intro b hb
    rcases List.mem_append.1 (hp.mem_iff.1 hb) with hb | hb
    · simp only [singlesOf, List.mem_map] at hb
      obtain ⟨i, hi, rfl⟩ := hb
      exact ⟨by simp [single1, sumF], by simp [single1], by simpa [single1] using hi⟩
    · exact hpair l ih b hb
theorem pairs_long {w : Int → Nat} {idx : List Int} {l : List Bun} (h : ∀ b ∈ l, b.2 ≠ []) : ∀ b ∈ pairsOf l, 2 ≤ b.2.length := by
  induction l using two_ind with
  | h0 => intro b hb; simp [pairsOf] at hb
  | h1 a => intro b hb; simp [pairsOf] at hb
  | h2 a b l ih =>
    intro c hc
    simp only [pairsOf, List.mem_cons] at hc
    rcases hc with rfl | hc
    · have h1 := List.length_pos_iff.2 (h a (by simp))
      have h2 := List.length_pos_iff.2 (h b (by simp))
      simp [mergeB]; omega
    · exact ih (fun x hx => h x (by simp [hx])) c hc
/-- Over symbols that are apart, the symbols of a list by their counts. -/
theorem sum_counts {idx f : List Int} (hn : idx.Nodup) (w : Int → Nat) (hf : ∀ s ∈ f, s ∈ idx) : sumF f w = sumF idx fun i => w i * f.count i := by
  induction f with
  | nil => simp only [List.count_nil, Nat.mul_zero]; rw [sumF_const]; simp [sumF]
  | cons s f ih =>
    rw [sumF_cons, ih fun x hx => hf x (by simp [hx])]
    have key : ∀ idx : List Int, idx.Nodup → s ∈ idx → sumF idx (fun i => w i * (s :: f).count i) = w s + sumF idx fun i => w i * f.count i := by
      intro idx
      induction idx with
      | nil => intro _ h; cases h
      | cons i idx ih2 =>
        intro hn hs
        obtain ⟨h1, h2⟩ := List.nodup_cons.1 hn
        rw [sumF_cons, sumF_cons]
        by_cases e : s = i
        · subst e
          have : sumF idx (fun i => w i * (s :: f).count i) = sumF idx fun i => w i * f.count i := sumF_congr fun x hx => by
            rw [List.count_cons_of_ne (by rintro rfl; exact h1 hx)]
          rw [this, List.count_cons_self, Nat.mul_add]; omega
        · rw [ih2 h2 (by simpa [e] using hs), List.count_cons_of_ne e]; omega
    rw [key idx hn (hf s (by simp))]
theorem flat_single (w : Int → Nat) (idx : List Int) : flatB (singlesOf w idx) = idx := by
  induction idx with
  | nil => rfl
  | cons i idx ih => simp only [singlesOf, List.map_cons, flatB_cons, single1] at ih ⊢; simp [ih]
theorem Chain.room {w : Int → Nat} {idx : List Int} (hn : idx.Nodup) {j : Nat} {l : List Bun} (h : Chain w idx j l) : j ≤ 16 → ∀ t r : List Bun, (t ++ r).Perm l → (∀ i ∈ idx, (flatB t).count i ≤ j) ∧ t.length * 65536 ≤ sumF idx fun i => wid ((flatB t).count i) := by
  induction h with
  | zero =>
    intro _ t r h
    have := List.Perm.eq_nil h
    simp at this
    obtain ⟨rfl, rfl⟩ := this
    exact ⟨by simp [flatB], by simp⟩
  | @succ j l q h hp hq ih =>
    intro hj t r htr
    have hlong := pairs_long (w := w) (idx := idx) fun b hb => (h.each b hb).2.1
    have hall : (t ++ r).Perm (singlesOf w idx ++ pairsOf l) := htr.trans hp
    have f1 : (singlesOf w idx).filter (fun b => b.2.length == 1) = singlesOf w idx := List.filter_eq_self.2 fun b hb => by
      simp only [singlesOf, List.mem_map] at hb; obtain ⟨i, _, rfl⟩ := hb; rfl
    have f2 : (pairsOf l).filter (fun b => b.2.length == 1) = [] := List.filter_eq_nil_iff.2 fun b hb => by have := hlong b hb; simp; omega
    have f3 : (singlesOf w idx).filter (fun b => !(b.2.length == 1)) = [] := List.filter_eq_nil_iff.2 fun b hb => by
      simp only [singlesOf, List.mem_map] at hb; obtain ⟨i, _, rfl⟩ := hb; simp [single1]
    have f4 : (pairsOf l).filter (fun b => !(b.2.length == 1)) = pairsOf l := List.filter_eq_self.2 fun b hb => by have := hlong b hb; simp; omega
    have hs := hall.filter (fun b => b.2.length == 1)
    have hpr := hall.filter (fun b => !(b.2.length == 1))
    rw [List.filter_append, List.filter_append, f1, f2, List.append_nil] at hs
    rw [List.filter_append, List.filter_append, f3, f4, List.nil_append] at hpr
    obtain ⟨t', r', g1, g2, g3⟩ := pairsOf_unpack l _ _ hpr
    obtain ⟨i1, i2⟩ := ih (by omega) t' r' g1
    have hcnt : ∀ i, (flatB t).count i = (flatB (t.filter fun b => b.2.length == 1)).count i + (flatB t').count i := by
      intro i
      rw [(flatB_perm (perm_filter (fun b : Bun => b.2.length == 1) t)).symm.count_eq i, flatB_append, List.count_append, g3.count_eq i]
    have hle : ∀ i, (flatB (t.filter fun b => b.2.length == 1)).count i ≤ 1 := by
      intro i
      have h1 := (flatB_perm hs).count_eq i
      rw [flatB_append, List.count_append, flat_single] at h1
      have h2 := List.nodup_iff_count.1 hn i
      omega
    have hlen : (t.filter fun b => b.2.length == 1).length = sumF idx fun i => (flatB (t.filter fun b => b.2.length == 1)).count i := by
      have h1 : ∀ s ∈ flatB (t.filter fun b => b.2.length == 1), s ∈ idx := by
        intro s hs'
        have := (flatB_perm hs).mem_iff (a := s)
        rw [flatB_append, flat_single] at this
        exact this.1 (List.mem_append_left _ hs')
      have h2 := sum_counts hn (fun _ => 1) h1
      rw [sumF_const] at h2
      simp only [Nat.one_mul] at h2
      rw [← h2]
      have : ∀ m : List Bun, (∀ b ∈ m, b.2.length = 1) → m.length = (flatB m).length := by
        intro m
        induction m with
        | nil => intro _; rfl
        | cons b m ih3 => intro hm; rw [flatB_cons, List.length_append, ← ih3 fun x hx => hm x (by simp [hx]), hm b (by simp)]; simp; omega
      exact this _ fun b hb => by simpa using (List.mem_filter.1 hb).2
    refine ⟨fun i hi => by rw [hcnt]; have := hle i; have := i1 i hi; omega, ?_⟩
    have hsum : 131072 * (t.filter fun b => b.2.length == 1).length + t'.length * 65536 ≤ 2 * sumF idx fun i => wid ((flatB t).count i) := by
      rw [hlen, ← sumF_mul, ← sumF_mul]
      refine Nat.le_trans (Nat.add_le_add_left i2 _) ?_
      rw [← sumF_add]
      refine sumF_le fun i hi => ?_
      rw [hcnt]
      have h1 := hle i
      have h2 := i1 i hi
      rcases Nat.eq_zero_or_pos ((flatB (t.filter fun b => b.2.length == 1)).count i) with h3 | h3
      · rw [h3]; simp; omega
      · rw [show (flatB (t.filter fun b => b.2.length == 1)).count i = 1 by omega]
        have := wid_succ (t := (flatB t').count i) (by omega)
        rw [Nat.add_comm 1, this]
        omega
    have hl2 := (perm_filter (fun b : Bun => b.2.length == 1) t).length_eq
    rw [List.length_append] at hl2
    clear i2 ih hlen
    generalize sumF idx (fun i => wid ((flatB t).count i)) = X at hsum ⊢
    omega

/-- Lengths that leave room. -/
def Room (idx : List Int) (t : Int → Nat) : Prop := (∀ i ∈ idx, t i ≤ 16) ∧ sumF idx (fun i => 2 ^ (16 - t i)) ≤ 65536
theorem wid_pow {t : Nat} (h : t ≤ 16) : wid t + 2 * 2 ^ (16 - t) = 131072 := by
  have e : 2 ^ (17 - t) = 2 * 2 ^ (16 - t) := by rw [show 17 - t = (16 - t) + 1 by omega, Nat.pow_succ]; omega
  have h1 : 2 ^ (17 - t) ≤ 2 ^ 17 := Nat.pow_le_pow_right (by omega) (by omega)
  have : 2 ^ 17 = 131072 := by decide
  unfold wid
  omega
theorem sum_wid {idx : List Int} {t : Int → Nat} (h : ∀ i ∈ idx, t i ≤ 16) : sumF idx (fun i => wid (t i)) + 2 * sumF idx (fun i => 2 ^ (16 - t i)) = 131072 * idx.length := by
  rw [← sumF_mul, ← sumF_add, ← sumF_const]
  exact sumF_congr fun i hi => wid_pow (h i hi)
/-- The lengths that sixteen rounds give: they leave room, and none that leave room cost less. -/
theorem Chain.best {w : Int → Nat} {idx : List Int} (hn : idx.Nodup) (h0 : 1 ≤ idx.length) (h256 : idx.length ≤ 512) {l : List Bun} (h : Chain w idx 16 l) :
    2 * idx.length - 2 ≤ l.length ∧ Room idx (fun i => (flatB (l.take (2 * idx.length - 2))).count i) ∧
    ∀ t, Room idx t → sumF idx (fun i => w i * (flatB (l.take (2 * idx.length - 2))).count i) ≤ sumF idx fun i => w i * t i := by
  obtain ⟨N, hN⟩ : ∃ N, N = idx.length := ⟨_, rfl⟩
  have hlen : 2 * idx.length - 2 ≤ l.length := by
    refine (h.least (Nat.le_refl _) (fun _ => 9) (2 * idx.length - 2) (fun i _ => by omega) ?_).1
    rw [sumF_const, show wid 9 = 130816 by decide]
    omega
  have hroom := h.room hn (Nat.le_refl _) (l.take (2 * idx.length - 2)) (l.drop (2 * idx.length - 2)) (by rw [List.take_append_drop])
  have hT : (l.take (2 * idx.length - 2)).length = 2 * idx.length - 2 := by rw [List.length_take]; omega
  refine ⟨hlen, ⟨hroom.1, ?_⟩, fun t ht => ?_⟩
  · have h1 := sum_wid (t := fun i => (flatB (l.take (2 * idx.length - 2))).count i) hroom.1
    have h2 := hroom.2
    rw [hT] at h2
    generalize sumF idx (fun i => wid ((flatB (l.take (2 * idx.length - 2))).count i)) = X at h1 h2
    generalize sumF idx (fun i => 2 ^ (16 - (flatB (l.take (2 * idx.length - 2))).count i)) = Y at h1 ⊢
    omega
  · have h1 := sum_wid ht.1
    have h2 := ht.2
    have h5 : (2 * idx.length - 2) * 65536 ≤ sumF idx (fun i => wid (t i)) := by
      generalize sumF idx (fun i => wid (t i)) = X at h1 ⊢
      generalize sumF idx (fun i => 2 ^ (16 - t i)) = Y at h1 h2
      omega
    have h3 := (h.least (Nat.le_refl _) t (2 * idx.length - 2) ht.1 h5).2
    refine Nat.le_trans (Nat.le_of_eq ?_) h3
    have h4 : ∀ s ∈ flatB (l.take (2 * idx.length - 2)), s ∈ idx := by
      intro s hs
      simp only [flatB, List.mem_flatMap] at hs
      obtain ⟨b, hb, hs⟩ := hs
      exact (h.each b (List.mem_of_mem_take hb)).2.2 s hs
    rw [← sum_counts hn w h4]
    have : ∀ m : List Bun, (∀ b ∈ m, b.1 = sumF b.2 w) → sumF (flatB m) w = sumC m := by
      intro m
      induction m with
      | nil => intro _; rfl
      | cons b m ih => intro hm; rw [flatB_cons, sumF_append, sumC_cons, ih fun x hx => hm x (by simp [hx]), ← hm b (by simp)]
    exact this _ fun b hb => (h.each b (List.mem_of_mem_take hb)).1
end Go.Proofs.Ytddkhkpdbjjboaa
