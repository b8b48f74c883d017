/- Texts shared by the claims of this seat, in one. -/
import Derived.Test.YtgajlplmpbaanaaBd1
import Derived.BigQuiet
import Derived.StillTailTactics
import Derived.Test.YtgajlplmpbaanaaRows
import Derived.ProofKit
import Derived.OpenShut
import Derived.ChangeSame
import Derived.Deep.Slices
import Derived.SizedLaws
import Derived.ShutString
import Derived.ChangeOld
import Derived.JoinedCond
import Derived.Deep.SlicePairs
import Derived.Deep.Fields
/- plane.Cut: its contract. -/
namespace Go.Proofs.Ytgajlplmpbaanaa
open Go.RowKit
set_option linter.unusedVariables false
set_option linter.unusedSimpArgs false
set_option maxRecDepth 100000

theorem made_cut (n : Nat) : madeCells (Value.agg zeroB.toArray).cells (n * 64) = (ints .i64 (List.replicate (n * 64) 0)).toArray := by
  rw [show ints .i64 (List.replicate (n * 64) 0) = List.replicate (n * 64) (.int .i64 0) by simp [ints]]
  apply Array.ext
  · simp [madeCells]
  · intro i h1 h2
    have hz : ∀ j, j < 64 → zeroB[j]? = some (.int .i64 0) := by
      intro j hj
      show (ints .i64 (List.replicate 64 0))[j]? = _
      exact ints_at (List.getElem?_replicate.trans (if_pos hj))
    have h3 := hz (i % 64) (Nat.mod_lt _ (by omega))
    have hl : (zeroB.toArray).size = 64 := by simp [zeroB_length]
    simp only [madeCells, Value.cells, Array.getElem_map, Array.getElem_range, hl, List.getElem_toArray, List.getElem_replicate]
    rw [getElem!_def]
    simp [h3]
theorem run_make_cut (n : Nat) (h : n ≤ 1000000) (u : World) : (Instr.makeSlice 23 (.int .i64 (n : Int)) (.int .i64 (n : Int))).run Try.prog u =
    .ok (.slice (some ⟨u.heap.size, 0, none⟩) n n) (u.alloc (.cells (ints .i64 (List.replicate (n * 64) 0)).toArray 31)) := by
  obtain ⟨i0, hi, hz0, hz1, hz2⟩ := info_parts info_blk3
  have h := run_make (P := Try.prog) u 23 31 i0 (.agg zeroB.toArray) Try.underlying23 hi hz0 .i64 .i64 n n (by omega) (by omega) (by rw [hz2]; omega) (by omega)
  rw [h, hz1]
  simp only [Int.toNat_natCast]
  rw [made_cut]
/-- The numbers of all blocks, one behind another. -/
def cutF (l : List Int) (W H j : Nat) : Int := cellAt l W H (8 * (j / 64 / acrossN W)) (8 * (j / 64 % acrossN W)) (j % 64)
theorem cutF_rows (l : List Int) (W H : Nat) : rowsC (cutL l W H) = ints .i64 ((List.range (manyN W H * 64)).map (cutF l W H)) := by
  have hr : ∀ r ∈ cutL l W H, r.length = 64 := cutK_rows
  have hl : (rowsC (cutL l W H)).length = manyN W H * 64 := by rw [rowsC_length hr, cutL_length]
  apply List.ext_getElem?
  intro t
  by_cases ht : t < manyN W H * 64
  · have h1 : t / 64 < manyN W H := by omega
    have h2 := rowsC_at hr (cutL_get (l := l) h1) (show t % 64 < 64 by omega)
    rw [show t / 64 * 64 + t % 64 = t by omega] at h2
    rw [h2, ints_at (blockAt_get (by omega))]
    refine (ints_at ?_).symm
    rw [List.getElem?_map, List.getElem?_range ht]
    rfl
  · rw [List.getElem?_eq_none (by omega), List.getElem?_eq_none (by rw [ints_length]; simp; omega)]
set_option maxRecDepth 100000 in
set_option maxHeartbeats 2000000 in
theorem plCut_any : PCutSpec := by
  intro l A c G x y w hs hlb hl hcap hx hy hG
  obtain ⟨E, hE⟩ : ∃ E, E = eCut l x y := ⟨_, rfl⟩
  obtain ⟨O, hO⟩ : ∃ O, O = oCut l x y := ⟨_, rfl⟩
  rw [← hE, ← hO]
  have HE := veil hE; have HO := veil hO
  have HOe : Hid (E ≠ 0 → O = []) := by show _ → _; intro h; rw [hO]; exact if_neg (by rw [← hE]; exact h)
  have HOk : Hid (E = 0 → O = cutL l x.toNat y.toNat) := by show _ → _; intro h; rw [hO]; exact if_pos (by rw [← hE]; exact h)
  have HMa := veil (plMany_still x y w)
  have hempty : ∀ w', Below w.heap.size w w' → Owns w.heap.size [blkRow (.slice none 0 0) []] w' := fun w' h => (Owns.nil h.size).fresh _ _
  have Hempty := veil hempty
  clear hE hO hempty hlb hx hy
  unfold maxLen at hl
  go_enter Try.func9, Try.ntmps9
  go_wp2_with fail
  refine HMa.out.mono ?_
  rintro e wq ⟨rfl, hwq⟩
  obtain rfl : w = wq := hwq.symm
  clear hwq HMa
  by_cases hbad : badWH x y
  · have hE1 := HE.out.trans (eCut_bad hbad)
    have hO1 := HOe.out (by rw [hE1]; decide)
    have e1 : eSides x y = 1 := if_pos hbad
    rw [e1]
    subst hO1
    have HE1 := veil hE1
    clear hE1 e1 hbad
    go_wp2_with fail
    go_ret2
    exact ⟨_, ret_two rfl (by rw [HE1.out]; rfl), Hempty.out _ (Below.refl _ _), Below.refl _ _⟩
  · have e1 : eSides x y = 0 := if_neg hbad
    have e2 : oMany x y = (manyN x.toNat y.toNat : Nat) := if_neg hbad
    rw [e1, e2]
    have hb' := hbad
    unfold badWH at hb'
    obtain ⟨W, hW⟩ : ∃ W : Nat, x = (W : Int) := ⟨x.toNat, by omega⟩
    obtain ⟨H, hH⟩ : ∃ H : Nat, y = (H : Int) := ⟨y.toNat, by omega⟩
    subst hW hH
    rw [Int.toNat_natCast, Int.toNat_natCast] at HOk
    rw [Int.toNat_natCast, Int.toNat_natCast]
    have hW1 : 1 ≤ W ∧ W ≤ 64 := by omega
    have hH1 : 1 ≤ H ∧ H ≤ 64 := by omega
    have hM64 := many_le hW1.2 hH1.2
    obtain ⟨M, hM⟩ : ∃ M, M = manyN W H := ⟨_, rfl⟩
    rw [← hM] at hM64 ⊢
    have HM := veil hM
    obtain ⟨N, hN⟩ : ∃ N, N = W * H := ⟨_, rfl⟩
    have hN64 : N ≤ 4096 := by rw [hN]; exact Nat.mul_le_mul hW1.2 hH1.2
    have hNz : (W : Int) * (H : Int) = (N : Int) := by rw [hN]; simp
    have HN := veil hN
    have Hbad : Hid (¬ badWH (W : Int) (H : Int)) := hbad
    clear hN hM e1 e2 hb' hbad
    by_cases hlen : l.length = N
    · have hlz : ((l.length : Int) != (N : Int)) = false := by simp; omega
      have HE2 := veil (HE.out.trans (eCut_in Hbad.out (by rw [hlen, hNz])))
      have Hlen := veil hlen
      have hl4 : l.length ≤ 4096 := by omega
      have HC := veil (plAll_any l A c G 0 255 w hs (by omega) hG)
      clear hlen HE HO
      go_wp2_with fail
      refine HC.out.mono ?_
      rintro e w1 ⟨rfl, hb1⟩
      clear HC
      cases hin : inB 0 255 l with
      | false =>
        have hE1 := HE2.out
        rw [if_neg (by rw [hin]; decide)] at hE1
        have hO1 := HOe.out (by rw [hE1]; decide)
        subst hO1
        have HE1 := veil hE1
        clear hE1 hin
        have HB1 := veil hb1
        go_wp2_with fail
        go_ret2
        exact ⟨_, ret_two rfl (by rw [HE1.out]; rfl), Hempty.out _ HB1.out, HB1.out⟩
      | true =>
        have hE0 := HE2.out
        rw [if_pos hin] at hE0
        have hOc := HOk.out hE0
        have HE0 := veil hE0; have HOc := veil hOc; have Hin := veil hin
        clear hE0 hOc hin HE2 HOk HOe Hbad hlz
        have hmk := run_make_cut M (by omega) w1
        obtain ⟨g0, hg0⟩ : ∃ g0, g0 = w1.heap.size := ⟨_, rfl⟩
        have HK0 : Hid (Blk (w1.alloc (.cells (ints .i64 (List.replicate (M * 64) 0)).toArray 31)) g0 (ints .i64 (fillP (cutF l W H) (M * 64) (64 * 0))) 31) := veil (by rw [Nat.mul_zero, fillP_0, hg0]; exact Blk.new ..)
        have hgw : w.heap.size ≤ g0 := by rw [hg0]; exact hb1.size
        have HB1 := veil (hb1.alloc hb1.size (.cells (ints .i64 (List.replicate (M * 64) 0)).toArray 31))
        obtain ⟨W1, hW1'⟩ : ∃ W1, W1 = w1.alloc (.cells (ints .i64 (List.replicate (M * 64) 0)).toArray 31) := ⟨_, rfl⟩
        rw [← hW1'] at HK0 HB1 hmk
        rw [← hg0] at hmk
        clear hW1' hg0 hb1
        obtain ⟨P, hP⟩ : ∃ P, P = acrossN W := ⟨_, rfl⟩
        have hP8 : 1 ≤ P ∧ P ≤ 8 := by rw [hP]; unfold acrossN; omega
        have HP := veil hP
        have HAl := veil (fun W' => along_any W hW1.2 W')
        rw [← hP] at HAl
        have zP0 : ((P : Int) == 0) = false := by rw [beq_eq_false_iff_ne]; omega
        clear hP
        go_wp2_with fail
        clear hmk
        go_loopg [11, 12, 13, 14, 15, 16, 39] M (fun gk v11 v12 v13 v14 v15 v16 iv wr => ∃ k : Nat, gk = M - k ∧ k ≤ M ∧ iv = .int .i64 (k : Int) ∧ Hid (Blk wr g0 (ints .i64 (fillP (cutF l W H) (M * 64) (64 * k))) 31) ∧ Hid (Below w.heap.size w wr))
        case atStart => exact ⟨0, rfl, Nat.zero_le _, rfl, HK0, HB1⟩
        case round =>
          clear HK0 HB1
          obtain ⟨k, rfl, hk, rfl, HK, HB⟩ := hrel
          by_cases hkt : k < M
          · have hkz : (k : Int) < (M : Int) := by omega
            obtain ⟨a, ha⟩ : ∃ a : Nat, a = k / P := ⟨_, rfl⟩
            obtain ⟨b, hb⟩ : ∃ b : Nat, b = k % P := ⟨_, rfl⟩
            obtain ⟨m, hm⟩ : ∃ m : Nat, m = 8 * a := ⟨_, rfl⟩
            obtain ⟨n, hn⟩ : ∃ n : Nat, n = 8 * b := ⟨_, rfl⟩
            have za : (k : Int) / (P : Int) = (a : Int) := by rw [ha]; simp
            have za2 : (k : Int).tdiv (P : Int) = (a : Int) := by rw [Int.tdiv_eq_ediv_of_nonneg (by omega)]; exact za
            have zb : (k : Int) % (P : Int) = (b : Int) := by rw [hb]; simp
            have zb2 : (k : Int).tmod (P : Int) = (b : Int) := by rw [Int.tmod_eq_emod_of_nonneg (by omega)]; exact zb
            have hb8 : b < 8 := by have : b < P := by rw [hb]; exact Nat.mod_lt _ (by omega)
                                   omega
            have ha64 : a ≤ k := by rw [ha]; exact Nat.div_le_self _ _
            have zm : 8 * (a : Int) = (m : Int) := by omega
            have zn : 8 * (b : Int) = (n : Int) := by omega
            have hmn : m ≤ 512 ∧ n ≤ 64 := by omega
            have HF : Hid (∀ i, i < 64 → cutF l W H (64 * k + i) = cellAt l W H m n i) := veil fun i hi => by
              unfold cutF
              rw [show (64 * k + i) / 64 = k by omega, show (64 * k + i) % 64 = i by omega, ← HP.out, ← ha, ← hb, hm, hn]
            clear ha hb hm hn
            go_wp2_with fail
            go_quiet (first | (go_at_call 21; with_reducible exact Calls.quiet_of_same (HAl.out _)) | fail)
            have HBd : Hid (Below w.heap.size w (wr.drewN nq)) := HB.out.drewN nq
            have HKd : Hid (Blk (wr.drewN nq) g0 (ints .i64 (fillP (cutF l W H) (M * 64) (64 * k + 0))) 31) := HK.out.drewN nq
            obtain ⟨W2, hW2⟩ : ∃ W2, W2 = wr.drewN nq := ⟨_, rfl⟩
            rw [← hW2] at HBd HKd ⊢
            clear hW2 HK HB za za2 zb zb2
            go_wp2_with fail
            go_loopg [14, 15, 16, 52] 64 (fun gk v14 v15 v16 iv wr => ∃ i : Nat, gk = 64 - i ∧ i ≤ 64 ∧ iv = .int .i64 (i : Int) ∧ Hid (Blk wr g0 (ints .i64 (fillP (cutF l W H) (M * 64) (64 * k + i))) 31) ∧ Hid (Below w.heap.size w wr))
            case atStart => exact ⟨0, rfl, Nat.zero_le _, rfl, HKd, HBd⟩
            case round =>
              clear HKd HBd
              obtain ⟨i, rfl, hi, rfl, HK, HB⟩ := hrel
              by_cases hit : i < 64
              · have hiz : (i : Int) < 64 := by omega
                obtain ⟨q, hq⟩ : ∃ q : Nat, q = i / 8 := ⟨_, rfl⟩
                obtain ⟨r, hr⟩ : ∃ r : Nat, r = i % 8 := ⟨_, rfl⟩
                obtain ⟨r1, hr1⟩ : ∃ r1 : Nat, r1 = min (m + q) (H - 1) := ⟨_, rfl⟩
                obtain ⟨c1, hc1⟩ : ∃ c1 : Nat, c1 = min (n + r) (W - 1) := ⟨_, rfl⟩
                have hix : W * r1 + c1 < N := by rw [hr1, hc1, HN.out]; exact idx_lt (by omega) (by omega)
                obtain ⟨p1, hp1⟩ : ∃ p1 : Nat, p1 = W * r1 := ⟨_, rfl⟩
                obtain ⟨j, hj⟩ : ∃ j : Nat, j = p1 + c1 := ⟨_, rfl⟩
                have hjl : j < l.length := by have := Hlen.out; omega
                have hs6 := hs.below HB.out hG
                obtain ⟨g, o, v, rfl, hg, hx, hcx⟩ := hs6.int hjl
                have hvi : 0 ≤ v ∧ v ≤ 255 := inB_at Hin.out hx
                have hcell : cutF l W H (64 * k + i) = v - 128 := by
                  rw [HF.out i hit]
                  unfold cellAt
                  rw [← hq, ← hr, ← hr1, ← hc1, ← hp1, ← hj, getD_of hx]
                have hti : 64 * k + i < M * 64 := by omega
                obtain ⟨t, ht⟩ : ∃ t : Nat, t = 64 * k + i := ⟨_, rfl⟩
                have hcx2 : wr.drew.cell? ⟨g, o + j, none⟩ = some (.int .i64 v) := hcx
                obtain ⟨y0, hy0⟩ : ∃ y0, (fillP (cutF l W H) (M * 64) (64 * k + i))[64 * k + i]? = some y0 := ⟨_, fillP_at hti⟩
                have hcy : wr.drew.cell? ⟨g0, k * 64 + i, none⟩ = some (.int .i64 y0) := by
                  rw [show k * 64 + i = 64 * k + i by omega]
                  exact HK.out.cell (ints_at hy0)
                have hfy : wr.drew.frozen? ⟨g0, k * 64 + i, none⟩ = false := HK.out.frozen _
                have HK5 : Hid (Blk (wr.drew.setCell ⟨g0, k * 64 + i, none⟩ (.int .i64 (v - 128))) g0 (ints .i64 (fillP (cutF l W H) (M * 64) (64 * k + (i + 1)))) 31) := veil (by
                  have := HK.out.set (64 * k + i) (.int .i64 (v - 128))
                  rw [show (ints .i64 (fillP (cutF l W H) (M * 64) (64 * k + i))).set (64 * k + i) (.int .i64 (v - 128)) = ints .i64 ((fillP (cutF l W H) (M * 64) (64 * k + i)).set (64 * k + i) (v - 128)) by simp [ints, List.map_set], ← hcell, fillP_next hti, hcell] at this
                  rw [show k * 64 + i = 64 * k + i by omega]
                  exact this)
                have HB5 : Hid (Below w.heap.size w (wr.drew.setCell ⟨g0, k * 64 + i, none⟩ (.int .i64 (v - 128)))) := veil (HB.out.drew.setCell (by simpa using hgw) _)
                have zq : (i : Int) / 8 = (q : Int) := by omega
                have zr : (i : Int) % 8 = (r : Int) := by omega
                obtain ⟨e1, he1⟩ : ∃ e1 : Nat, e1 = m + q := ⟨_, rfl⟩
                obtain ⟨e2, he2⟩ : ∃ e2 : Nat, e2 = n + r := ⟨_, rfl⟩
                obtain ⟨h1, hh1⟩ : ∃ h1 : Nat, h1 = H - 1 := ⟨_, rfl⟩
                obtain ⟨w1, hw1⟩ : ∃ w1 : Nat, w1 = W - 1 := ⟨_, rfl⟩
                have z1 : (m : Int) + (q : Int) = (e1 : Int) := by omega
                have z2 : (n : Int) + (r : Int) = (e2 : Int) := by omega
                have z3 : (H : Int) - 1 = (h1 : Int) := by omega
                have z4 : (W : Int) - 1 = (w1 : Int) := by omega
                have z5 : ((h1 : Int) < (e1 : Int) ∧ h1 = r1) ∨ (¬ (h1 : Int) < (e1 : Int) ∧ e1 = r1) := by omega
                have z6 : ((w1 : Int) < (e2 : Int) ∧ w1 = c1) ∨ (¬ (w1 : Int) < (e2 : Int) ∧ e2 = c1) := by omega
                have z7 : (r1 : Int) * (W : Int) = (p1 : Int) := by rw [hp1, Nat.mul_comm]; simp
                have z8 : (p1 : Int) + (c1 : Int) = (j : Int) := by omega
                have b1 : q < 8 ∧ r < 8 ∧ e1 < 600 ∧ e2 < 80 ∧ h1 < 64 ∧ w1 < 64 ∧ r1 < 64 ∧ c1 < 64 ∧ p1 ≤ 4096 ∧ j < 4096 := by omega
                have hjz : (j : Int) < (l.length : Int) := by omega
                have y1 : IntKind.i64.wrap (p1 : Int) = (p1 : Int) := by rw [IntKind.wrap_i64]; omega
                have y2 : IntKind.i64.wrap (j : Int) = (j : Int) := by rw [IntKind.wrap_i64]; omega
                have y3 : IntKind.i64.wrap (v - 128) = v - 128 := by rw [IntKind.wrap_i64]; omega
                clear hy0 HK HB hx hcell hq hr hr1 hc1 hix hp1 hj he1 he2 hh1 hw1 hs6 ht hti
                rcases z5 with ⟨z5, rfl⟩ | ⟨z5, rfl⟩ <;> rcases z6 with ⟨z6, rfl⟩ | ⟨z6, rfl⟩
                all_goals
                  go_wp2_with fail
                  go_still_tail 14, (by kernel_rfl)
                  repeat still_step
                  try refine wpStill_nil ?_
                  change wpList _ _ _ _ _ wr.drew
                  go_wp2_with fail
                  go_roundg (64 - (i + 1))
                  case rel => exact ⟨i + 1, rfl, by omega, by go_num, HK5, HB5⟩
                  case measure => omega
              · obtain rfl : i = 64 := by omega
                have HK2 : Hid (Blk wr g0 (ints .i64 (fillP (cutF l W H) (M * 64) (64 * (k + 1)))) 31) := HK
                have HB2 := HB
                clear HK HB
                go_wp2_with fail
                go_roundg (M - (k + 1))
                case rel => exact ⟨k + 1, rfl, by omega, by go_num, HK2, HB2⟩
                case measure => omega
          · obtain rfl : M = k := by omega
            have hkz : ¬ (M : Int) < (M : Int) := by omega
            have HO3 : Hid (Owns w.heap.size [blkRow (.slice (some ⟨g0, 0, none⟩) M M) O] wr) := veil (by
              have h := HK.out
              rw [show 64 * M = M * 64 from Nat.mul_comm .., fillP_all] at h
              have hOl : O.length = M := by rw [HOc.out, cutL_length, HM.out]
              have hr : rowsC O = ints .i64 ((List.range (M * 64)).map (cutF l W H)) := by rw [HOc.out, cutF_rows, HM.out]
              rw [← hr] at h
              have hrl : (rowsC O).length = M * 64 := by rw [hr, ints_length]; simp
              have := Owns.ofBlk (n := M) (size := 64) h hgw hrl (by unfold maxLen; omega)
              show Owns _ [⟨31, 64, _, O.length, rowsC O⟩] _
              rw [hOl]; exact this)
            have HE1 := HE0
            clear HK
            go_wp2_with fail
            go_ret2
            exact ⟨_, ret_two rfl (by rw [HE1.out]; rfl), HO3.out, HB.out⟩
    · have hlz : ((l.length : Int) != (N : Int)) = true := by simp; omega
      have hE1 := HE.out.trans (eCut_len Hbad.out (by rw [hNz]; omega))
      have hO1 := HOe.out (by rw [hE1]; decide)
      subst hO1
      have HE1 := veil hE1
      clear hE1 hlen
      go_wp2_with fail
      go_ret2
      exact ⟨_, ret_two rfl (by rw [HE1.out]; rfl), Hempty.out _ (Below.refl _ _), Below.refl _ _⟩
end Go.Proofs.Ytgajlplmpbaanaa

/- plane.sample and plane.Join: their contracts. -/
namespace Go.Proofs.Ytgajlplmpbaanaa
open Go.RowKit
set_option linter.unusedVariables false
set_option linter.unusedSimpArgs false
set_option maxRecDepth 100000

theorem plSample_any (n : Int) (h : -40000 ≤ n ∧ n ≤ 40000) (w : World) : Calls Try.prog 24 #[.int .i64 n] w fun e w' => e = .returned (.int .i64 (clampZ (n + 128) 0 255)) ∧ w' = w := by
  obtain ⟨s, hs⟩ : ∃ s, s = n + 128 := ⟨_, rfl⟩
  obtain ⟨R, hR⟩ : ∃ R, R = clampZ s 0 255 := ⟨_, rfl⟩
  rw [← hs, ← hR]
  have zs : n + 128 = s := hs.symm
  have hb : -39872 ≤ s ∧ s ≤ 40128 := by omega
  unfold clampZ at hR
  have hc : (s < 0 ∧ R = 0) ∨ (¬ s < 0 ∧ 255 < s ∧ R = 255) ∨ (¬ s < 0 ∧ ¬ 255 < s ∧ R = s) := by
    by_cases h1 : s < 0
    · rw [if_pos h1] at hR; exact .inl ⟨h1, hR⟩
    · rw [if_neg h1] at hR
      by_cases h2 : 255 < s
      · rw [if_pos h2] at hR; exact .inr (.inl ⟨h1, h2, hR⟩)
      · rw [if_neg h2] at hR; exact .inr (.inr ⟨h1, h2, hR⟩)
  clear hR hs
  rcases hc with ⟨h1, rfl⟩ | ⟨h1, h2, rfl⟩ | ⟨h1, h2, rfl⟩
  all_goals
    go_enter Try.func24, Try.ntmps24
    go_wp2
    all_goals first
      | (exfalso; omega)
      | (go_ret; exact ⟨retI (by omega), rfl⟩)
theorem run_make_join (n : Nat) (h : n ≤ 1099511627776) (u : World) : (Instr.makeSlice 22 (.int .i64 (n : Int)) (.int .i64 (n : Int))).run Try.prog u =
    .ok (.slice (some ⟨u.heap.size, 0, none⟩) n n) (u.alloc (.cells (ints .i64 (List.replicate n 0)).toArray 3)) := by
  obtain ⟨i0, hi, hz0, hz1, hz2⟩ := info_parts (show (Try.prog.info? 3).map (fun i => (i.zero, i.size, i.bytes)) = some (some (.int .i64 0), 1, 8) by kernel_rfl)
  have h := run_make (P := Try.prog) u 22 3 i0 (.int .i64 0) Try.underlying22 hi hz0 .i64 .i64 n n (by omega) (by omega) (by rw [hz2]; omega) (by omega)
  have e : madeCells #[Value.int .i64 0] n = (ints .i64 (List.replicate n 0)).toArray := by
    apply Array.ext'
    rw [toList_madeCells_one]
    simp [ints]
  rw [← e]
  simpa [hz1, Value.cells] using h
set_option maxRecDepth 100000 in
set_option maxHeartbeats 2000000 in
theorem plJoin_any : PJoinSpec := by
  intro L A c G x y w hL hLb hs hl hcap hx hy hG
  obtain ⟨E, hE⟩ : ∃ E, E = eJoin L x y := ⟨_, rfl⟩
  obtain ⟨O, hO⟩ : ∃ O, O = oJoin L x y := ⟨_, rfl⟩
  rw [← hE, ← hO]
  have HE := veil hE; have HO := veil hO
  have HOe : Hid (E ≠ 0 → O = []) := by show _ → _; intro h; rw [hO]; exact if_neg (by rw [← hE]; exact h)
  have HOk : Hid (E = 0 → O = joinL L x.toNat y.toNat) := by show _ → _; intro h; rw [hO]; exact if_pos (by rw [← hE]; exact h)
  have HMa := veil (plMany_still x y w)
  have hempty : ∀ w', Below w.heap.size w w' → Owns w.heap.size [intRow 3 .i64 (.slice none 0 0) []] w' := fun w' h => (Owns.nil h.size).fresh _ _
  have Hempty := veil hempty
  clear hE hO hempty hLb hx hy
  unfold maxLen at hl
  go_enter Try.func13, Try.ntmps13
  go_wp2_with fail
  refine HMa.out.mono ?_
  rintro e wq ⟨rfl, hwq⟩
  obtain rfl : w = wq := hwq.symm
  clear hwq HMa
  by_cases hbad : badWH x y
  · have hE1 := HE.out.trans (eJoin_bad hbad)
    have hO1 := HOe.out (by rw [hE1]; decide)
    have e1 : eSides x y = 1 := if_pos hbad
    rw [e1]
    subst hO1
    have HE1 := veil hE1
    clear hE1 e1 hbad
    go_wp2_with fail
    go_ret2
    exact ⟨_, ret_two rfl (by rw [HE1.out]; rfl), Hempty.out _ (Below.refl _ _), Below.refl _ _⟩
  · have e1 : eSides x y = 0 := if_neg hbad
    have e2 : oMany x y = (manyN x.toNat y.toNat : Nat) := if_neg hbad
    rw [e1, e2]
    have hb' := hbad
    unfold badWH at hb'
    obtain ⟨W, hW⟩ : ∃ W : Nat, x = (W : Int) := ⟨x.toNat, by omega⟩
    obtain ⟨H, hH⟩ : ∃ H : Nat, y = (H : Int) := ⟨y.toNat, by omega⟩
    subst hW hH
    rw [Int.toNat_natCast, Int.toNat_natCast] at HOk
    rw [Int.toNat_natCast, Int.toNat_natCast]
    have hW1 : 1 ≤ W ∧ W ≤ 64 := by omega
    have hH1 : 1 ≤ H ∧ H ≤ 64 := by omega
    have HL4 : Hid (L.length ≠ manyN W H → E = 4) := veil fun h => HE.out.trans (eJoin_len hbad (by rw [Int.toNat_natCast, Int.toNat_natCast]; exact h))
    have HL0 : Hid (L.length = manyN W H → E = if (∀ r ∈ L, inB (-40000) 40000 r = true) then 0 else 1) := veil fun h => HE.out.trans (eJoin_in hbad (by rw [Int.toNat_natCast, Int.toNat_natCast]; exact h))
    have hN64 := many_le hW1.2 hH1.2
    obtain ⟨N, hN⟩ : ∃ N, N = manyN W H := ⟨_, rfl⟩
    rw [← hN] at HL4 HL0 hN64 ⊢
    have HN := veil hN
    clear hN e1 e2 hb' hbad HE
    by_cases hlen : L.length = N
    · have HE2 := veil (HL0.out hlen)
      have Hlen := veil hlen
      have hl64 : L.length ≤ 64 := by omega
      clear hlen HL4 HL0
      have hlz : ((L.length : Int) != (N : Int)) = false := by have := Hlen.out; simp; omega
      go_wp2_with fail
      go_loopg [11, 32] L.length (fun gk bv iv wr => ∃ k : Nat, gk = L.length - k ∧ k ≤ L.length ∧ iv = .int .i64 (k : Int) ∧ Hid (∀ r ∈ L.take k, inB (-40000) 40000 r = true) ∧ Hid (Below w.heap.size w wr))
      case atStart => exact ⟨0, rfl, Nat.zero_le _, rfl, veil (by simp), veil (Below.refl _ _)⟩
      case round =>
        obtain ⟨k, rfl, hk, rfl, HI, HB⟩ := hrel
        by_cases hlt : k < L.length
        · have hltz : (k : Int) < (L.length : Int) := by omega
          have hb := HB.out
          obtain ⟨g, o, r, rfl, hg, hr, hrl, hrange⟩ := hs.row hL (by omega) hlt
          have hrg := range_below hrange hb (by omega)
          have hmem := List.mem_of_getElem? hr
          have Hl : Hid ((ints .i64 r).length = 64) := by show _ = _; rw [ints_length, hrl]
          have hone := ints_one (k := .i64) (l := r)
          have hb2 := hb.alloc hb.size (.cells (ints .i64 r).toArray 31)
          have HC0 := plAll_any r (some ⟨wr.heap.size, 0, none⟩) 64 (wr.heap.size + 1) (-40000) 40000 (wr.alloc (.cells (ints .i64 r).toArray 31)) (Seen.new wr (ints .i64 r) _ _ (Nat.lt_succ_self _)) (by omega) (by simp)
          rw [hrl] at HC0
          have HC := veil HC0
          have HIn : Hid (inB (-40000) 40000 r = true → ∀ x ∈ L.take (k + 1), inB (-40000) 40000 x = true) := fun h x hx => by
            rw [take_snoc hr] at hx
            rcases List.mem_append.1 hx with hx | hx
            · exact HI.out x hx
            · rw [List.mem_singleton.1 hx]; exact h
          have Hbad : Hid (inB (-40000) 40000 r = false → ¬ ∀ r ∈ L, inB (-40000) 40000 r = true) := fun h h2 => by rw [h2 r hmem] at h; cases h
          clear hrange hr hmem hb HC0
          generalize hys : ints .i64 r = ys at *
          clear hys
          go_wp2_with (first
            | (refine wpList_load_mid rfl 31 (.tmp 34) rfl g (o + k * 64) rfl ys _ hrg Try.underlying31 rfl (info_blkn Hl.out) ?_)
            | (refine wpList_store_new wr rfl 31 (.tmp 11) (.tmp 35) rfl zeroB.toArray ys rfl rfl (info_blkn Hl.out) (by rw [Hl.out]; rfl) hone ?_)
            | fail)
          refine HC.out.mono ?_
          rintro e w2 ⟨rfl, hb3⟩
          have hb4 := veil (hb2.trans (hb3.mono hb2.size))
          clear hrg hb2 hb3 HC
          cases hin : inB (-40000) 40000 r with
          | true =>
            have HI2 := veil (HIn.out hin)
            clear hin HIn HI
            go_wp2_with fail
            go_roundg (L.length - (k + 1))
            case rel => exact ⟨k + 1, rfl, by omega, by go_num, HI2, hb4⟩
            case measure => omega
          | false =>
            have hE1 := HE2.out
            rw [if_neg (Hbad.out hin)] at hE1
            have hO1 := HOe.out (by rw [hE1]; decide)
            subst hO1
            have HE1 := veil hE1
            clear hin HIn HI hE1
            go_wp2_with fail
            go_ret2
            exact ⟨_, ret_two rfl (by rw [HE1.out]; rfl), Hempty.out _ hb4.out, hb4.out⟩
        · obtain rfl : k = L.length := by omega
          have hi := HI.out
          rw [List.take_length] at hi
          have hE0 := HE2.out
          rw [if_pos hi] at hE0
          have hOc := HOk.out hE0
          have HE0 := veil hE0; have HOc := veil hOc; have Hin := veil hi
          clear hE0 hOc hi HI HE2 HOk HOe hlt
          obtain ⟨W0, rfl⟩ : ∃ W0 : World, W0 = wr := ⟨_, rfl⟩
          obtain ⟨S, hS⟩ : ∃ S, S = W * H := ⟨_, rfl⟩
          have hS64 : S ≤ 4096 := by rw [hS]; exact Nat.mul_le_mul hW1.2 hH1.2
          have zS : (W : Int) * (H : Int) = (S : Int) := by rw [hS]; simp
          have HS := veil hS
          clear hS
          have hmk := run_make_join S (by omega) W0
          obtain ⟨g0, hg0⟩ : ∃ g0, g0 = W0.heap.size := ⟨_, rfl⟩
          have HK0 : Hid (Blk (W0.alloc (.cells (ints .i64 (List.replicate S 0)).toArray 3)) g0 (ints .i64 (fillP (pixAt L W) S 0)) 3) := veil (by rw [fillP_0, hg0]; exact Blk.new ..)
          have hgw : w.heap.size ≤ g0 := by rw [hg0]; exact HB.out.size
          have HB1 := veil (HB.out.alloc HB.out.size (.cells (ints .i64 (List.replicate S 0)).toArray 3))
          obtain ⟨W1, hW1'⟩ : ∃ W1, W1 = W0.alloc (.cells (ints .i64 (List.replicate S 0)).toArray 3) := ⟨_, rfl⟩
          rw [← hW1'] at HK0 HB1 hmk
          rw [← hg0] at hmk
          clear hW1' hg0 HB
          go_wp2_with fail
          clear hmk
          go_loopg [13, 14, 15, 16, 46] S (fun gk v13 v14 v15 v16 iv wr => ∃ k : Nat, gk = S - k ∧ k ≤ S ∧ iv = .int .i64 (k : Int) ∧ Hid (Blk wr g0 (ints .i64 (fillP (pixAt L W) S k)) 3) ∧ Hid (Below w.heap.size w wr))
          case atStart => exact ⟨0, rfl, Nat.zero_le _, rfl, HK0, HB1⟩
          case round =>
            clear HK0 HB1
            obtain ⟨k, rfl, hk, rfl, HK, HB⟩ := hrel
            by_cases hkt : k < S
            · have hkz : (k : Int) < (S : Int) := by omega
              obtain ⟨a, ha⟩ : ∃ a : Nat, a = k / W := ⟨_, rfl⟩
              obtain ⟨b, hb⟩ : ∃ b : Nat, b = k % W := ⟨_, rfl⟩
              have za : (k : Int) / (W : Int) = (a : Int) := by rw [ha]; simp
              have za2 : (k : Int).tdiv (W : Int) = (a : Int) := by rw [Int.tdiv_eq_ediv_of_nonneg (by omega)]; exact za
              have zb : (k : Int) % (W : Int) = (b : Int) := by rw [hb]; simp
              have zb2 : (k : Int).tmod (W : Int) = (b : Int) := by rw [Int.tmod_eq_emod_of_nonneg (by omega)]; exact zb
              have zw0 : ((W : Int) == 0) = false := by rw [beq_eq_false_iff_ne]; omega
              have haq : a < H := by rw [ha]; exact Nat.div_lt_of_lt_mul (by rw [← HS.out]; exact hkt)
              have hbq : b < W := by rw [hb]; exact Nat.mod_lt _ (by omega)
              have hpix0 : pixAt L W k = clampZ ((L.getD (a / 8 * acrossN W + b / 8) []).getD (a % 8 * 8 + b % 8) 0 + 128) 0 255 := by rw [ha, hb]; rfl
              have hpl := places haq hbq
              have ha63 : a ≤ 63 := by omega
              have hb63 : b ≤ 63 := by omega
              clear ha hb
              go_wp2_with fail
              go_quiet (fail)
              have hB : Below w.heap.size w (wr.drewN nq) := HB.out.drewN nq
              have HKd : Hid (Blk (wr.drewN nq) g0 (ints .i64 (fillP (pixAt L W) S k)) 3) := HK.out.drewN nq
              obtain ⟨W2, hW2⟩ : ∃ W2, W2 = wr.drewN nq := ⟨_, rfl⟩
              rw [← hW2] at hB HKd ⊢
              obtain ⟨P, hP⟩ : ∃ P, P = acrossN W := ⟨_, rfl⟩
              have hP8 : P ≤ 8 := by rw [hP]; unfold acrossN; omega
              have HAl := veil (along_any W hW1.2 W2)
              rw [← hP] at HAl
              obtain ⟨q, hq⟩ : ∃ q : Nat, q = a / 8 := ⟨_, rfl⟩
              obtain ⟨q2, hq2⟩ : ∃ q2 : Nat, q2 = b / 8 := ⟨_, rfl⟩
              obtain ⟨r, hr⟩ : ∃ r : Nat, r = a % 8 := ⟨_, rfl⟩
              obtain ⟨r2, hr2⟩ : ∃ r2 : Nat, r2 = b % 8 := ⟨_, rfl⟩
              obtain ⟨r8, hr8⟩ : ∃ r8 : Nat, r8 = r * 8 := ⟨_, rfl⟩
              obtain ⟨j2, hj2⟩ : ∃ j2 : Nat, j2 = r8 + r2 := ⟨_, rfl⟩
              obtain ⟨p1, hp1⟩ : ∃ p1 : Nat, p1 = q * P := ⟨_, rfl⟩
              obtain ⟨ix, hix⟩ : ∃ ix : Nat, ix = p1 + q2 := ⟨_, rfl⟩
              have hixl : ix < L.length := by
                have := hpl.1
                rw [← hP, ← hq, ← hq2, ← hp1, ← hix, ← HN.out, ← Hlen.out] at this
                exact this
              obtain ⟨g, o, rr, rfl, hg, hrr, hrl, hrange⟩ := hs.row hL (by omega) hixl
              have hrg := range_below hrange hB (by omega)
              have hmem := List.mem_of_getElem? hrr
              obtain ⟨v, hv⟩ := some_at (xs := rr) (j := j2) (by omega)
              have hvi : -40000 ≤ v ∧ v ≤ 40000 := inB_at (Hin.out rr hmem) hv
              have hpix : pixAt L W k = clampZ (v + 128) 0 255 := by
                rw [hpix0, ← hP, ← hq, ← hq2, ← hp1, ← hix, getD_of hrr, ← hr, ← hr2, ← hr8, ← hj2, getD_of hv]
              obtain ⟨pv, hpv⟩ : ∃ pv, pv = clampZ (v + 128) 0 255 := ⟨_, rfl⟩
              have Hl : Hid ((ints .i64 rr).length = 64) := by show _ = _; rw [ints_length, hrl]
              have hone := ints_one (k := .i64) (l := rr)
              obtain ⟨W3, hW3⟩ : ∃ W3, W3 = W2.alloc (.cells (ints .i64 rr).toArray 31) := ⟨_, rfl⟩
              have hcv : W3.cell? ⟨W2.heap.size, j2, none⟩ = some (.int .i64 v) := by rw [hW3]; exact (Blk.new W2 (ints .i64 rr) 31).cell (ints_at hv)
              have HSa := veil (plSample_any v hvi W3)
              rw [← hpv] at HSa
              have hB3 : Below w.heap.size w W3 := by rw [hW3]; exact hB.alloc hB.size _
              have HK3 : Hid (Blk W3 g0 (ints .i64 (fillP (pixAt L W) S k)) 3) := by rw [hW3]; exact HKd.out.below (below1 _ _) HKd.out.lt
              have hcy := HK3.out.cell (ints_at (fillP_at (f := pixAt L W) (k := k) hkt))
              have hfy := HK3.out.frozen k
              have HK5 : Hid (Blk (W3.setCell ⟨g0, k, none⟩ (.int .i64 pv)) g0 (ints .i64 (fillP (pixAt L W) S (k + 1))) 3) := veil (by
                have := HK3.out.set k (.int .i64 pv)
                rw [show (ints .i64 (fillP (pixAt L W) S k)).set k (.int .i64 pv) = ints .i64 ((fillP (pixAt L W) S k).set k pv) by simp [ints, List.map_set], hpv, ← hpix, fillP_next hkt] at this
                rw [hpv, ← hpix]; exact this)
              have HB5 : Hid (Below w.heap.size w (W3.setCell ⟨g0, k, none⟩ (.int .i64 pv))) := veil (hB3.setCell (by simpa using hgw) _)
              have HW3 : Hid (W2.alloc (.cells (ints .i64 rr).toArray 31) = W3) := hW3.symm
              have z1 : (a : Int) / 8 = (q : Int) := by omega
              have z4 : (q : Int) * (P : Int) = (p1 : Int) := by rw [hp1]; simp
              have z5 : (b : Int) / 8 = (q2 : Int) := by omega
              have z6 : (p1 : Int) + (q2 : Int) = (ix : Int) := by omega
              have z7 : (a : Int) % 8 = (r : Int) := by omega
              have z8 : (r : Int) * 8 = (r8 : Int) := by omega
              have z9 : (b : Int) % 8 = (r2 : Int) := by omega
              have z10 : (r8 : Int) + (r2 : Int) = (j2 : Int) := by omega
              have b1 : q < 8 ∧ q2 < 8 ∧ r < 8 ∧ r2 < 8 ∧ r8 < 64 ∧ j2 < 64 ∧ P ≤ 8 ∧ p1 < 64 ∧ ix < 64 := by omega
              have hixz : (ix : Int) < (L.length : Int) := by omega
              clear hrange hmem hv hpix hpix0 hpv hrr hr hr2 hq hq2 hr8 hj2 hp1 hix hP hpl hW2 hW3 HKd HK HK3 hB hB3 za za2 zb zb2
              generalize hys : ints .i64 rr = ys at *
              clear hys
              go_wp2_with fail
              refine HAl.out.mono ?_
              rintro e wq ⟨rfl, hwq⟩
              obtain rfl : W2 = wq := hwq.symm
              clear hwq HAl
              go_wp2_with (first
                | (refine wpList_load_mid rfl 31 (.tmp 64) rfl g (o + ix * 64) rfl ys _ hrg Try.underlying31 rfl (info_blkn Hl.out) ?_)
                | (refine wpList_store_new W2 rfl 31 (.tmp 16) (.tmp 65) rfl zeroB.toArray ys rfl rfl (info_blkn Hl.out) (by rw [Hl.out]; rfl) hone ?_; rw [HW3.out])
                | fail)
              refine HSa.out.mono ?_
              rintro e wq ⟨rfl, hwq⟩
              obtain rfl : W3 = wq := hwq.symm
              clear HSa hrg hcv hone hwq
              go_wp2_with fail
              go_roundg (S - (k + 1))
              case rel => exact ⟨k + 1, rfl, by omega, by go_num, HK5, HB5⟩
              case measure => omega
            · obtain rfl : S = k := by omega
              have hkz : ¬ (S : Int) < (S : Int) := by omega
              have HO3 : Hid (Owns w.heap.size [intRow 3 .i64 (.slice (some ⟨g0, 0, none⟩) S S) O] wr) := veil (by
                have h := HK.out
                rw [fillP_all] at h
                have hOj : O = (List.range S).map (pixAt L W) := by rw [HOc.out, HS.out]; rfl
                have hOl : O.length = S := by rw [hOj]; simp
                rw [← hOj] at h
                have := Owns.ofBlk (n := S) (size := 1) h hgw (by rw [ints_length, hOl, Nat.mul_one]) (by unfold maxLen; omega)
                show Owns _ [⟨3, 1, _, O.length, ints .i64 O⟩] _
                rw [hOl]; exact this)
              have HE1 := HE0
              clear HK
              go_wp2_with fail
              go_ret2
              exact ⟨_, ret_two rfl (by rw [HE1.out]; rfl), HO3.out, HB.out⟩
    · have hlz : ((L.length : Int) != (N : Int)) = true := by simp; omega
      have hE1 := HL4.out hlen
      have hO1 := HOe.out (by rw [hE1]; decide)
      subst hO1
      have HE1 := veil hE1
      clear hE1 hlen
      go_wp2_with fail
      go_ret2
      exact ⟨_, ret_two rfl (by rw [HE1.out]; rfl), Hempty.out _ (Below.refl _ _), Below.refl _ _⟩
end Go.Proofs.Ytgajlplmpbaanaa

/- From the form's reading of a slice of structs or arrays of integers to the words of Mem. -/
namespace Go.Proofs.Ytgajlplmpbaanaa
open Go.RowKit Go.ChangeShapes Go.WideShapes Go.ChangeAt Go.Deep
set_option linter.unusedVariables false
set_option linter.unusedSimpArgs false
set_option maxRecDepth 100000

section
variable {H : Type} {enc : TypeId × Value → H}
/-- A slice whose elements are n integers each. -/
theorem openRows {W : World} {t e : TypeId} {n : Nat} {a : Option Addr} {len cap : Nat} {d : DataW H} {p : List MemPlace} {sp : Nat → Bool} {hd : Bool}
    (ht : Try.prog.underlying t = some (.slice e)) (hn : Try.prog.cellsOf e = n) (hp : 0 < n)
    (hel : ∀ (fuel : Nat) (cs : List Value) (x : DataW H × List MemPlace), DataW.trod enc Try.prog W 0 sp hd fuel e cs = some x → ∃ is : List Int, cs = ints .i64 is ∧ is.length = n ∧ ∀ c ∈ is, (Lit.int .i64 c).wf = true)
    (h : DataW.Trod enc Try.prog W 0 sp hd t (.slice a len cap) d p) :
    ∃ L : List (List Int), len = L.length ∧ Seen W W.heap.size a (rowsC L) ∧ (∀ r ∈ L, r.length = n ∧ ∀ c ∈ r, (Lit.int .i64 c).wf = true) ∧ L.length ≤ maxLen ∧ cap ≤ maxLen ∧ L.length ≤ cap := by
  obtain ⟨fuel, hf⟩ := h
  rcases open_slice ht hf with ⟨hcs, _⟩ | ⟨x, l, c, m, k, D, Pl, hcs, _, hl, hm, hmm, hx, hi⟩
  · simp [Value.cells] at hcs
    obtain ⟨rfl, rfl, rfl⟩ := hcs
    exact ⟨[], rfl, .inl rfl, by simp, Nat.zero_le _, Nat.zero_le _, Nat.zero_le _⟩
  · simp [Value.cells] at hcs
    obtain ⟨rfl, rfl, rfl⟩ := hcs
    have hlm : len ≤ m := by rw [hmm]; split <;> omega
    have each : ∀ i, i < len → ∃ is : List Int, is.length = n ∧ (∀ c ∈ is, (Lit.int .i64 c).wf = true) ∧ ∀ j u, (ints .i64 is)[j]? = some u → W.cell? (x.add (i * n + j)) = some u := by
      intro i hil
      obtain ⟨cs', h1, h2⟩ := hi i (by omega)
      obtain ⟨is, rfl, h3, h4⟩ := hel _ _ _ h2
      rw [hn] at h1
      obtain ⟨_, hlen, hcell⟩ := World.cells?_some h1
      refine ⟨is, h3, h4, fun j u hu => ?_⟩
      have hj : j < n := by have := (List.getElem?_eq_some_iff.1 hu).1; rw [ints_length] at this; omega
      have h5 := hcell j hj
      rw [add_add] at h5
      rw [h5]
      simpa using hu
    obtain ⟨q, hq⟩ := choose_lt each
    have hlens : ∀ r ∈ (List.range len).map q, r.length = n := by
      intro r hr
      obtain ⟨i, hi', rfl⟩ := List.mem_map.1 hr
      exact (hq i (by simpa using hi')).1
    refine ⟨(List.range len).map q, by simp, ?_, ?_, by simp; omega, hm, by simpa using hl⟩
    · by_cases hz : len = 0
      · subst hz; exact .inl rfl
      · obtain ⟨v0, hv0⟩ := some_at (xs := ints .i64 (q 0)) (j := 0) (by rw [ints_length, (hq 0 (by omega)).1]; exact hp)
        have h1 := (hq 0 (by omega)).2.2 0 v0 hv0
        have hsp := World.cell?_spot h1
        have hb := World.block_lt_of_cell? W _ h1
        obtain ⟨b, o, s⟩ := x
        simp [Addr.add] at hsp hb
        subst hsp
        refine .inr ⟨b, o, rfl, hb, fun j u hu => ?_⟩
        have hjl := (List.getElem?_eq_some_iff.1 hu).1
        rw [rowsC_length hlens, List.length_map, List.length_range] at hjl
        have hi' : j / n < len := Nat.div_lt_of_lt_mul (by rw [Nat.mul_comm]; exact hjl)
        have hjn : j % n < n := Nat.mod_lt _ hp
        have hdm : j / n * n + j % n = j := by rw [Nat.mul_comm]; exact Nat.div_add_mod j n
        have hg : ((List.range len).map q)[j / n]? = some (q (j / n)) := by simp [hi']
        have h6 := rowsC_at hlens hg hjn
        rw [hdm] at h6
        rw [h6] at hu
        have h7 := (hq _ hi').2.2 _ _ hu
        rw [hdm] at h7
        have add' : (⟨b, o, none⟩ : Addr).add j = ⟨b, o + j, none⟩ := by
          unfold Addr.add; split
          · rename_i e; subst e; rfl
          · rfl
        rw [add'] at h7
        exact h7
    · intro r hr
      obtain ⟨i, hi', rfl⟩ := List.mem_map.1 hr
      exact ⟨(hq i (by simpa using hi')).1, (hq i (by simpa using hi')).2.1⟩
end
end Go.Proofs.Ytgajlplmpbaanaa

/- From the form's readings of the arguments to the words of Mem: slices of integers, slices of structs of integers. -/
namespace Go.Proofs.Ytgajlplmpbaanaa
open Go.RowKit Go.ChangeShapes Go.WideShapes Go.ChangeAt Go.Deep
set_option linter.unusedVariables false
set_option linter.unusedSimpArgs false
set_option maxRecDepth 100000

theorem own : ownKnob Try.prog.godebug = none := by kernel_rfl
theorem laidOut : laidOutB Try.prog = true := by kernel_rfl

section
variable {H : Type} {enc : TypeId × Value → H}

end
end Go.Proofs.Ytgajlplmpbaanaa

/- From the form's reading of a block that came in to its numbers. -/
namespace Go.Proofs.Ytgajlplmpbaanaa
open Go.RowKit Go.ChangeShapes Go.WideShapes Go.ChangeAt Go.Deep
set_option linter.unusedVariables false
set_option linter.unusedSimpArgs false
set_option maxRecDepth 100000
section
variable {H : Type} {enc : TypeId × Value → H}
theorem one_at {α : Type} {l : List α} {i : Nat} {x : α} (h : l[i]? = some x) : (l.drop i).take 1 = [x] := by
  obtain ⟨hi, e⟩ := List.getElem?_eq_some_iff.1 h
  rw [List.drop_eq_getElem_cons hi, e]; rfl
/-- Cells that read as an array of integers. -/
theorem openCells {W : World} {t e : TypeId} {k : IntKind} {n fuel : Nat} {l : List Value} {x : DataW H × List MemPlace} {sp : Nat → Bool} {hd : Bool}
    (ht : Try.prog.underlying t = some (.array n e)) (he : Try.prog.underlying e = some (.int k)) (hc : Try.prog.cellsOf e = 1) (hct : Try.prog.cellsOf t = n)
    (h : DataW.trod enc Try.prog W 0 sp hd fuel t l = some x) : ∃ cs : List Int, l = ints k cs ∧ cs.length = n ∧ ∀ c ∈ cs, (Lit.int k c).wf = true := by
  obtain ⟨xs, m, _, _, hl, hx, hi⟩ := DataW.trod_array ht h
  rw [hct] at hl
  rw [hc] at hi
  have each : ∀ i, i < n → ∃ c : Int, l[i]? = some (.int k c) ∧ (Lit.int k c).wf = true := by
    intro i hin
    obtain ⟨v, hv⟩ := some_at (xs := l) (j := i) (by omega)
    have h2 := hi i hin
    rw [Nat.mul_one, one_at hv] at h2
    obtain ⟨y, hy⟩ := some_at (xs := xs) (j := i) (by omega)
    rw [hy] at h2
    obtain ⟨c, e0, _, w0⟩ := DataW.trod_int he h2
    simp at e0
    exact ⟨c, by rw [hv, e0], w0⟩
  obtain ⟨q, hq⟩ := choose_lt each
  refine ⟨(List.range n).map q, ?_, by simp, ?_⟩
  · apply List.ext_getElem?
    intro i
    by_cases hin : i < n
    · rw [(hq i hin).1]; simp [ints, hin]
    · rw [List.getElem?_eq_none (by omega), List.getElem?_eq_none (by simp [ints]; omega)]
  · intro c hc
    obtain ⟨i, hi', rfl⟩ := List.mem_map.1 hc
    exact (hq i (by simpa using hi')).2
end
end Go.Proofs.Ytgajlplmpbaanaa

/- A slice of blocks that came in: its capacity and the bound of its numbers. -/
namespace Go.Proofs.Ytgajlplmpbaanaa
open Go.RowKit Go.ChangeShapes Go.WideShapes Go.ChangeAt Go.Deep
set_option linter.unusedVariables false
set_option linter.unusedSimpArgs false
set_option maxRecDepth 100000

variable {H : Type} {enc : TypeId × Value → H}
theorem block_cellsB {W : World} {sp : Nat → Bool} {hd : Bool} (fuel : Nat) (cs : List Value) (x : DataW H × List MemPlace) (h : DataW.trod enc Try.prog W 0 sp hd fuel 31 cs = some x) : ∃ is : List Int, cs = ints .i64 is ∧ is.length = 64 ∧ ∀ c ∈ is, (Lit.int .i64 c).wf = true :=
  openCells Try.underlying31 Try.underlying3 (by kernel_rfl) (by kernel_rfl) h
theorem openBlocksB {W : World} {a : Option Addr} {len cap : Nat} {d : DataW H} {p : List MemPlace} {sp : Nat → Bool} {hd : Bool} (h : DataW.Trod enc Try.prog W 0 sp hd 23 (.slice a len cap) d p) :
    ∃ L : List (List Int), len = L.length ∧ Seen W W.heap.size a (rowsC L) ∧ (∀ r ∈ L, r.length = 64) ∧ L.length ≤ maxLen ∧ L.length ≤ cap ∧ (∀ r ∈ L, ∀ z ∈ r, -9223372036854775808 ≤ z ∧ z ≤ 9223372036854775807) := by
  obtain ⟨L, h1, h2, h3, h4, _, h6⟩ := openRows Try.underlying23 (by kernel_rfl) (by omega) block_cellsB h
  exact ⟨L, h1, h2, fun r hr => (h3 r hr).1, h4, h6, fun r hr z hz => bounds_i64 ((h3 r hr).2 z hz)⟩
end Go.Proofs.Ytgajlplmpbaanaa
