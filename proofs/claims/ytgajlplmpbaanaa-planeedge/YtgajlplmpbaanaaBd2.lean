/- Texts shared by the claims of this seat, in one. -/
import Derived.Test.YtgajlplmpbaanaaBd1
import Derived.BigQuiet
import Derived.StillTailTactics
import Derived.Test.YtgajlplmpbaanaaRows
import Derived.ProofKit
import Derived.OpenShut
import Derived.ShutString
import Derived.ChangeOld
import Derived.JoinedCond
import Derived.Deep.Slices
import Derived.Deep.SlicePairs
import Derived.Deep.Fields
import Derived.ChangeSame
import Derived.SizedLaws
/- plane.Cut: its contract. -/
namespace Go.Proofs.Ytgajlplmpbaanaa
open Go.RowKit
set_option linter.unusedVariables false
set_option linter.unusedSimpArgs false
set_option maxRecDepth 100000

theorem made_cut (n : Nat) : madeCells (Value.agg zeroB.toArray).cells (n * 64) = (ints .i64 (List.replicate (n * 64) 0)).toArray := by
  rw [show ints .i64 (List.replicate (n * 64) 0) = List.replicate (n * 64) (.int .i64 0) by simp [ints]]
  apply Array.ext
  · simp [madeCells]
  · intro i h1 h2
    have hz : ∀ j, j < 64 → zeroB[j]? = some (.int .i64 0) := by
      intro j hj
      show (ints .i64 (List.replicate 64 0))[j]? = _
      exact ints_at (List.getElem?_replicate.trans (if_pos hj))
    have h3 := hz (i % 64) (Nat.mod_lt _ (by omega))
    have hl : (zeroB.toArray).size = 64 := by simp [zeroB_length]
    simp only [madeCells, Value.cells, Array.getElem_map, Array.getElem_range, hl, List.getElem_toArray, List.getElem_replicate]
    rw [getElem!_def]
    simp [h3]
theorem run_make_cut (n : Nat) (h : n ≤ 1000000) (u : World) : (Instr.makeSlice 23 (.int .i64 (n : Int)) (.int .i64 (n : Int))).run Try.prog u =
    .ok (.slice (some ⟨u.heap.size, 0, none⟩) n n) (u.alloc (.cells (ints .i64 (List.replicate (n * 64) 0)).toArray 31)) := by
  obtain ⟨i0, hi, hz0, hz1, hz2⟩ := info_parts info_blk3
  have h := run_make (P := Try.prog) u 23 31 i0 (.agg zeroB.toArray) Try.underlying23 hi hz0 .i64 .i64 n n (by omega) (by omega) (by rw [hz2]; omega) (by omega)
  rw [h, hz1]
  simp only [Int.toNat_natCast]
  rw [made_cut]
/-- The numbers of all blocks, one behind another. -/
def cutF (l : List Int) (W H j : Nat) : Int := cellAt l W H (8 * (j / 64 / acrossN W)) (8 * (j / 64 % acrossN W)) (j % 64)
theorem cutF_rows (l : List Int) (W H : Nat) : rowsC (cutL l W H) = ints .i64 ((List.range (manyN W H * 64)).map (cutF l W H)) := by
  have hr : ∀ r ∈ cutL l W H, r.length = 64 := cutK_rows
  have hl : (rowsC (cutL l W H)).length = manyN W H * 64 := by rw [rowsC_length hr, cutL_length]
  apply List.ext_getElem?
  intro t
  by_cases ht : t < manyN W H * 64
  · have h1 : t / 64 < manyN W H := by omega
    have h2 := rowsC_at hr (cutL_get (l := l) h1) (show t % 64 < 64 by omega)
    rw [show t / 64 * 64 + t % 64 = t by omega] at h2
    rw [h2, ints_at (blockAt_get (by omega))]
    refine (ints_at ?_).symm
    rw [List.getElem?_map, List.getElem?_range ht]
    rfl
  · rw [List.getElem?_eq_none (by omega), List.getElem?_eq_none (by rw [ints_length]; simp; omega)]
set_option maxRecDepth 100000 in
set_option maxHeartbeats 2000000 in
theorem plCut_any : PCutSpec := by
  intro l A c G x y w hs hlb hl hcap hx hy hG
  obtain ⟨E, hE⟩ : ∃ E, E = eCut l x y := ⟨_, rfl⟩
  obtain ⟨O, hO⟩ : ∃ O, O = oCut l x y := ⟨_, rfl⟩
  rw [← hE, ← hO]
  have HE := veil hE; have HO := veil hO
  have HOe : Hid (E ≠ 0 → O = []) := by show _ → _; intro h; rw [hO]; exact if_neg (by rw [← hE]; exact h)
  have HOk : Hid (E = 0 → O = cutL l x.toNat y.toNat) := by show _ → _; intro h; rw [hO]; exact if_pos (by rw [← hE]; exact h)
  have HMa := veil (plMany_still x y w)
  have hempty : ∀ w', Below w.heap.size w w' → Owns w.heap.size [blkRow (.slice none 0 0) []] w' := fun w' h => (Owns.nil h.size).fresh _ _
  have Hempty := veil hempty
  clear hE hO hempty hlb hx hy
  unfold maxLen at hl
  go_enter Try.func9, Try.ntmps9
  go_wp2_with fail
  refine HMa.out.mono ?_
  rintro e wq ⟨rfl, hwq⟩
  obtain rfl : w = wq := hwq.symm
  clear hwq HMa
  by_cases hbad : badWH x y
  · have hE1 := HE.out.trans (eCut_bad hbad)
    have hO1 := HOe.out (by rw [hE1]; decide)
    have e1 : eSides x y = 1 := if_pos hbad
    rw [e1]
    subst hO1
    have HE1 := veil hE1
    clear hE1 e1 hbad
    go_wp2_with fail
    go_ret2
    exact ⟨_, ret_two rfl (by rw [HE1.out]; rfl), Hempty.out _ (Below.refl _ _), Below.refl _ _⟩
  · have e1 : eSides x y = 0 := if_neg hbad
    have e2 : oMany x y = (manyN x.toNat y.toNat : Nat) := if_neg hbad
    rw [e1, e2]
    have hb' := hbad
    unfold badWH at hb'
    obtain ⟨W, hW⟩ : ∃ W : Nat, x = (W : Int) := ⟨x.toNat, by omega⟩
    obtain ⟨H, hH⟩ : ∃ H : Nat, y = (H : Int) := ⟨y.toNat, by omega⟩
    subst hW hH
    rw [Int.toNat_natCast, Int.toNat_natCast] at HOk
    rw [Int.toNat_natCast, Int.toNat_natCast]
    have hW1 : 1 ≤ W ∧ W ≤ 64 := by omega
    have hH1 : 1 ≤ H ∧ H ≤ 64 := by omega
    have hM64 := many_le hW1.2 hH1.2
    obtain ⟨M, hM⟩ : ∃ M, M = manyN W H := ⟨_, rfl⟩
    rw [← hM] at hM64 ⊢
    have HM := veil hM
    obtain ⟨N, hN⟩ : ∃ N, N = W * H := ⟨_, rfl⟩
    have hN64 : N ≤ 4096 := by rw [hN]; exact Nat.mul_le_mul hW1.2 hH1.2
    have hNz : (W : Int) * (H : Int) = (N : Int) := by rw [hN]; simp
    have HN := veil hN
    have Hbad : Hid (¬ badWH (W : Int) (H : Int)) := hbad
    clear hN hM e1 e2 hb' hbad
    by_cases hlen : l.length = N
    · have hlz : ((l.length : Int) != (N : Int)) = false := by simp; omega
      have HE2 := veil (HE.out.trans (eCut_in Hbad.out (by rw [hlen, hNz])))
      have Hlen := veil hlen
      have hl4 : l.length ≤ 4096 := by omega
      have HC := veil (plAll_any l A c G 0 255 w hs (by omega) hG)
      clear hlen HE HO
      go_wp2_with fail
      refine HC.out.mono ?_
      rintro e w1 ⟨rfl, hb1⟩
      clear HC
      cases hin : inB 0 255 l with
      | false =>
        have hE1 := HE2.out
        rw [if_neg (by rw [hin]; decide)] at hE1
        have hO1 := HOe.out (by rw [hE1]; decide)
        subst hO1
        have HE1 := veil hE1
        clear hE1 hin
        have HB1 := veil hb1
        go_wp2_with fail
        go_ret2
        exact ⟨_, ret_two rfl (by rw [HE1.out]; rfl), Hempty.out _ HB1.out, HB1.out⟩
      | true =>
        have hE0 := HE2.out
        rw [if_pos hin] at hE0
        have hOc := HOk.out hE0
        have HE0 := veil hE0; have HOc := veil hOc; have Hin := veil hin
        clear hE0 hOc hin HE2 HOk HOe Hbad hlz
        have hmk := run_make_cut M (by omega) w1
        obtain ⟨g0, hg0⟩ : ∃ g0, g0 = w1.heap.size := ⟨_, rfl⟩
        have HK0 : Hid (Blk (w1.alloc (.cells (ints .i64 (List.replicate (M * 64) 0)).toArray 31)) g0 (ints .i64 (fillP (cutF l W H) (M * 64) (64 * 0))) 31) := veil (by rw [Nat.mul_zero, fillP_0, hg0]; exact Blk.new ..)
        have hgw : w.heap.size ≤ g0 := by rw [hg0]; exact hb1.size
        have HB1 := veil (hb1.alloc hb1.size (.cells (ints .i64 (List.replicate (M * 64) 0)).toArray 31))
        obtain ⟨W1, hW1'⟩ : ∃ W1, W1 = w1.alloc (.cells (ints .i64 (List.replicate (M * 64) 0)).toArray 31) := ⟨_, rfl⟩
        rw [← hW1'] at HK0 HB1 hmk
        rw [← hg0] at hmk
        clear hW1' hg0 hb1
        obtain ⟨P, hP⟩ : ∃ P, P = acrossN W := ⟨_, rfl⟩
        have hP8 : 1 ≤ P ∧ P ≤ 8 := by rw [hP]; unfold acrossN; omega
        have HP := veil hP
        have HAl := veil (fun W' => along_any W hW1.2 W')
        rw [← hP] at HAl
        have zP0 : ((P : Int) == 0) = false := by rw [beq_eq_false_iff_ne]; omega
        clear hP
        go_wp2_with fail
        clear hmk
        go_loopg [11, 12, 13, 14, 15, 16, 39] M (fun gk v11 v12 v13 v14 v15 v16 iv wr => ∃ k : Nat, gk = M - k ∧ k ≤ M ∧ iv = .int .i64 (k : Int) ∧ Hid (Blk wr g0 (ints .i64 (fillP (cutF l W H) (M * 64) (64 * k))) 31) ∧ Hid (Below w.heap.size w wr))
        case atStart => exact ⟨0, rfl, Nat.zero_le _, rfl, HK0, HB1⟩
        case round =>
          clear HK0 HB1
          obtain ⟨k, rfl, hk, rfl, HK, HB⟩ := hrel
          by_cases hkt : k < M
          · have hkz : (k : Int) < (M : Int) := by omega
            obtain ⟨a, ha⟩ : ∃ a : Nat, a = k / P := ⟨_, rfl⟩
            obtain ⟨b, hb⟩ : ∃ b : Nat, b = k % P := ⟨_, rfl⟩
            obtain ⟨m, hm⟩ : ∃ m : Nat, m = 8 * a := ⟨_, rfl⟩
            obtain ⟨n, hn⟩ : ∃ n : Nat, n = 8 * b := ⟨_, rfl⟩
            have za : (k : Int) / (P : Int) = (a : Int) := by rw [ha]; simp
            have za2 : (k : Int).tdiv (P : Int) = (a : Int) := by rw [Int.tdiv_eq_ediv_of_nonneg (by omega)]; exact za
            have zb : (k : Int) % (P : Int) = (b : Int) := by rw [hb]; simp
            have zb2 : (k : Int).tmod (P : Int) = (b : Int) := by rw [Int.tmod_eq_emod_of_nonneg (by omega)]; exact zb
            have hb8 : b < 8 := by have : b < P := by rw [hb]; exact Nat.mod_lt _ (by omega)
                                   omega
            have ha64 : a ≤ k := by rw [ha]; exact Nat.div_le_self _ _
            have zm : 8 * (a : Int) = (m : Int) := by omega
            have zn : 8 * (b : Int) = (n : Int) := by omega
            have hmn : m ≤ 512 ∧ n ≤ 64 := by omega
            have HF : Hid (∀ i, i < 64 → cutF l W H (64 * k + i) = cellAt l W H m n i) := veil fun i hi => by
              unfold cutF
              rw [show (64 * k + i) / 64 = k by omega, show (64 * k + i) % 64 = i by omega, ← HP.out, ← ha, ← hb, hm, hn]
            clear ha hb hm hn
            go_wp2_with fail
            go_quiet (first | (go_at_call 21; with_reducible exact Calls.quiet_of_same (HAl.out _)) | fail)
            have HBd : Hid (Below w.heap.size w (wr.drewN nq)) := HB.out.drewN nq
            have HKd : Hid (Blk (wr.drewN nq) g0 (ints .i64 (fillP (cutF l W H) (M * 64) (64 * k + 0))) 31) := HK.out.drewN nq
            obtain ⟨W2, hW2⟩ : ∃ W2, W2 = wr.drewN nq := ⟨_, rfl⟩
            rw [← hW2] at HBd HKd ⊢
            clear hW2 HK HB za za2 zb zb2
            go_wp2_with fail
            go_loopg [14, 15, 16, 52] 64 (fun gk v14 v15 v16 iv wr => ∃ i : Nat, gk = 64 - i ∧ i ≤ 64 ∧ iv = .int .i64 (i : Int) ∧ Hid (Blk wr g0 (ints .i64 (fillP (cutF l W H) (M * 64) (64 * k + i))) 31) ∧ Hid (Below w.heap.size w wr))
            case atStart => exact ⟨0, rfl, Nat.zero_le _, rfl, HKd, HBd⟩
            case round =>
              clear HKd HBd
              obtain ⟨i, rfl, hi, rfl, HK, HB⟩ := hrel
              by_cases hit : i < 64
              · have hiz : (i : Int) < 64 := by omega
                obtain ⟨q, hq⟩ : ∃ q : Nat, q = i / 8 := ⟨_, rfl⟩
                obtain ⟨r, hr⟩ : ∃ r : Nat, r = i % 8 := ⟨_, rfl⟩
                obtain ⟨r1, hr1⟩ : ∃ r1 : Nat, r1 = min (m + q) (H - 1) := ⟨_, rfl⟩
                obtain ⟨c1, hc1⟩ : ∃ c1 : Nat, c1 = min (n + r) (W - 1) := ⟨_, rfl⟩
                have hix : W * r1 + c1 < N := by rw [hr1, hc1, HN.out]; exact idx_lt (by omega) (by omega)
                obtain ⟨p1, hp1⟩ : ∃ p1 : Nat, p1 = W * r1 := ⟨_, rfl⟩
                obtain ⟨j, hj⟩ : ∃ j : Nat, j = p1 + c1 := ⟨_, rfl⟩
                have hjl : j < l.length := by have := Hlen.out; omega
                have hs6 := hs.below HB.out hG
                obtain ⟨g, o, v, rfl, hg, hx, hcx⟩ := hs6.int hjl
                have hvi : 0 ≤ v ∧ v ≤ 255 := inB_at Hin.out hx
                have hcell : cutF l W H (64 * k + i) = v - 128 := by
                  rw [HF.out i hit]
                  unfold cellAt
                  rw [← hq, ← hr, ← hr1, ← hc1, ← hp1, ← hj, getD_of hx]
                have hti : 64 * k + i < M * 64 := by omega
                obtain ⟨t, ht⟩ : ∃ t : Nat, t = 64 * k + i := ⟨_, rfl⟩
                have hcx2 : wr.drew.cell? ⟨g, o + j, none⟩ = some (.int .i64 v) := hcx
                obtain ⟨y0, hy0⟩ : ∃ y0, (fillP (cutF l W H) (M * 64) (64 * k + i))[64 * k + i]? = some y0 := ⟨_, fillP_at hti⟩
                have hcy : wr.drew.cell? ⟨g0, k * 64 + i, none⟩ = some (.int .i64 y0) := by
                  rw [show k * 64 + i = 64 * k + i by omega]
                  exact HK.out.cell (ints_at hy0)
                have hfy : wr.drew.frozen? ⟨g0, k * 64 + i, none⟩ = false := HK.out.frozen _
                have HK5 : Hid (Blk (wr.drew.setCell ⟨g0, k * 64 + i, none⟩ (.int .i64 (v - 128))) g0 (ints .i64 (fillP (cutF l W H) (M * 64) (64 * k + (i + 1)))) 31) := veil (by
                  have := HK.out.set (64 * k + i) (.int .i64 (v - 128))
                  rw [show (ints .i64 (fillP (cutF l W H) (M * 64) (64 * k + i))).set (64 * k + i) (.int .i64 (v - 128)) = ints .i64 ((fillP (cutF l W H) (M * 64) (64 * k + i)).set (64 * k + i) (v - 128)) by simp [ints, List.map_set], ← hcell, fillP_next hti, hcell] at this
                  rw [show k * 64 + i = 64 * k + i by omega]
                  exact this)
                have HB5 : Hid (Below w.heap.size w (wr.drew.setCell ⟨g0, k * 64 + i, none⟩ (.int .i64 (v - 128)))) := veil (HB.out.drew.setCell (by simpa using hgw) _)
                have zq : (i : Int) / 8 = (q : Int) := by omega
                have zr : (i : Int) % 8 = (r : Int) := by omega
                obtain ⟨e1, he1⟩ : ∃ e1 : Nat, e1 = m + q := ⟨_, rfl⟩
                obtain ⟨e2, he2⟩ : ∃ e2 : Nat, e2 = n + r := ⟨_, rfl⟩
                obtain ⟨h1, hh1⟩ : ∃ h1 : Nat, h1 = H - 1 := ⟨_, rfl⟩
                obtain ⟨w1, hw1⟩ : ∃ w1 : Nat, w1 = W - 1 := ⟨_, rfl⟩
                have z1 : (m : Int) + (q : Int) = (e1 : Int) := by omega
                have z2 : (n : Int) + (r : Int) = (e2 : Int) := by omega
                have z3 : (H : Int) - 1 = (h1 : Int) := by omega
                have z4 : (W : Int) - 1 = (w1 : Int) := by omega
                have z5 : ((h1 : Int) < (e1 : Int) ∧ h1 = r1) ∨ (¬ (h1 : Int) < (e1 : Int) ∧ e1 = r1) := by omega
                have z6 : ((w1 : Int) < (e2 : Int) ∧ w1 = c1) ∨ (¬ (w1 : Int) < (e2 : Int) ∧ e2 = c1) := by omega
                have z7 : (r1 : Int) * (W : Int) = (p1 : Int) := by rw [hp1, Nat.mul_comm]; simp
                have z8 : (p1 : Int) + (c1 : Int) = (j : Int) := by omega
                have b1 : q < 8 ∧ r < 8 ∧ e1 < 600 ∧ e2 < 80 ∧ h1 < 64 ∧ w1 < 64 ∧ r1 < 64 ∧ c1 < 64 ∧ p1 ≤ 4096 ∧ j < 4096 := by omega
                have hjz : (j : Int) < (l.length : Int) := by omega
                have y1 : IntKind.i64.wrap (p1 : Int) = (p1 : Int) := by rw [IntKind.wrap_i64]; omega
                have y2 : IntKind.i64.wrap (j : Int) = (j : Int) := by rw [IntKind.wrap_i64]; omega
                have y3 : IntKind.i64.wrap (v - 128) = v - 128 := by rw [IntKind.wrap_i64]; omega
                clear hy0 HK HB hx hcell hq hr hr1 hc1 hix hp1 hj he1 he2 hh1 hw1 hs6 ht hti
                rcases z5 with ⟨z5, rfl⟩ | ⟨z5, rfl⟩ <;> rcases z6 with ⟨z6, rfl⟩ | ⟨z6, rfl⟩
                all_goals
                  go_wp2_with fail
                  go_still_tail 14, (by kernel_rfl)
                  repeat still_step
                  try refine wpStill_nil ?_
                  change wpList _ _ _ _ _ wr.drew
                  go_wp2_with fail
                  go_roundg (64 - (i + 1))
                  case rel => exact ⟨i + 1, rfl, by omega, by go_num, HK5, HB5⟩
                  case measure => omega
              · obtain rfl : i = 64 := by omega
                have HK2 : Hid (Blk wr g0 (ints .i64 (fillP (cutF l W H) (M * 64) (64 * (k + 1)))) 31) := HK
                have HB2 := HB
                clear HK HB
                go_wp2_with fail
                go_roundg (M - (k + 1))
                case rel => exact ⟨k + 1, rfl, by omega, by go_num, HK2, HB2⟩
                case measure => omega
          · obtain rfl : M = k := by omega
            have hkz : ¬ (M : Int) < (M : Int) := by omega
            have HO3 : Hid (Owns w.heap.size [blkRow (.slice (some ⟨g0, 0, none⟩) M M) O] wr) := veil (by
              have h := HK.out
              rw [show 64 * M = M * 64 from Nat.mul_comm .., fillP_all] at h
              have hOl : O.length = M := by rw [HOc.out, cutL_length, HM.out]
              have hr : rowsC O = ints .i64 ((List.range (M * 64)).map (cutF l W H)) := by rw [HOc.out, cutF_rows, HM.out]
              rw [← hr] at h
              have hrl : (rowsC O).length = M * 64 := by rw [hr, ints_length]; simp
              have := Owns.ofBlk (n := M) (size := 64) h hgw hrl (by unfold maxLen; omega)
              show Owns _ [⟨31, 64, _, O.length, rowsC O⟩] _
              rw [hOl]; exact this)
            have HE1 := HE0
            clear HK
            go_wp2_with fail
            go_ret2
            exact ⟨_, ret_two rfl (by rw [HE1.out]; rfl), HO3.out, HB.out⟩
    · have hlz : ((l.length : Int) != (N : Int)) = true := by simp; omega
      have hE1 := HE.out.trans (eCut_len Hbad.out (by rw [hNz]; omega))
      have hO1 := HOe.out (by rw [hE1]; decide)
      subst hO1
      have HE1 := veil hE1
      clear hE1 hlen
      go_wp2_with fail
      go_ret2
      exact ⟨_, ret_two rfl (by rw [HE1.out]; rfl), Hempty.out _ (Below.refl _ _), Below.refl _ _⟩
end Go.Proofs.Ytgajlplmpbaanaa

/- From the form's readings of the arguments to the words of Mem: slices of integers, slices of structs of integers. -/
namespace Go.Proofs.Ytgajlplmpbaanaa
open Go.RowKit Go.ChangeShapes Go.WideShapes Go.ChangeAt Go.Deep
set_option linter.unusedVariables false
set_option linter.unusedSimpArgs false
set_option maxRecDepth 100000

theorem own : ownKnob Try.prog.godebug = none := by kernel_rfl
theorem laidOut : laidOutB Try.prog = true := by kernel_rfl

section
variable {H : Type} {enc : TypeId × Value → H}

theorem bulk_pos (d : DataW H) : 1 ≤ Rows.uptoBulk d := by
  cases d with
  | lit l => cases l <;> simp [Rows.uptoBulk]
  | nil => simp [Rows.uptoBulk]
  | ptr d => simp [Rows.uptoBulk]
  | slice elems spare => simp [Rows.uptoBulk]
  | agg parts => simp [Rows.uptoBulk]
  | iface t d => simp [Rows.uptoBulk]
  | map entries => simp [Rows.uptoBulk]
  | held h => simp [Rows.uptoBulk]
theorem bulk_length (l : List (DataW H)) : l.length ≤ Rows.uptoBulkAll l := by
  induction l with
  | nil => simp [Rows.uptoBulkAll]
  | cons x r ih => have := bulk_pos x; simp only [Rows.uptoBulkAll, List.length_cons]; omega

/-- A slice of integers that came in. -/
theorem openInts {W : World} {t e : TypeId} {k : IntKind} {a : Option Addr} {len cap : Nat} {d : DataW H} {p : List MemPlace} {sp : Nat → Bool} {hd : Bool}
    (ht : Try.prog.underlying t = some (.slice e)) (he : Try.prog.underlying e = some (.int k)) (hc : Try.prog.cellsOf e = 1)
    (h : DataW.Trod enc Try.prog W 0 sp hd t (.slice a len cap) d p) :
    ∃ xs : List Int, len = xs.length ∧ Seen W W.heap.size a (ints k xs) ∧ (∀ x ∈ xs, (Lit.int k x).wf = true) ∧ xs.length ≤ maxLen ∧ cap ≤ maxLen ∧ xs.length ≤ cap ∧ xs.length ≤ Rows.uptoBulk d := by
  obtain ⟨fuel, hf⟩ := h
  rcases open_ints ht he hc hf with ⟨hcs, _⟩ | ⟨x, l, c, zs, hcs, _, hl, hm, hz, hx, hcell, hwz⟩
  · simp [Value.cells] at hcs
    obtain ⟨rfl, rfl, rfl⟩ := hcs
    exact ⟨[], rfl, .inl rfl, by simp, Nat.zero_le _, Nat.zero_le _, Nat.zero_le _, Nat.zero_le _⟩
  · simp [Value.cells] at hcs
    obtain ⟨rfl, rfl, rfl⟩ := hcs
    have hlz : len ≤ zs.length := by rw [hz]; split <;> omega
    simp only [Prod.mk.injEq] at hx
    refine ⟨zs.take len, by simp [Nat.min_eq_left hlz], ?_, fun x hx => hwz x (List.mem_of_mem_take hx), by simp; omega, hm, by simp; omega, ?_⟩
    · by_cases h0 : len = 0
      · subst h0; exact .inl rfl
      · have h1 := hcell 0 (by omega)
        have hsp := World.cell?_spot h1
        have hb := World.block_lt_of_cell? W _ h1
        obtain ⟨b, o, s⟩ := x
        simp [Addr.add] at hsp hb
        subst hsp
        refine .inr ⟨b, o, rfl, hb, fun j u hu => ?_⟩
        have hj : j < zs.length := by
          have := (List.getElem?_eq_some_iff.1 hu).1
          simp [ints] at this; omega
        have h2 := hcell j hj
        have h3 : (ints k (zs.take len))[j]? = some (.int k (zs.getD j 0)) := by
          have hjl : j < len := by
            have := (List.getElem?_eq_some_iff.1 hu).1
            simp [ints] at this; omega
          simp [ints, List.getElem?_take, hjl, hj]
        rw [h3] at hu
        injection hu with hu
        subst hu
        rw [← h2]
        unfold Addr.add
        split
        · rename_i e; subst e; rfl
        · rfl
    · rw [hx.1]
      simp only [Rows.uptoBulk]
      have h1 := bulk_length (lits (H := H) k (zs.take len))
      have h2 : (lits (H := H) k (zs.take len)).length = (zs.take len).length := by simp [lits]
      omega

end
end Go.Proofs.Ytgajlplmpbaanaa
