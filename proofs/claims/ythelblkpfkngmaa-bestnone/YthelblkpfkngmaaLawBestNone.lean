/- BestNone returns true: what never comes has no word, and is of no matter. -/
import Derived.Test.YthelblkpfkngmaaBested
import Derived.Test.YthelblkpfkngmaaBestKeep
import Derived.Test.YthelblkpfkngmaaBestMath2
import Derived.Test.YthelblkpfkngmaaCutInt
import Derived.Test.YthelblkpfkngmaaHasInt
import Derived.Test.YthelblkpfkngmaaRest
namespace Go.Proofs.Ythelblkpfkngmaa
open Go.RowKit
set_option linter.unusedVariables false
set_option linter.unusedSimpArgs false

def with0 (zs : List Int) (k : Nat) : List Int := zs.take k ++ [0] ++ zs.drop k
theorem with0_length {zs : List Int} {k : Nat} (hk : k ≤ zs.length) : (with0 zs k).length = zs.length + 1 := by simp [with0]; omega
theorem with0_at {zs : List Int} {k : Nat} (hk : k ≤ zs.length) {i : Nat} {x : Int} (h : zs[i]? = some x) : (with0 zs k)[if i < k then i else i + 1]? = some x := by
  have hi := (List.getElem?_eq_some_iff.1 h).1
  have hl : (zs.take k).length = k := by simp; omega
  unfold with0
  by_cases hki : i < k
  · rw [if_pos hki, List.append_assoc, List.getElem?_append_left (by omega), List.getElem?_take, if_pos hki, h]
  · rw [if_neg hki, List.getElem?_append_right (by simp; omega), List.getElem?_drop, List.length_append, hl]
    simp only [List.length_cons, List.length_nil]
    rw [show k + (i + 1 - (k + (0 + 1))) = i by omega, h]
theorem with0_mid {zs : List Int} {k : Nat} (hk : k ≤ zs.length) : (with0 zs k)[k]? = some 0 := by
  have hl : (zs.take k).length = k := by simp; omega
  unfold with0
  rw [List.append_assoc, List.getElem?_append_right (by omega), hl]; simp
theorem with0_back {zs : List Int} {k : Nat} (hk : k ≤ zs.length) {j : Nat} {x : Int} (h : (with0 zs k)[j]? = some x) (hx : 0 < x) : zs[if j < k then j else j - 1]? = some x ∧ j ≠ k := by
  have hne : j ≠ k := by rintro rfl; rw [with0_mid hk] at h; injection h with h; omega
  refine ⟨?_, hne⟩
  have hl : (zs.take k).length = k := by simp; omega
  unfold with0 at h
  by_cases hj : j < k
  · rw [List.append_assoc, List.getElem?_append_left (by omega), List.getElem?_take, if_pos hj] at h
    rw [if_pos hj, h]
  · rw [List.getElem?_append_right (by simp; omega), List.getElem?_drop, List.length_append, hl] at h
    simp only [List.length_cons, List.length_nil] at h
    rw [show k + (j - (k + (0 + 1))) = j - 1 by omega] at h
    rw [if_neg hj, h]
theorem with0_err {zs : List Int} {k : Nat} (hk : k ≤ zs.length) (h : zs.length ≤ 255) : errB (with0 zs k) = errB zs := by
  unfold errB
  rw [with0_length hk, if_neg (show ¬ 256 < zs.length + 1 by omega), if_neg (show ¬ 256 < zs.length by omega)]
  have h1 : zs.any outB = ((zs.take k).any outB || (zs.drop k).any outB) := by rw [← List.any_append, List.take_append_drop]
  have h2 : (with0 zs k).any outB = ((zs.take k).any outB || (zs.drop k).any outB) := by
    unfold with0
    rw [List.any_append, List.any_append]
    simp [outB]
  rw [h2, ← h1]
theorem with0_least {zs : List Int} {k : Nat} (hk : k ≤ zs.length) {L L' : Int → Nat} (h : BestL zs L) (h' : BestL (with0 zs k) L') : costL zs L = costL (with0 zs k) L' := by
  refine Nat.le_antisymm ?_ ?_
  · refine least_le (f := fun i => if i < (k : Int) then i else i + 1) (fun i hi => ?_) (fun i hi j hj e => ?_) h h'.code
    · obtain ⟨n, x, rfl, h1, _⟩ := used_mem.1 hi
      have := cntZ_at (with0_at hk h1)
      rw [cntZ_at h1]
      refine Nat.le_of_eq (this.symm.trans ?_)
      congr 1
      by_cases hc : n < k
      · rw [if_pos hc, if_pos (by omega)]
      · rw [if_neg hc, if_neg (by omega)]; omega
    · split at e <;> split at e <;> omega
  · refine least_le (f := fun i => if i < (k : Int) then i else i - 1) (fun i hi => ?_) (fun i hi j hj e => ?_) h' h.code
    · obtain ⟨n, x, rfl, h1, hx⟩ := used_mem.1 hi
      obtain ⟨h2, hne⟩ := with0_back hk h1 hx
      have := cntZ_at h2
      rw [cntZ_at h1]
      refine Nat.le_of_eq (this.symm.trans ?_)
      congr 1
      by_cases hc : n < k
      · rw [if_pos hc, if_pos (by omega)]
      · rw [if_neg hc, if_neg (by omega)]; omega
    · obtain ⟨n, x, rfl, h1, hx⟩ := used_mem.1 hi
      obtain ⟨m, y, rfl, h3, hy⟩ := used_mem.1 hj
      have n1 := (with0_back hk h1 hx).2
      have n2 := (with0_back hk h3 hy).2
      split at e <;> split at e <;> omega
theorem with0_not {zs : List Int} {k : Nat} (hk : k ≤ zs.length) : ((k : Int)) ∉ used (with0 zs k) := by
  intro h
  obtain ⟨n, x, e, h1, hx⟩ := used_mem.1 h
  obtain rfl : k = n := by omega
  rw [with0_mid hk] at h1; injection h1 with h1; omega
theorem one0I : ∀ u ∈ [Value.int .i64 0], u.oneCell' = true := by simp [Value.oneCell']

set_option maxRecDepth 100000 in
set_option maxHeartbeats 8000000 in
theorem bestNone_walk (A2 : Option Addr) (c2 : Nat) (zs : List Int) (k0 : Int) (w : World) (hz : Seen w w.heap.size A2 (ints .i64 zs)) (hzw : ∀ x ∈ zs, (Lit.int .i64 x).wf = true) (hzl : zs.length ≤ maxLen) (hcap : zs.length ≤ c2) (hcm : c2 ≤ maxLen) (hk0 : -9223372036854775808 ≤ k0 ∧ k0 ≤ 9223372036854775807) :
    Calls Try.prog 12 #[.slice A2 zs.length c2, .int .i64 k0] w fun e w' => e = .returned (.bool true) ∧ Below w.heap.size w w' := by
  clear hzw
  unfold maxLen at hcm
  have Hzl := veil hzl
  unfold maxLen at hzl
  go_enter Try.func12, Try.ntmps12
  go_wp2_with fail
  refine (bested_any _).mono ?_
  rintro e W ⟨rfl, hbel1⟩
  have hz1 := hbel1.size
  by_cases h255 : 255 < zs.length
  · have hq : (255 : Int) < (zs.length : Int) := by omega
    go_wp2
    go_ret
    exact ⟨rfl, hbel1⟩
  · have hq : ¬ (255 : Int) < (zs.length : Int) := by omega
    go_wp2_with fail
    refine (rest_any k0 ((zs.length : Int) + 1) _ (by omega) (by omega) hk0).mono ?_
    rintro e w1' ⟨rfl, rfl⟩
    obtain ⟨k, hk, hkk⟩ : ∃ k : Nat, k ≤ zs.length ∧ k0 % ((zs.length : Int) + 1) = k := by
      have h1 := Int.emod_nonneg k0 (b := (zs.length : Int) + 1) (by omega)
      have h2 := Int.emod_lt_of_pos k0 (b := (zs.length : Int) + 1) (by omega)
      exact ⟨(k0 % ((zs.length : Int) + 1)).toNat, by omega, by omega⟩
    rw [hkk]
    clear hkk hk0
    have hzs := hz.below hbel1 (Nat.le_refl _)
    obtain ⟨A3, hA3, hs3⟩ := cut_drop hzs hk hcap
    have hcut1 := run_cutI_end A2 zs.length c2 k hk
    have hcut2 := run_cutI_to A2 zs.length c2 k (by omega)
    rw [hA3] at hcut1
    clear hA3
    have hs1 := hzs.takeInts k
    have htl : (zs.take k).length = k := by rw [List.length_take]; omega
    have HT : Hid (with0 zs k = zs.take k ++ [0] ++ zs.drop k) := rfl
    have hdl : (zs.drop k).length + k = zs.length := by rw [List.length_drop]; omega
    generalize zs.drop k = d at *
    generalize zs.take k = t at *
    generalize c2 - k = c9 at *
    have Hd1 := veil (show (ints .i64 d).length = d.length * 1 by rw [ints_length]; omega)
    have Hd2 : Hid ((ints .i64 t).length = k * 1) := by show _ = _; rw [ints_length, htl]; omega
    have hr1 : 0 + k ≤ maxLen := by unfold maxLen; omega
    have hr2 : (0 + k) * 8 ≤ 140737488355328 := by omega
    have hr3 : 0 + k + 1 ≤ maxLen := by unfold maxLen; omega
    have hr4 : (0 + k + 1) * 8 ≤ 140737488355328 := by omega
    have hr5 : 0 + k + 1 + d.length ≤ maxLen := by unfold maxLen; omega
    have hr6 : (0 + k + 1 + d.length) * 8 ≤ 140737488355328 := by omega
    have Hdl := veil hdl
    have Htl := veil htl
    clear hdl htl
    have HCv : Hid (∀ v wx, Owns W.heap.size [⟨3, 1, v, 0 + k + 1 + d.length, [] ++ ints .i64 t ++ [Value.int .i64 0] ++ ints .i64 d⟩] wx → Owns W.heap.size [intRow 3 .i64 v (with0 zs k)] wx) := by
      intro v wx h
      have e : (⟨3, 1, v, 0 + k + 1 + d.length, [] ++ ints .i64 t ++ [Value.int .i64 0] ++ ints .i64 d⟩ : Row) = intRow 3 .i64 v (with0 zs k) := by
        rw [HT.out]; simp only [intRow, List.length_append, List.length_cons, List.length_nil, Htl.out, Nat.zero_add, List.nil_append, ints_append]; rfl
      rw [e] at h; exact h
    have HO0 := ((Owns.start W).fresh 3 1)
    go_upto_region 6 with fail
    go_cut [5] (fun v5 wx => Owns W.heap.size [intRow 3 .i64 v5 (with0 zs k)] wx ∧ Below W.heap.size W wx)
    case first =>
     go_region_held3 (fun _ => True) (trivial)
       (first
         | (refine step_ownV _ ?a1x (.const (.slice none 0 0)) (.tmp 24) _ ?a2x W.heap.size 3 1 8 elemN (.slice none 0 0) 0 [] [] ?a3x HO0.drew w.heap.size A2 k c2 (ints .i64 t) ?a4x hs1 Hd2.out ints_one hr1 hr2 ?_
            case a2x => rfl
            case a1x => rfl
            case a3x => rfl
            case a4x => rfl
            intro v1 wa HO1 hgr1 hbl1)
         | (refine step_ownV _ ?a1y (.const (.slice none 0 0)) (.tmp 24) _ ?a2y W.heap.size 3 1 8 elemN (.slice none 0 0) 0 [] [] ?a3y (HO0.drew.alloc _) w.heap.size A2 k c2 (ints .i64 t) ?a4y (hs1.alloc hz1 _) Hd2.out ints_one hr1 hr2 ?_
            case a2y => rfl
            case a1y => rfl
            case a3y => rfl
            case a4y => rfl
            intro v1 wa HO1 hgr1 hbl1)
         | (refine step_ownV _ ?b1x (.tmp 25) (.tmp 26) _ ?b2x W.heap.size 3 1 8 elemN v1 (0 + k) ([] ++ ints .i64 t) [] ?b3x (HO1.alloc _) (wa.heap.size + 1) (some ⟨wa.heap.size, 0, none⟩) 1 1 [Value.int .i64 0] ?b4x (Seen.new wa _ _ _ (Nat.lt_succ_self _)) rfl one0I hr3 hr4 ?_
            case b2x => rfl
            case b1x => rfl
            case b3x => rfl
            case b4x => rfl
            intro v2 wb HO2 hgr2 hbl2
            have hb2 : Below W.heap.size W wb := below_wx hbl1 hbl2 (Nat.le_refl _)
            clear hgr2)
         | (refine step_ownV _ ?b1y (.tmp 25) (.tmp 26) _ ?b2y W.heap.size 3 1 8 elemN v1 (0 + k) ([] ++ ints .i64 t) [] ?b3y HO1 (W.heap.size + 1 + wa.heap.size) (some ⟨W.heap.size, 0, none⟩) 1 1 [Value.int .i64 0] ?b4y (seen_after hgr1) rfl one0I hr3 hr4 ?_
            case b2y => rfl
            case b1y => rfl
            case b3y => rfl
            case b4y => rfl
            intro v2 wb HO2 hgr2 hbl2
            have hb2 : Below W.heap.size W wb := below_wy hbl1 hbl2 (Nat.le_refl _)
            clear hgr2)
         | (refine step_ownV _ ?c1x (.tmp 27) (.tmp 30) _ ?c2x W.heap.size 3 1 8 elemN v2 (0 + k + 1) ([] ++ ints .i64 t ++ [Value.int .i64 0]) [] ?c3x HO2 w.heap.size A3 d.length c9 (ints .i64 d) ?c4x (hs3.below hb2 hz1) Hd1.out ints_one hr5 hr6 ?_
            case c2x => rfl
            case c1x => rfl
            case c3x => rfl
            case c4x => rfl
            intro v3 wc HO3 hgr3 hbl3
            have hb3 : Below W.heap.size W wc := hb2.trans hbl3
            clear hgr3)
         | fail)
     all_goals
       go_wp2_with fail
       go_meet
       case rel => exact ⟨HCv.out _ _ HO3, hb3⟩
    case rest =>
      obtain ⟨HO4, hbc⟩ := hcut
      have hE := with0_err hk (show zs.length ≤ 255 by omega)
      have HLeast := veil (fun L L' h h' => with0_least hk (L := L) (L' := L') h h')
      have Hnot := veil (with0_not hk)
      have hTl := with0_length hk
      have HE := veil hE; have HTl := veil hTl
      clear hcut1 hcut2 hs3 hs1 HO0 hr1 hr2 hr3 hr4 hr5 hr6 Hd1 Hd2 HT Hdl Htl hE hTl HCv
      generalize with0 zs k = T at *
      obtain ⟨A6, c6, e6, hs6, _, _⟩ := HO4.seen (List.mem_singleton.2 rfl)
      simp only [intRow] at e6 hs6
      subst e6
      have hbelc : Below w.heap.size w wc := hbel1.trans (hbc.mono hz1)
      have hzc := hbelc.size
      have HTm : Hid (T.length ≤ maxLen) := by show _ ≤ _; rw [HTl.out]; unfold maxLen; omega
      have HM1 := veil (made_any A2 c2 w.heap.size zs wc (hz.below hbelc (Nat.le_refl _)) hzc Hzl.out)
      clear HO4
      go_wp2_with fail
      refine HM1.out.mono ?_
      rintro e w2 ⟨n1, rfl, hn1, hb2⟩
      have HN1 := veil hn1
      have hz2 := hb2.size
      have hbel2 : Below w.heap.size w w2 := hbelc.trans (hb2.mono hzc)
      have hs7 := (hs6.below hb2 (Nat.le_refl _)).up hz2
      have HM2 := veil (made_any A6 c6 w2.heap.size T w2 hs7 (Nat.le_refl _) HTm.out)
      clear HM1 hn1 hs6
      go_wp2_with fail
      refine HM2.out.mono ?_
      rintro e w3 ⟨n2, rfl, hn2, hb3⟩
      have HN2 := veil hn2
      have hz3 := hb3.size
      have hbel3 : Below w.heap.size w w3 := hbel2.trans (hb3.mono hbel2.size)
      have hs8 := (hs7.below hb3 (Nat.le_refl _)).up hz3
      have HM3 := veil (make_any A6 c6 w3.heap.size T w3 hs8 (Nat.le_refl _) HTm.out)
      clear HM2 hn2 hs7
      go_wp2_with fail
      refine HM3.out.mono ?_
      rintro e w4 ⟨cs2, syms2, A8, c8, rfl, hM2, HO8, hb4⟩
      have hsy2 := MadeT.seen (zs := T) (cs := cs2) HO8
      have hbel4 : Below w.heap.size w w4 := hbel3.trans (hb4.mono hbel3.size)
      have Hl2 := veil (tabCells_length (A := A8) (n := syms2.length) (c := c8) hM2.len)
      have hone2 := tabCells_one (cs := cs2) (A := A8) (n := syms2.length) (c := c8)
      have hlast := tabCells_last (A := A8) (n := syms2.length) (c := c8) hM2.len
      have Hok2 := veil hM2.ok
      have hshort := hM2.short
      unfold tabV
      generalize tabCells cs2 A8 syms2.length c8 = xs at *
      have d16 : (w4.alloc (.cells xs.toArray 25)).cell? ⟨w4.heap.size, 16, none⟩ = some (.slice A8 syms2.length c8) := by
        rw [World.cell?_alloc_at _ _ _ _ rfl]; simpa using hlast
      have hbelE : Below w.heap.size w (w4.alloc (.cells xs.toArray 25)) := hbel4.trans ((below1 w4 _).mono hbel4.size)
      have hokT : okB T = okB zs := by unfold okB; rw [HE.out]
      rw [hokT, HE.out]
      clear HM3 HO8 hM2 hlast hs8 hokT
      by_cases he : errB zs = 0
      · obtain ⟨k1, _⟩ := Hok2.out (by rw [HE.out]; exact he)
        obtain ⟨L, hL, eL⟩ := HN1.out he
        obtain ⟨L', hL', eL'⟩ := HN2.out (by rw [HE.out]; exact he)
        have hv : n2 = n1 := by rw [eL, eL', HLeast.out L L' hL hL']
        have hh : decide ((k : Int) ∈ syms2) = false := by
          simp only [decide_eq_false_iff_not]
          intro h; exact Hnot.out ((k1 _).1 h)
        have hob : okB zs = true := by unfold okB; simp [he]
        have HH := veil (fun w5 G h => hasInt A8 c8 G syms2 (k : Int) w5 h (by unfold maxLen; omega))
        rw [hh] at HH
        subst hv
        rw [hob, he]
        clear k1 hL hL' eL eL' hh hob he Hok2 HLeast HN1 HN2 HE Hnot
        go_wp2_with (first
          | (refine wpList_store_tab w4 rfl (.tmp 10) (.tmp 45) rfl xs Hl2.out hone2 rfl rfl ?_)
          | fail)
        refine (HH.out _ w4.heap.size (hsy2.alloc (Nat.le_refl _) _)).mono ?_
        rintro e w5 ⟨rfl, rfl⟩
        go_wp2
        go_ret
        exact ⟨by simp, hbelE⟩
      · have hob : okB zs = false := by unfold okB; simp [he]
        have hne : (errB zs == 0) = false := by simpa using he
        rw [hob]
        clear hob he Hok2 HLeast HN1 HN2 HE Hnot
        generalize errB zs = E at *
        go_wp2_with (first
          | (refine wpList_store_tab w4 rfl (.tmp 10) (.tmp 45) rfl xs Hl2.out hone2 rfl rfl ?_)
          | fail)
        go_ret
        exact ⟨by simp, hbelE⟩
end Go.Proofs.Ythelblkpfkngmaa
