/- BestTurned returns true: which symbol comes how often is of no matter to how much all take. -/
import Derived.Test.YthelblkpfkngmaaBested
import Derived.Test.YthelblkpfkngmaaBestMath2
import Derived.Test.YthelblkpfkngmaaCutInt
import Derived.Test.YthelblkpfkngmaaRest
namespace Go.Proofs.Ythelblkpfkngmaa
open Go.RowKit
set_option linter.unusedVariables false
set_option linter.unusedSimpArgs false

def turn (zs : List Int) (k : Nat) : List Int := zs.drop k ++ zs.take k
theorem turn_perm (zs : List Int) (k : Nat) : (turn zs k).Perm zs := by
  unfold turn
  refine List.perm_append_comm.trans ?_
  rw [List.take_append_drop]
theorem errB_perm {xs ys : List Int} (h : xs.Perm ys) : errB xs = errB ys := by
  unfold errB
  rw [h.length_eq]
  have : xs.any outB = ys.any outB := by
    rw [Bool.eq_iff_iff, List.any_eq_true, List.any_eq_true]
    constructor
    · rintro ⟨x, h1, h2⟩; exact ⟨x, h.mem_iff.1 h1, h2⟩
    · rintro ⟨x, h1, h2⟩; exact ⟨x, h.mem_iff.2 h1, h2⟩
  rw [this]
theorem turn_at {zs : List Int} {k : Nat} (hk : k ≤ zs.length) {i : Nat} {x : Int} (h : zs[i]? = some x) : (turn zs k)[if k ≤ i then i - k else i + (zs.length - k)]? = some x := by
  have hi := (List.getElem?_eq_some_iff.1 h).1
  unfold turn
  by_cases hki : k ≤ i
  · rw [if_pos hki, List.getElem?_append_left (by simp; omega), List.getElem?_drop, show k + (i - k) = i by omega, h]
  · rw [if_neg hki, List.getElem?_append_right (by simp), List.length_drop, List.getElem?_take, if_pos (by omega), show i + (zs.length - k) - (zs.length - k) = i by omega, h]
theorem turn_back {zs : List Int} {k : Nat} (hk : k ≤ zs.length) {j : Nat} {x : Int} (h : (turn zs k)[j]? = some x) : zs[if j < zs.length - k then j + k else j - (zs.length - k)]? = some x := by
  unfold turn at h
  by_cases hj : j < zs.length - k
  · rw [List.getElem?_append_left (by simp; exact hj), List.getElem?_drop] at h
    rw [if_pos hj, Nat.add_comm, h]
  · rw [List.getElem?_append_right (by simp; omega), List.length_drop, List.getElem?_take] at h
    rw [if_neg hj]
    split at h
    · exact h
    · cases h
theorem turn_least {zs : List Int} {k : Nat} (hk : k ≤ zs.length) {L L' : Int → Nat} (h : BestL zs L) (h' : BestL (turn zs k) L') : costL zs L = costL (turn zs k) L' := by
  refine Nat.le_antisymm ?_ ?_
  · refine least_le (f := fun i => if (k : Int) ≤ i then i - k else i + (zs.length - k : Nat)) (fun i hi => ?_) (fun i hi j hj e => ?_) h h'.code
    · obtain ⟨n, x, rfl, h1, _⟩ := used_mem.1 hi
      have := cntZ_at (turn_at hk h1)
      rw [cntZ_at h1]
      refine Nat.le_of_eq (this.symm.trans ?_)
      congr 1
      by_cases hc : k ≤ n
      · rw [if_pos hc, if_pos (by omega)]; omega
      · rw [if_neg hc, if_neg (by omega)]; omega
    · have h1 := used_pos hi
      have h2 := used_pos hj
      split at e <;> split at e <;> omega
  · refine least_le (f := fun i => if i < (zs.length - k : Nat) then i + k else i - (zs.length - k : Nat)) (fun i hi => ?_) (fun i hi j hj e => ?_) h' h.code
    · obtain ⟨n, x, rfl, h1, _⟩ := used_mem.1 hi
      have := cntZ_at (turn_back hk h1)
      rw [cntZ_at h1]
      refine Nat.le_of_eq (this.symm.trans ?_)
      congr 1
      by_cases hc : n < zs.length - k
      · rw [if_pos hc, if_pos (by omega)]; omega
      · rw [if_neg hc, if_neg (by omega)]; omega
    · have h1 := used_pos hi
      have h2 := used_pos hj
      have hl : (turn zs k).length = zs.length := (turn_perm zs k).length_eq
      rw [hl] at h1 h2
      split at e <;> split at e <;> omega

set_option maxRecDepth 100000 in
set_option maxHeartbeats 8000000 in
theorem bestTurned_walk (A2 : Option Addr) (c2 : Nat) (zs : List Int) (k0 : Int) (w : World) (hz : Seen w w.heap.size A2 (ints .i64 zs)) (hzw : ∀ x ∈ zs, (Lit.int .i64 x).wf = true) (hzl : zs.length ≤ maxLen) (hcap : zs.length ≤ c2) (hcm : c2 ≤ maxLen) (hsz : zs.length * 8 ≤ 140737488355328) (hk0 : -9223372036854775808 ≤ k0 ∧ k0 ≤ 9223372036854775807) :
    Calls Try.prog 7 #[.slice A2 zs.length c2, .int .i64 k0] w fun e w' => e = .returned (.bool true) ∧ Below w.heap.size w w' := by
  clear hzw
  unfold maxLen at hcm
  have Hzl := veil hzl
  unfold maxLen at hzl
  go_enter Try.func7, Try.ntmps7
  go_wp2_with fail
  refine (bested_any _).mono ?_
  rintro e w1 ⟨rfl, hbel1⟩
  have hz1 := hbel1.size
  go_wp2_with fail
  refine (rest_any k0 ((zs.length : Int) + 1) _ (by omega) (by omega) hk0).mono ?_
  rintro e w1' ⟨rfl, rfl⟩
  obtain ⟨k, hk, hkk⟩ : ∃ k : Nat, k ≤ zs.length ∧ k0 % ((zs.length : Int) + 1) = k := by
    have h1 := Int.emod_nonneg k0 (b := (zs.length : Int) + 1) (by omega)
    have h2 := Int.emod_lt_of_pos k0 (b := (zs.length : Int) + 1) (by omega)
    exact ⟨(k0 % ((zs.length : Int) + 1)).toNat, by omega, by omega⟩
  rw [hkk]
  clear hkk hk0
  have hzs := hz.below hbel1 (Nat.le_refl _)
  obtain ⟨A3, hA3, hs3⟩ := cut_drop hzs hk hcap
  have hcut1 := run_cutI_end A2 zs.length c2 k hk
  have hcut2 := run_cutI_to A2 zs.length c2 k (by omega)
  rw [hA3] at hcut1
  clear hA3
  have hs4 := hzs.takeInts k
  have htl : (zs.take k).length = k := by rw [List.length_take]; omega
  have HT : Hid (turn zs k = zs.drop k ++ zs.take k) := rfl
  have hdl : (zs.drop k).length + k = zs.length := by rw [List.length_drop]; omega
  generalize zs.drop k = d at *
  generalize zs.take k = t at *
  generalize c2 - k = c9 at *
  have Hd1 := veil (show (ints .i64 d).length = d.length * 1 by rw [ints_length]; omega)
  have Hd2 : Hid ((ints .i64 t).length = k * 1) := by show _ = _; rw [ints_length, htl]; omega
  have hr1 : 0 + d.length ≤ maxLen := by unfold maxLen; omega
  have hr2 : (0 + d.length) * 8 ≤ 140737488355328 := by omega
  have hr3 : 0 + d.length + k ≤ maxLen := by unfold maxLen; omega
  have hr4 : (0 + d.length + k) * 8 ≤ 140737488355328 := by omega
  have Hdl := veil hdl
  have Htl := veil htl
  clear hdl htl
  go_wp2_with fail
  have HO0 := ((Owns.start w1).fresh 3 1)
  go_region_held3 (fun _ => True) (trivial)
    (first
      | (refine step_ownV _ ?ta1 (.const (.slice none 0 0)) (.tmp 23) _ ?ta2 w1.heap.size 3 1 8 elemN (.slice none 0 0) 0 [] [] ?ta3 HO0.drew w.heap.size A3 d.length c9 (ints .i64 d) ?ta4 hs3 Hd1.out ints_one hr1 hr2 ?_
         case ta2 => rfl
         case ta1 => rfl
         case ta3 => rfl
         case ta4 => rfl
         intro v1 wa HO1 hgr1 hbl1)
      | (refine step_ownV _ ?tb1 (.tmp 24) (.tmp 27) _ ?tb2 w1.heap.size 3 1 8 elemN v1 (0 + d.length) ([] ++ ints .i64 d) [] ?tb3 HO1 w.heap.size A2 k c2 (ints .i64 t) ?tb4 (hs4.below (below_of_drew hbl1) hz1) Hd2.out ints_one hr3 hr4 ?_
         case tb2 => rfl
         case tb1 => rfl
         case tb3 => rfl
         case tb4 => rfl
         intro v2 wb HO2 hgr2 hbl2)
      | fail)
  have hperm := turn_perm zs k
  have hE := errB_perm hperm
  have HLeast := veil (fun L L' h h' => turn_least hk (L := L) (L' := L') h h')
  have hTl := hperm.length_eq
  have HO3 : Owns w1.heap.size [intRow 3 .i64 v2 (turn zs k)] wb := by
    have e : (⟨3, 1, v2, 0 + d.length + k, [] ++ ints .i64 d ++ ints .i64 t⟩ : Row) = intRow 3 .i64 v2 (turn zs k) := by
      rw [HT.out]; simp only [intRow, List.length_append, Htl.out, Nat.zero_add, List.nil_append, ints_append]
    rw [e] at HO2; exact HO2
  generalize turn zs k = T at *
  obtain ⟨A6, c6, e6, hs6, _, _⟩ := HO3.seen (List.mem_singleton.2 rfl)
  simp only [intRow] at e6 hs6
  subst e6
  have hbelb : Below w.heap.size w wb := hbel1.trans ((below_of_drew (hbl1.trans hbl2)).mono hz1)
  have hzb := hbelb.size
  have HE := veil hE; have HTl := veil hTl
  clear hcut1 hcut2 hs3 hs4 HO0 HO1 HO2 HO3 hgr1 hgr2 hbl1 hbl2 hr1 hr2 hr3 hr4 Hd1 Hd2 HT Hdl Htl hperm hE hTl
  have HM1 := veil (make_any A2 c2 w.heap.size zs wb (hz.below hbelb (Nat.le_refl _)) hzb Hzl.out)
  go_wp2_with fail
  refine HM1.out.mono ?_
  rintro e w2 ⟨cs1, syms1, A7, c7, rfl, hM1, HO7, hb2⟩
  have hsy1 := MadeT.seen (zs := zs) (cs := cs1) HO7
  have hbel2 : Below w.heap.size w w2 := hbelb.trans (hb2.mono hzb)
  have hz2 := hbel2.size
  have hzb2 := hb2.size
  have Hl1 := veil (tabCells_length (A := A7) (n := syms1.length) (c := c7) hM1.len)
  have hone1 := tabCells_one (cs := cs1) (A := A7) (n := syms1.length) (c := c7)
  have HK1 := veil (fun w3 G h1 h2 h3 => cost_any cs1 syms1 zs A7 A2 c7 c2 G w3 hM1.len (by have := hM1.short; unfold maxLen; omega) hM1.bnd h1 h2 h3 Hzl.out)
  have Hok1 := veil hM1.ok
  unfold tabV at HK1 ⊢
  generalize tabCells cs1 A7 syms1.length c7 = ys at *
  clear HM1 HO7 hM1
  go_wp2_with (first
    | (refine wpList_store_tab w2 rfl (.tmp 6) (.tmp 32) rfl ys Hl1.out hone1 rfl rfl ?_)
    | fail)
  have hbA : Below w2.heap.size w2 (w2.alloc (.cells ys.toArray 25)) := below1 _ _
  have hs6A := (hs6.below hb2 (Nat.le_refl _)).alloc hzb2 (.cells ys.toArray 25)
  have HM2 := veil (make_any A6 c6 wb.heap.size T (w2.alloc (.cells ys.toArray 25)) hs6A (by simp; omega) (by rw [HTl.out]; exact Hzl.out))
  refine HM2.out.mono ?_
  rintro e w3 ⟨cs2, syms2, A8, c8, rfl, hM2, HO8, hb3⟩
  have hsy2 := MadeT.seen (zs := T) (cs := cs2) HO8
  have hz3 := hb3.size
  simp at hz3
  have hb23 : Below w2.heap.size w2 w3 := hbA.trans (hb3.mono (by simp))
  have hbel3 : Below w.heap.size w w3 := hbel2.trans (hb23.mono hz2)
  have hr1' : w3.rangeAt w2.heap.size 0 ys := range_below (range_new w2 ys 25) hb3 (by simp)
  have Hr1 := veil hr1'
  have Hl2 := veil (tabCells_length (A := A8) (n := syms2.length) (c := c8) hM2.len)
  have hone2 := tabCells_one (cs := cs2) (A := A8) (n := syms2.length) (c := c8)
  have HK2 := veil (fun w4 G h1 h2 h3 => cost_any cs2 syms2 T A8 A6 c8 c6 G w4 hM2.len (by have := hM2.short; unfold maxLen; omega) hM2.bnd h1 h2 h3 (by rw [HTl.out]; exact Hzl.out))
  have Hok2 := veil hM2.ok
  unfold tabV at HK2 ⊢
  generalize tabCells cs2 A8 syms2.length c8 = xs at *
  clear HM2 HO8 hM2 hr1' hbA hs6A
  go_wp2_with (first
    | (refine wpList_store_tab w3 rfl (.tmp 8) (.tmp 37) rfl xs Hl2.out hone2 rfl rfl ?_)
    | (refine wpList_load_mid rfl 25 (.tmp 6) rfl w2.heap.size 0 rfl ys _ (World.rangeAt_alloc Hr1.out _) Try.underlying25 rfl (by rw [Hl1.out]; exact info_tab) ?_)
    | fail)
  have hbB := below1 w3 (.cells xs.toArray 25)
  refine (HK1.out _ w3.heap.size (((hsy1.below hb23 (Nat.le_refl _)).up (by omega)).alloc (Nat.le_refl _) _) (((hz.below hbel3 (Nat.le_refl _)).up hbel3.size).alloc (Nat.le_refl _) _) (by simp)).mono ?_
  rintro e w4 ⟨rfl, hb4⟩
  have hb34 : Below w3.heap.size w3 w4 := hbB.trans (hb4.mono (by simp))
  have hz4 := hb34.size
  have hbel4 : Below w.heap.size w w4 := hbel3.trans (hb34.mono hbel3.size)
  have hr2' : w4.rangeAt w3.heap.size 0 xs := range_below (range_new w3 xs 25) hb4 (by simp)
  have Hr2 := veil hr2'
  clear hr2' hbB hb4 HK1
  go_wp2_with (first
    | (refine wpList_load_mid rfl 25 (.tmp 8) rfl w3.heap.size 0 rfl xs _ Hr2.out Try.underlying25 rfl (by rw [Hl2.out]; exact info_tab) ?_)
    | fail)
  refine (HK2.out _ w3.heap.size (hsy2.below hb34 (Nat.le_refl _)) ((((hs6.below hb2 (Nat.le_refl _)).up hzb2).below hb23 (Nat.le_refl _)).up (by omega) |>.below hb34 (Nat.le_refl _)) hz4).mono ?_
  rintro e w5 ⟨rfl, hb5⟩
  have hbel5 : Below w.heap.size w w5 := hbel4.trans (hb5.mono hbel4.size)
  rw [HE.out] at Hok2
  rw [HE.out]
  by_cases he : errB zs = 0
  · obtain ⟨_, _, _, k4, L, k5, k6, _⟩ := Hok1.out he
    obtain ⟨_, _, _, k4', L', k5', k6', _⟩ := Hok2.out he
    have hv : costV cs2 syms2 T = costV cs1 syms1 zs := by rw [k6, k6', HLeast.out L L' k5 k5']
    rw [k4, k4', hv, he]
    generalize costV cs1 syms1 zs = v at *
    clear k4 k4' k5 k5' k6 k6' hv he Hok1 Hok2 HE HLeast
    go_wp2
    go_ret
    exact ⟨by simp, hbel5⟩
  · have hne : (errB zs == 0) = false := by simpa using he
    have hne2 : (errB zs != 0) = true := by simpa using he
    clear he Hok1 Hok2 HE HLeast
    generalize errB zs = E at *
    generalize costV cs1 syms1 zs = v1 at *
    generalize costV cs2 syms2 T = v2 at *
    generalize costE cs1 syms1 zs = e1 at *
    generalize costE cs2 syms2 T = e2 at *
    go_wp2
    go_ret
    exact ⟨by simp, hbel5⟩
end Go.Proofs.Ythelblkpfkngmaa
