/- BestRises returns true: what comes more often takes no less. -/
import Derived.Test.YthelblkpfkngmaaBested
import Derived.Test.YthelblkpfkngmaaBestMath2
import Derived.Test.YthelblkpfkngmaaRest
import Derived.StillTailTactics
namespace Go.Proofs.Ythelblkpfkngmaa
open Go.RowKit
set_option linter.unusedVariables false
set_option linter.unusedSimpArgs false

theorem rises_least {zs : List Int} {k : Nat} {x y : Int} (hx : zs[k]? = some x) (hxy : x ≤ y) {L L' : Int → Nat} (h : BestL zs L) (h' : BestL (zs.set k y) L') : costL zs L ≤ costL (zs.set k y) L' := by
  refine least_le (f := fun i => i) (fun i hi => ?_) (fun i _ j _ e => e) h h'.code
  obtain ⟨n, u, rfl, h1, _⟩ := used_mem.1 hi
  by_cases e : k = n
  · subst e
    rw [hx] at h1; injection h1 with h1; subst h1
    have h2 : (zs.set k y)[k]? = some y := by simp [(List.getElem?_eq_some_iff.1 hx).1]
    rw [cntZ_at hx, cntZ_at h2]; omega
  · have h2 : (zs.set k y)[n]? = some u := by rw [List.getElem?_set_ne e]; exact h1
    rw [cntZ_at h1, cntZ_at h2]; omega
/-- One cell of the first of the rows. -/
theorem Owns.setFirst {B g c : Nat} {e : TypeId} {k : IntKind} {l : List Int} {rs : List Row} {w : World} (h : Owns B (intRow e k (.slice (some ⟨g, 0, none⟩) l.length c) l :: rs) w) (i : Nat) (y : Int) : Owns B (intRow e k (.slice (some ⟨g, 0, none⟩) (l.set i y).length c) (l.set i y) :: rs) (w.setCell ⟨g, i, none⟩ (.int k y)) := by
  have h0 : w.ownsRow B e 1 (.slice (some ⟨g, 0, none⟩) l.length c) l.length (ints k l) := h.head
  obtain ⟨h1, h2⟩ := h0.stored i (.int k y)
  have hap := List.pairwise_cons.1 h.apart
  refine ⟨Nat.le_trans h.base h2.size, fun r hm => ?_, List.pairwise_cons.2 ⟨fun s hs => hap.1 s hs, hap.2⟩⟩
  rcases List.mem_cons.1 hm with rfl | hm
  · simp only [intRow, List.length_set]
    have e1 : ints k (l.set i y) = (ints k l).set i (.int k y) := by simp [ints, List.map_set]
    rw [e1]; exact h1
  · refine (h.each r (List.mem_cons_of_mem _ hm)).kept h2 ?_
    cases hv : r.v.ownBlock with
    | none => exact .inl rfl
    | some q => exact .inr fun e => hap.1 r hm g rfl (by rw [hv, e])

set_option maxRecDepth 100000 in
set_option maxHeartbeats 8000000 in
theorem bestRises_walk (A2 : Option Addr) (c2 : Nat) (zs : List Int) (k0 m0 : Int) (w : World) (hz : Seen w w.heap.size A2 (ints .i64 zs)) (hzw : ∀ x ∈ zs, (Lit.int .i64 x).wf = true) (hzl : zs.length ≤ maxLen) (hk0 : -9223372036854775808 ≤ k0 ∧ k0 ≤ 9223372036854775807) (hm0 : -9223372036854775808 ≤ m0 ∧ m0 ≤ 9223372036854775807) :
    Calls Try.prog 8 #[.slice A2 zs.length c2, .int .i64 k0, .int .i64 m0] w fun e w' => e = .returned (.bool true) ∧ Below w.heap.size w w' := by
  have Hzl := veil hzl
  have Hzw := veil hzw; clear hzw
  unfold maxLen at hzl
  go_enter Try.func8, Try.ntmps8
  go_wp2_with fail
  refine (bested_any _).mono ?_
  rintro e w1 ⟨rfl, hbel1⟩
  have hz1 := hbel1.size
  by_cases h0 : zs.length = 0
  · have hq : ((zs.length : Int) == 0) = true := by simp [h0]
    clear h0
    generalize zs.length = n at *
    go_wp2
    go_ret
    exact ⟨rfl, hbel1⟩
  · have hq : ((zs.length : Int) == 0) = false := by rw [beq_eq_false_iff_ne]; omega
    by_cases h256 : 256 < zs.length
    · have hqz : (256 : Int) < (zs.length : Int) := by omega
      go_wp2
      go_ret
      exact ⟨rfl, hbel1⟩
    · have hqz : ¬ (256 : Int) < (zs.length : Int) := by omega
      have hn0 : 0 < zs.length := by omega
      obtain ⟨k, hk, hkk⟩ : ∃ k : Nat, k < zs.length ∧ k0 % (zs.length : Int) = k := by
        have h1 := Int.emod_nonneg k0 (b := (zs.length : Int)) (by omega)
        have h2 := Int.emod_lt_of_pos k0 (b := (zs.length : Int)) (by omega)
        exact ⟨(k0 % (zs.length : Int)).toNat, by omega, by omega⟩
      have R1 := veil (rest_any k0 (zs.length : Int) w1 (by omega) (by omega) hk0)
      rw [hkk] at R1
      obtain ⟨x, hx⟩ := some_at hk
      have hxb := bounds_i64 (Hzw.out x (List.mem_of_getElem? hx))
      have h3 := Int.emod_nonneg m0 (show (50 : Int) ≠ 0 by decide)
      have h4 := Int.emod_lt_of_pos m0 (show (0 : Int) < 50 by decide)
      have R2 := veil (fun w => rest_any m0 50 w (by omega) (by omega) hm0)
      generalize m0 % 50 = r at *
      have Hx := veil hx
      clear hkk hk0 hm0 h0 hx
      have hzs := hz.below hbel1 (Nat.le_refl _)
      go_wp2_with fail
      refine R1.out.mono ?_
      rintro e w1' ⟨rfl, rfl⟩
      clear R1
      have HO0 := ((Owns.start w1).fresh 3 1)
      have Hd1 := veil (show (ints .i64 zs).length = zs.length * 1 by rw [ints_length]; omega)
      go_wp2_with (first
        | (at_builtin; go_loud (refine wpList_ownV w1 rfl (.const (.slice none 0 0)) (.tmp 30) _ rfl w1.heap.size 3 1 8 elemN (.slice none 0 0) 0 [] [] rfl HO0 w.heap.size A2 zs.length c2 (ints .i64 zs) rfl hzs Hd1.out ints_one (by unfold maxLen; omega) (by omega) ?_); intro v' w2 HO1 hb2)
        | fail)
      obtain ⟨g, cap, e7, hg7⟩ : ∃ g cap, v' = .slice (some ⟨g, 0, none⟩) zs.length cap ∧ w1.heap.size ≤ g := by
        rcases HO1.head.2 with ⟨_, h5⟩ | ⟨g, cap, cur, h5, h6, _⟩
        · simp only at h5; omega
        · exact ⟨g, cap, by simp only at h5; rw [h5, Nat.zero_add], h6⟩
      subst e7
      have HO2 : Owns w1.heap.size [intRow 3 .i64 (.slice (some ⟨g, 0, none⟩) zs.length cap) zs] w2 := by
        have e : (⟨3, 1, .slice (some ⟨g, 0, none⟩) zs.length cap, 0 + zs.length, [] ++ ints .i64 zs⟩ : Row) = intRow 3 .i64 (.slice (some ⟨g, 0, none⟩) zs.length cap) zs := by simp [intRow]
        rw [e] at HO1; exact HO1
      have hrow : w2.ownsRow w1.heap.size 3 1 (.slice (some ⟨g, 0, none⟩) zs.length cap) zs.length (ints .i64 zs) := HO2.head
      have cx : w2.cell? ⟨g, k, none⟩ = some (.int .i64 x) := by rw [hrow.cellAt k (by omega)]; exact ints_at Hx.out
      have fx := hrow.frozenAt k
      have hgl := (hrow.lt g rfl).2
      clear HO1 HO0 hrow
      have hkz : (k : Int) < (zs.length : Int) := by omega
      have hk0 : (0 : Int) ≤ (k : Int) := by omega
      have HLeast : Hid (errB zs = 0 → ∀ L L', BestL zs L → BestL (zs.set k (min 9999 (wrap64 (max x 0 + r)))) L' → costL zs L ≤ costL (zs.set k (min 9999 (wrap64 (max x 0 + r)))) L') := by
        intro he L L' h h'
        have hb := (errB_ok he).2 x (List.mem_of_getElem? Hx.out)
        exact rises_least Hx.out (by unfold wrap64; omega) h h'
      have HO3 := (HO2.setFirst k (min 9999 (wrap64 (max x 0 + r)))).drew
      have hb3 : Below w1.heap.size w1 (w2.setCell ⟨g, k, none⟩ (.int .i64 (min 9999 (wrap64 (max x 0 + r))))).drew := (hb2.setCell (by simpa using hg7) _).drew
      have hbel3 := hbel1.trans (hb3.mono hz1)
      have hsz3 : (zs.set k (min 9999 (wrap64 (max x 0 + r)))).length = zs.length := List.length_set
      have HM1 := veil (make_any A2 c2 w.heap.size zs _ (hz.below hbel3 (Nat.le_refl _)) hbel3.size Hzl.out)
      have hs7 := MadeT.seen (zs := zs) (cs := zs) HO3
      have Hsz := veil hsz3
      have Hbel3 := veil hbel3; have Hs7 := veil hs7
      clear HO2 HO3 hb2 hb3 hsz3 hbel3 hs7
      go_still_tail 12, (by kernel_rfl)
      still_call ((R2.out _).mono fun e w' h => ⟨h.1, h.2.symm⟩)
      repeat still_step
      refine wpStill_nil ?_
      change wpList _ _ _ _ _ w2.drew
      go_wp2_with fail
      refine HM1.out.mono ?_
      rintro e w3 ⟨cs1, syms1, A7, c7, rfl, hM1, HO7, hb3⟩
      have hsy1 := MadeT.seen (zs := zs) (cs := cs1) HO7
      have hbelw3 : Below w.heap.size w w3 := Hbel3.out.trans (hb3.mono Hbel3.out.size)
      have hz3 := hbelw3.size
      have hs7' := (Hs7.out.below hb3 (Nat.le_refl _)).up hb3.size
      have Hl1 := veil (tabCells_length (A := A7) (n := syms1.length) (c := c7) hM1.len)
      have hone1 := tabCells_one (cs := cs1) (A := A7) (n := syms1.length) (c := c7)
      have HK1 := veil (fun w3 G h1 h2 h3 => cost_any cs1 syms1 zs A7 A2 c7 c2 G w3 hM1.len (by have := hM1.short; unfold maxLen; omega) hM1.bnd h1 h2 h3 Hzl.out)
      have Hok1 := veil hM1.ok
      clear HM1 HO7 hM1 Hbel3 Hs7 hb3 cx fx
      generalize zs.set k (min 9999 (wrap64 (max x 0 + r))) = T at *
      generalize min 9999 (wrap64 (max x 0 + r)) = y at *
      unfold tabV at HK1 ⊢
      generalize tabCells cs1 A7 syms1.length c7 = ys at *
      go_wp2_with (first
        | (refine wpList_store_tab w3 rfl (.tmp 8) (.tmp 47) rfl ys Hl1.out hone1 rfl rfl ?_)
        | fail)
      have hbA : Below w3.heap.size w3 (w3.alloc (.cells ys.toArray 25)) := below1 _ _
      have hs7A := hs7'.alloc (Nat.le_refl _) (.cells ys.toArray 25)
      have HM2 := veil (make_any (some ⟨g, 0, none⟩) cap w3.heap.size T (w3.alloc (.cells ys.toArray 25)) hs7A (by simp) (by rw [Hsz.out]; exact Hzl.out))
      rw [Hsz.out] at HM2
      refine HM2.out.mono ?_
      rintro e w4 ⟨cs2, syms2, A8, c8, rfl, hM2, HO8, hb4⟩
      have hsy2 := MadeT.seen (zs := T) (cs := cs2) HO8
      have hz4 := hb4.size
      simp at hz4
      have hb34 : Below w3.heap.size w3 w4 := hbA.trans (hb4.mono (by simp))
      have hbel4 : Below w.heap.size w w4 := hbelw3.trans (hb34.mono hz3)
      have Hr1 := veil (range_below (range_new w3 ys 25) hb4 (by simp))
      have Hl2 := veil (tabCells_length (A := A8) (n := syms2.length) (c := c8) hM2.len)
      have hone2 := tabCells_one (cs := cs2) (A := A8) (n := syms2.length) (c := c8)
      have HK2 := veil (fun w4 G h1 h2 h3 => cost_any cs2 syms2 T A8 (some ⟨g, 0, none⟩) c8 cap G w4 hM2.len (by have := hM2.short; unfold maxLen; omega) hM2.bnd h1 h2 h3 (by rw [Hsz.out]; exact Hzl.out))
      rw [Hsz.out] at HK2
      have Hok2 := veil hM2.ok
      unfold tabV at HK2 ⊢
      generalize tabCells cs2 A8 syms2.length c8 = xs at *
      have hbelE : Below w.heap.size w (w4.alloc (.cells xs.toArray 25)) := hbel4.trans ((below1 w4 _).mono hbel4.size)
      clear HM2 HO8 hM2 hbA hs7A
      by_cases he : errB zs = 0
      · by_cases hf : errB T = 0
        · obtain ⟨_, _, _, k4, L, k5, k6, _⟩ := Hok1.out he
          obtain ⟨_, _, _, k4', L', k5', k6', _⟩ := Hok2.out hf
          have hv : costV cs1 syms1 zs ≤ costV cs2 syms2 T := by rw [k6, k6']; have := HLeast.out he L L' k5 k5'; omega
          rw [k4] at HK1
          rw [k4'] at HK2
          rw [he, hf]
          generalize costV cs1 syms1 zs = v1 at *
          generalize costV cs2 syms2 T = v2 at *
          clear k4 k4' k5 k5' k6 k6' he hf Hok1 Hok2 HLeast
          go_wp2_with (first
            | (refine wpList_store_tab w4 rfl (.tmp 10) (.tmp 52) rfl xs Hl2.out hone2 rfl rfl ?_)
            | (refine wpList_load_mid rfl 25 (.tmp 8) rfl w3.heap.size 0 rfl ys _ (World.rangeAt_alloc Hr1.out _) Try.underlying25 rfl (by rw [Hl1.out]; exact info_tab) ?_)
            | fail)
          have hbB := below1 w4 (.cells xs.toArray 25)
          refine (HK1.out _ w4.heap.size (((hsy1.below hb34 (Nat.le_refl _)).up (by omega)).alloc (Nat.le_refl _) _) (((hz.below hbel4 (Nat.le_refl _)).up hbel4.size).alloc (Nat.le_refl _) _) (by simp)).mono ?_
          rintro e w5 ⟨rfl, hb5⟩
          have hb45 : Below w4.heap.size w4 w5 := hbB.trans (hb5.mono (by simp))
          have hz5 := hb45.size
          have hbel5 : Below w.heap.size w w5 := hbel4.trans (hb45.mono hbel4.size)
          have Hr2 := veil (range_below (range_new w4 xs 25) hb5 (by simp))
          clear hbB hb5 HK1
          go_wp2_with (first
            | (refine wpList_load_mid rfl 25 (.tmp 10) rfl w4.heap.size 0 rfl xs _ Hr2.out Try.underlying25 rfl (by rw [Hl2.out]; exact info_tab) ?_)
            | fail)
          refine (HK2.out _ w4.heap.size (hsy2.below hb45 (Nat.le_refl _)) (((hs7'.below hb34 (Nat.le_refl _)).up (by omega)).below hb45 (Nat.le_refl _)) hz5).mono ?_
          rintro e w6 ⟨rfl, hb6⟩
          have hbel6 : Below w.heap.size w w6 := hbel5.trans (hb6.mono hbel5.size)
          go_wp2
          go_ret
          exact ⟨by simp [hv], hbel6⟩
        · have hne : (errB T != 0) = true := by simpa using hf
          rw [he]
          clear he hf Hok1 Hok2 HLeast HK1 HK2
          generalize errB T = E at *
          go_wp2_with (first
            | (refine wpList_store_tab w4 rfl (.tmp 10) (.tmp 52) rfl xs Hl2.out hone2 rfl rfl ?_)
            | fail)
          go_ret
          exact ⟨rfl, hbelE⟩
      · have hne : (errB zs != 0) = true := by simpa using he
        clear he Hok1 Hok2 HLeast HK1 HK2
        generalize errB T = E2 at *
        generalize errB zs = E at *
        go_wp2_with (first
          | (refine wpList_store_tab w4 rfl (.tmp 10) (.tmp 52) rfl xs Hl2.out hone2 rfl rfl ?_)
          | fail)
        go_ret
        exact ⟨rfl, hbelE⟩
end Go.Proofs.Ythelblkpfkngmaa
