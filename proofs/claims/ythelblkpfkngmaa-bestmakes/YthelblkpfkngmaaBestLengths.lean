/- best.lengths: its contract. -/
import Derived.Test.YthelblkpfkngmaaBestSorted
import Derived.Test.YthelblkpfkngmaaBestCount
namespace Go.Proofs.Ythelblkpfkngmaa
open Go.RowKit
set_option linter.unusedVariables false
set_option linter.unusedSimpArgs false

/-- What the first loop holds. -/
def AllIs (w wr : World) (wgt : Int → Nat) (idx : List Int) (j : Nat) (v : Value) : Prop :=
  ∃ A c l ys, v = .slice A l.length c ∧ Chain wgt idx j l ∧ BunsAre wr wr.heap.size l ys ∧ Seen wr wr.heap.size A (hCells ys) ∧ l.length ≤ c ∧ c ≤ maxLen ∧ Below w.heap.size w wr

theorem MapN.start (w : World) (l : List Bun) : MapN (w.alloc (.map #[] 0)) w.heap.size (flatB (l.take 0)).length (cntF (flatB (l.take 0))) := by
  rw [show flatB (l.take 0) = [] by simp [flatB], cntF_nil]
  exact MapN.made w
/-- One symbol more. -/
theorem MapN.count {w : World} {b : Nat} {f : List Int} (h : MapN w b f.length (cntF f)) (hf : f.length ≤ 1099511627776) {s : Int} (hs : WF s) : ∃ q : Nat, q ≤ f.length ∧ (Instr.lookup 48 (.map (some b)) (.int .i64 s) false).run Try.prog w = .ok (.int .i64 (q : Int)) w ∧
    ∃ w', (Instr.mapUpdate 48 (.map (some b)) (.int .i64 s) (.int .i64 ((q : Int) + 1))).run Try.prog w = .ok () w' ∧ MapN w' b (f ++ [s]).length (cntF (f ++ [s])) ∧ w.grownBy w' (some b) := by
  have hle : f.count s ≤ f.length := List.count_le_length
  refine ⟨f.count s, hle, ?_, ?_⟩
  · rw [h.look1 hs, cntF_getD]
  · obtain ⟨w', h1, h2, h3⟩ := h.store (by unfold maxLen; omega) hs (y := (f.count s : Int) + 1) (wf_of (by omega))
    refine ⟨w', h1, ?_, h3⟩
    rw [cntF_snoc] at h2
    rw [List.length_append]
    exact h2

set_option maxHeartbeats 4000000 in
set_option maxRecDepth 100000 in
theorem lengths_any (A : Option Addr) (c G : Nat) (wgt : Int → Nat) (idx : List Int) (xs : List Hd) (w : World) (hs : Seen w G A (hCells xs)) (hB : BunsAre w G (singlesOf wgt idx) xs) (hG : G ≤ w.heap.size)
    (h1 : 1 ≤ idx.length) (h2 : idx.length ≤ 257) (hw : ∀ i ∈ idx, wgt i ≤ 9999) (hwf : ∀ i ∈ idx, WF i) :
    Calls Try.prog 29 #[.slice A idx.length c] w fun e w' => ∃ l n b, e = .returned (.map (some b)) ∧ Chain wgt idx 16 l ∧ w.heap.size ≤ b ∧ MapN w' b n (cntF (flatB (l.take (2 * idx.length - 2)))) ∧ Below w.heap.size w w' := by
  have HB := veil hB; have Hw := veil hw; have Hwf := veil hwf
  have Hxl : Hid (xs.length = idx.length) := by have := hB.1; simp [singlesOf] at this; exact this.symm
  clear hB hw hwf
  go_enter Try.func29, Try.ntmps29
  go_wp2
  go_loopg [3, 9] 16 (fun gk v i wr => ∃ j : Nat, gk = 16 - j ∧ j ≤ 16 ∧ i = .int .i64 (j : Int) ∧ AllIs w wr wgt idx j v)
  case atStart => exact ⟨0, rfl, by omega, rfl, none, 0, [], [], rfl, .zero, BunsAre.nil _ _, .inl rfl, Nat.le_refl _, Nat.zero_le _, Below.refl _ _⟩
  case round =>
    obtain ⟨j, rfl, hj, rfl, A1, c1, l, ys, rfl, hch, hbun, hsee, hlc, hcm, hbel⟩ := hrel
    have Hch := veil hch; have Hbun := veil hbun; have Hbel := veil hbel
    have hlen := hch.lens
    clear hch hbun
    by_cases hlt : j < 16
    · have hltz : (j : Int) < 16 := by omega
      have hp2 : 2 ^ j ≤ 32768 := Nat.le_trans (Nat.pow_le_pow_right (by omega) (show j ≤ 15 by omega)) (by decide)
      have HC := veil (pairs_any A1 c1 wr.heap.size l ys wr hsee Hbun.out (Nat.le_refl _) (by omega) (fun b hb => by have := Hch.out.costs Hw.out b hb; omega) (fun b hb => by have := Hch.out.syms b hb; omega))
      clear hp2
      go_wp2_with fail
      refine HC.out.mono ?_
      rintro e w1 ⟨ys2, rs, v2, rfl, HO1, hR, hb1⟩
      have HR := veil hR; clear hR HC
      obtain ⟨A2, c2, e2, hs2, hl2, hm2⟩ := HO1.seen List.mem_cons_self
      simp only [hRow] at e2 hs2 hl2
      subst e2
      have HO1' := veil HO1; clear HO1
      go_wp2_with fail
      have hz1 := hb1.size
      have hz0 := hbel.size
      have hsx := (hs.below hbel hG).below hb1 (show G ≤ wr.heap.size by omega)
      have hn2 : ys2.length ≤ 1024 := by have := HR.out.1; rw [pairsOf_length] at this; omega
      have HC := veil (concatB_any w1.heap.size 2 idx.length ys2.length c c2 A A2 (hCells xs) (hCells ys2) (w1.alloc (.cells #[.slice A idx.length c, .slice A2 ys2.length c2] 54)) (by simp) (World.cell?_alloc_at (w := w1) _ _ _ _ rfl) (World.cell?_alloc_at (w := w1) _ _ _ _ rfl)
        ((hsx.alloc (by omega) _).up (by simp; omega)) ((hs2.alloc (Nat.le_refl _) _).up (by simp)) (by rw [hCells_length, Hxl.out]) (by rw [hCells_length]) hCells_one hCells_one (by omega))
      refine HC.out.mono ?_
      rintro e w2 ⟨v3, rfl, HO2, hb2⟩
      have HO3 : Owns (w1.heap.size + 1) [hRow v3 (xs ++ ys2)] w2 := by
        have e : (⟨68, 2, v3, idx.length + ys2.length, hCells xs ++ hCells ys2⟩ : Row) = hRow v3 (xs ++ ys2) := by
          simp only [hRow, hCells_append, List.length_append, Hxl.out]
        rw [e] at HO2
        rw [show w1.heap.size + 1 = (w1.alloc (.cells #[.slice A idx.length c, .slice A2 ys2.length c2] 54)).heap.size by simp]
        exact HO2
      have hb2' : Below (w1.heap.size + 1) w1 w2 → True := fun _ => trivial
      have HB2 : Hid (Below w1.heap.size w1 w2) := (below1 w1 _).trans (hb2.mono (by simp))
      have hx1 : 1 ≤ (xs ++ ys2).length := by rw [List.length_append, Hxl.out]; omega
      have hx2 : (xs ++ ys2).length ≤ 1048576 := by rw [List.length_append, Hxl.out]; omega
      have HC2 := veil (sorted_any (w1.heap.size + 1) v3 (xs ++ ys2) w2 HO3 hx1 hx2)
      clear HC HO2 HO3 hb2 hb2' hx1 hx2
      go_wp2_with fail
      refine HC2.out.mono ?_
      rintro e w3 ⟨A3, c3, zs, rfl, rfl, hpm, hpw, hs3, hl3, hm3, hb3⟩
      have Hpm := veil hpm; have Hpw := veil hpw
      clear HC2 hpm hpw
      have hfin : AllIs w w3 wgt idx (j + 1) (.slice A3 zs.length c3) := by
        have hB3 : Below w1.heap.size w1 w3 := HB2.out.trans (hb3.mono (by omega))
        have b1 := ((HB.out.below (Hbel.out.trans (hb1.mono hz0)) hG).up (show G ≤ w1.heap.size by omega)).below hB3 (Nat.le_refl _)
        have b2 := (HR.out.buns HO1'.out.tail).below hB3 (Nat.le_refl _)
        obtain ⟨m, p1, p2⟩ := (b1.append b2).perm Hpm.out
        refine ⟨A3, c3, m, zs, by rw [p2.1], .succ Hch.out p1.symm (asc_of p2 Hpw.out), p2.up hB3.size, hs3, by rw [p2.1]; exact hl3, hm3, ?_⟩
        exact (Hbel.out.trans (hb1.mono hz0)).trans (hB3.mono (by omega))
      clear HB2 HO1' HR Hpm Hpw
      go_wp2_with fail
      go_roundg (16 - (j + 1))
      case rel => exact ⟨j + 1, rfl, by omega, by go_num, hfin⟩
      case measure => omega
    · have hltz : ¬ (j : Int) < 16 := by omega
      have HJ : Hid (j = 16) := by show j = 16; omega
      rw [HJ.out] at Hch
      have hlong := Hch.out.long h1 (by omega)
      have hmm := make_mapN idx.length wr
      unfold maxLen at hcm
      go_wp2_with fail
      generalize hm : 2 * idx.length - 2 = m at *
      have Hm := veil hm; clear hm
      have HF : Hid (∀ k, (flatB (l.take k)).length ≤ 65536 * 514) := fun k => by
        refine Nat.le_trans (flat_len (m := 65536) fun b hb => Hch.out.syms b (List.mem_of_mem_take hb)) ?_
        have : (l.take k).length ≤ l.length := by rw [List.length_take]; omega
        omega
      clear hmm
      rename World => W0
      go_loopg [29] m (fun gk i w2 => ∃ k : Nat, gk = m - k ∧ k ≤ m ∧ i = .int .i64 (k : Int) ∧ MapN w2 W0.heap.size (flatB (l.take k)).length (cntF (flatB (l.take k))) ∧ Below W0.heap.size W0 w2)
      case atStart => exact ⟨0, rfl, by omega, rfl, MapN.start _ _, below1 _ _⟩
      case round =>
        obtain ⟨k, rfl, hk, rfl, HM, hb2⟩ := hrel
        by_cases hlt2 : k < m
        · have hltz2 : (k : Int) < (m : Int) := by omega
          obtain ⟨⟨cb, sa⟩, As, ca, hbk, hxk, hsa⟩ := Hbun.out.at (j := k) (by omega)
          obtain ⟨g, o, rfl, hg, hc0, hc1⟩ := hsee.hd hxk
          rw [← hb2.cell (by simp; omega)] at hc0 hc1
          simp only at hc0 hc1 hsa
          have Hbk := veil hbk
          have hgw : g < wr.heap.size := by have := hb2.size; omega
          clear hbk hxk
          have hsl : sa.length ≤ 65536 := Hch.out.syms _ (List.mem_of_getElem? Hbk.out)
          have Hin : Hid (∀ s ∈ sa, WF s) := fun s hs => Hwf.out s ((Hch.out.each _ (List.mem_of_getElem? Hbk.out)).2.2 s hs)
          have hz2 := hb2.size
          go_wp2_with fail
          clear hc0 hc1
          rename World => W1
          have HM1 := HM.below (below1 W1 (.cells #[.int .i64 (cb : Int), .slice As sa.length ca] 68)) HM.lt
          have hb3 := hb2.trans ((below1 W1 (.cells #[.int .i64 (cb : Int), .slice As sa.length ca] 68)).mono hz2)
          clear HM
          go_loopg [36] sa.length (fun gk i w2 => ∃ t : Nat, gk = sa.length - t ∧ t ≤ sa.length ∧ i = .int .i64 (t : Int) ∧ MapN w2 W0.heap.size (flatB (l.take k) ++ sa.take t).length (cntF (flatB (l.take k) ++ sa.take t)) ∧ Below W0.heap.size W0 w2)
          case atStart => exact ⟨0, rfl, by omega, rfl, by simpa using HM1, hb3⟩
          case round =>
            clear HM1 hb3 hb2
            obtain ⟨t, rfl, ht, rfl, HM, hb2⟩ := hrel
            by_cases hlt3 : t < sa.length
            · have hltz3 : (t : Int) < (sa.length : Int) := by omega
              obtain ⟨g2, o2, s, rfl, hg2, hst, hc2⟩ := hsa.int hlt3
              rw [← hb2.cell (by simp; omega)] at hc2
              have Hst := veil hst; clear hst
              obtain ⟨q, hq, hlk, w3, hup, HM3, hgr⟩ := HM.count (by have := HF.out k; simp only [List.length_append, List.length_take]; omega) (Hin.out s (List.mem_of_getElem? Hst.out))
              have hq2 : q ≤ 1099511627776 := by have := HF.out k; simp only [List.length_append, List.length_take] at hq; omega
              have hb4 : Below W0.heap.size W0 w3 := hb2.grown hgr hb2.size (fun j hj => by injection hj with hj; omega)
              have HM4 : MapN w3 W0.heap.size (flatB (l.take k) ++ sa.take (t + 1)).length (cntF (flatB (l.take k) ++ sa.take (t + 1))) := by
                rw [take_snoc Hst.out, ← List.append_assoc]; exact HM3
              clear HM HM3 hgr hb2 hq
              go_wp2_with fail
              go_roundg (sa.length - (t + 1))
              case rel => exact ⟨t + 1, rfl, by omega, by go_num, HM4, hb4⟩
              case measure => omega
            · have hltz3 : ¬ (t : Int) < (sa.length : Int) := by omega
              have HM4 : MapN wr W0.heap.size (flatB (l.take (k + 1))).length (cntF (flatB (l.take (k + 1)))) := by
                rw [show sa.take t = sa from List.take_of_length_le (by omega)] at HM
                rw [flat_snoc Hbk.out]; exact HM
              clear HM
              go_wp2_with fail
              go_roundg (m - (k + 1))
              case rel => exact ⟨k + 1, rfl, by omega, by go_num, HM4, hb2⟩
              case measure => omega
        · have hltz2 : ¬ (k : Int) < (m : Int) := by omega
          obtain rfl : k = m := by omega
          go_wp2
          go_ret
          refine ⟨l, (flatB (l.take k)).length, W0.heap.size, rfl, Hch.out, Hbel.out.size, ?_, Hbel.out.trans (hb2.mono Hbel.out.size)⟩
          have := Hm.out
          rw [this]
          exact HM
end Go.Proofs.Ythelblkpfkngmaa
