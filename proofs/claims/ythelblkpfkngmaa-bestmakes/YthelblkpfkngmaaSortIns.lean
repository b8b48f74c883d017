/- slices.insertionSortCmpFunc over bundles: its contract. -/
import Derived.Test.YthelblkpfkngmaaSortCmp
namespace Go.Proofs.Ythelblkpfkngmaa
open Go.Shelf Go.RowKit Go.Lib Go.Sort
set_option linter.unusedVariables false
set_option linter.unusedSimpArgs false

theorem mixedH : Try.prog.follows .mixedOrders = true := by kernel_rfl
set_option maxHeartbeats 4000000 in
set_option maxRecDepth 1000000 in
theorem insertion_any (blk off cap a b : Nat) (d0 d : Array Hd) (w0 w : World) (R : RowK encH 2 w0 blk off d0) (hs : d0.size = d.size) (S : SWK encH 2 w0 blk off d w) (hab : a ≤ b) (hb : b ≤ d.size) (hsz : d.size < 4611686018427387904) :
    Calls Try.prog 57 #[.slice (some ⟨blk, off, none⟩) d.size cap, .int .i64 a, .int .i64 b, .func (.func 42) #[] #[]] w fun e w' => e = .returned (.tuple #[]) ∧ SWK encH 2 w0 blk off (insertionSort (ltOf cfH) d a b) w' := by
  have mixed := mixedH
  have eg := entersH
  have S0 : Aside (SWK encH 2 w0 blk off d w) := S
  clear S
  go_enter Try.func57, Try.ntmps57
  go_wp2
  go_loopg [8] (b - a) (fun g1 vi wr => ∃ (i : Nat) (dk : Array Hd), vi = .int .i64 i ∧ a < i ∧ i ≤ b + 1 ∧ b + 1 - i ≤ g1 + 1 ∧ dk.size = d.size ∧ Aside (SWK encH 2 w0 blk off dk wr) ∧ Hid (insOuter (ltOf cfH) a b i dk = insOuter (ltOf cfH) a b (a + 1) d))
  case atStart => exact ⟨a + 1, d, by go_num, by omega, by omega, by omega, rfl, S0, rfl⟩
  case round =>
    clear S0
    obtain ⟨i, dk, rfl, hai, hib, hg1, hsk, S1, HO⟩ := hrel
    by_cases hlt : i < b
    · have hltz : (i : Int) < (b : Int) := by omega
      go_wp2
      go_loopg [9] i (fun g2 vj wr2 => ∃ (j : Nat) (dj : Array Hd), vj = .int .i64 j ∧ a ≤ j ∧ j ≤ i ∧ j ≤ g2 ∧ dj.size = d.size ∧ Aside (SWK encH 2 w0 blk off dj wr2) ∧ Hid (insInner (ltOf cfH) a j dj = insInner (ltOf cfH) a i dk))
      case atStart => exact ⟨i, dk, rfl, by omega, Nat.le_refl _, Nat.le_refl _, hsk, S1, rfl⟩
      case round =>
        clear S1
        obtain ⟨j, dj, rfl, haj, hji, hg2, hsj, S1, HI⟩ := hrel
        have OUT : Aside ((j ≤ a ∨ ltOf cfH dj[j]! dj[j - 1]! = false) → Hid (insOuter (ltOf cfH) a b (i + 1) dj = insOuter (ltOf cfH) a b (a + 1) d)) := fun hs => by
          show _ = _
          rw [← HO.out, insOuter_go _ _ _ _ _ hlt, ← HI.out, insInner_stop _ _ _ _ hs]
        by_cases hja : a < j
        · have hjaz : (a : Int) < (j : Int) := by omega
          obtain ⟨jp, rfl⟩ : ∃ jp, j = jp + 1 := ⟨j - 1, by omega⟩
          have hwp : IntKind.i64.wrap (jp : Int) = (jp : Int) := by rw [IntKind.wrap_i64]; omega
          have jz : (jp : Int) + 1 < (d.size : Int) := by omega
          have jz1 : (jp : Int) < (d.size : Int) := by omega
          have hjaz' : (a : Int) < (jp : Int) + 1 := by omega
          have p0 : (0 : Int) ≤ (jp : Int) + 1 := by omega
          have e0 : ((jp : Int) + 1).toNat = jp + 1 := by omega
          obtain ⟨x, hx⟩ : ∃ x, dj[jp + 1]! = x := ⟨_, rfl⟩
          obtain ⟨y, hy⟩ : ∃ y, dj[jp]! = y := ⟨_, rfl⟩
          have cx0 := fun n os => (swk_c0 (S1.out.grown n os) R (by omega) (by omega) hx).1
          have cx1 := fun n os => (swk_c1 (S1.out.grown n os) R (by omega) (by omega) hx).1
          have cy0 := fun n os => (swk_c0 (S1.out.grown n os) R (by omega) (by omega) hy).1
          have cy1 := fun n os => (swk_c1 (S1.out.grown n os) R (by omega) (by omega) hy).1
          have hcmp := S1.out.cmp (cmpLaysH blk off d0.size w0) (by omega) x y
          have hcf := cfH_neg x y
          have Hcf := veil hcf; clear hcf
          have Hx := veil hx; have Hy := veil hy; clear hx hy
          obtain ⟨x1, xA, xn, xc⟩ := x
          obtain ⟨y1, yA, yn, yc⟩ := y
          generalize cfH (x1, xA, xn, xc) (y1, yA, yn, yc) = r at hcmp Hcf
          simp only [encH, Array.append_empty] at cx0 cx1 cy0 cy1 hcmp
          go_wp2_with fail
          go_quiet_grown (first | (go_at_fn 42; refine Calls.grown_of (hcmp _ _)))
          have S2 : Aside (SWK encH 2 w0 blk off dj (grow (wr.drewN nq) osq)) := S1.out.grown nq osq
          clear cx0 cx1 cy0 cy1 hcmp S1
          generalize grow (wr.drewN nq) osq = w2 at S2 ⊢
          clear nq osq
          by_cases hlv : r < 0
          · have hlr : x1 < y1 := Hcf.out.1 hlv
            obtain ⟨bx0, fx0⟩ := swk_c0 S2.out R (by omega) (by omega) Hx.out
            obtain ⟨bx1, fx1⟩ := swk_c1 S2.out R (by omega) (by omega) Hx.out
            obtain ⟨by0, fy0⟩ := swk_c0 S2.out R (by omega) (by omega) Hy.out
            obtain ⟨by1, fy1⟩ := swk_c1 S2.out R (by omega) (by omega) Hy.out
            have S4 := swk_swap S2.out R (jp + 1) jp (by omega) (by omega) _ _ Hx.out Hy.out
            clear S2
            go_wp2_with fail
            go_big_region_o
            all_goals go_wp2
            go_roundg jp
            case measure => omega
            case rel =>
              refine ⟨jp, swp dj (jp + 1) jp, rfl, by omega, by omega, Nat.le_refl _, by rw [size_swp]; exact hsj, S4, (show Hid _ from ?_)⟩
              show _ = _
              have := insInner_go (ltOf cfH) a (jp + 1) dj hja (by simp only [Nat.add_sub_cancel]; rw [Hx.out, Hy.out, ltH]; exact decide_eq_true hlr)
              simp only [Nat.add_sub_cancel] at this
              rw [← HI.out, this]
          · have hlr : ¬ x1 < y1 := fun h => hlv (Hcf.out.2 h)
            go_wp2
            go_roundg (b - (i + 1))
            case measure => omega
            case rel => exact ⟨i + 1, dj, by go_num, by omega, by omega, by omega, hsj, S2, OUT.out (Or.inr (by simp only [Nat.add_sub_cancel]; rw [Hx.out, Hy.out, ltH]; exact decide_eq_false (by simp only; omega)))⟩
        · have hjaz : decide ((j : Int) > (a : Int)) = false := decide_eq_false (by omega)
          have hjaz' : ¬ (a : Int) < (j : Int) := by omega
          go_wp2_with fail
          go_big_region_o
          all_goals go_wp2
          go_roundg (b - (i + 1))
          case measure => omega
          case rel => exact ⟨i + 1, dj, by go_num, by omega, by omega, by omega, hsj, S1.out.drew, OUT.out (Or.inl (by omega))⟩
    · have hltz : ¬ (i : Int) < (b : Int) := by omega
      go_wp2
      go_end0
      exact ⟨rfl, by unfold Sort.insertionSort; rw [← HO.out, insOuter_stop _ _ _ _ _ hlt]; exact S1.out⟩
end Go.Proofs.Ythelblkpfkngmaa
