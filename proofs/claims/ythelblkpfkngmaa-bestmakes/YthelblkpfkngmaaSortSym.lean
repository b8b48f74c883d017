/- slices.symMergeCmpFunc over bundles: its contract. -/
import Derived.Test.YthelblkpfkngmaaSortRot
import Derived.Deep.DeepCutAuto
namespace Go.Proofs.Ythelblkpfkngmaa
open Go.Shelf Go.RowKit Go.Lib Go.Sort
set_option linter.unusedVariables false
set_option linter.unusedSimpArgs false

abbrev keyH (x : Hd) : Int := x.1
set_option maxHeartbeats 4000000 in
set_option maxRecDepth 1000000 in
/-- One element ahead. -/
theorem symMerge_one (blk off cap a b : Nat) (d0 d : Array Hd) (w0 w : World) (R : RowK encH 2 w0 blk off d0) (hs : d0.size = d.size) (S : SWK encH 2 w0 blk off d w) (hmb : a + 1 < b) (hb : b ≤ d.size) (hsz : d.size < 4611686018427387904) (hV : SortK keyH (a + 1) b d) :
    Calls Try.prog 58 #[.slice (some ⟨blk, off, none⟩) d.size cap, .int .i64 a, .int .i64 ((a : Int) + 1), .int .i64 b, .func (.func 42) #[] #[]] w fun e w' => e = .returned (.tuple #[]) ∧ ∃ d', PermIn a b d d' ∧ SortK keyH a b d' ∧ SWK encH 2 w0 blk off d' w' := by
  have mixed := mixedH
  have eg := entersH
  have S0 : Aside (SWK encH 2 w0 blk off d w) := S
  have HV := veil hV
  clear S hV
  have ea : ((a : Int) + 1 - (a : Int) == 1) = true := by simp; omega
  go_enter Try.func58, Try.ntmps58
  go_wp2
  go_loopg [10, 11] (b - (a + 1)) (fun g1 vi vj wr => ∃ (i j : Nat), vi = .int .i64 i ∧ vj = .int .i64 j ∧ a + 1 ≤ i ∧ i ≤ j ∧ j ≤ b ∧ j - i ≤ g1 ∧ Aside (SWK encH 2 w0 blk off d wr) ∧ Hid ((∀ h, a + 1 ≤ h → h < i → keyH d[h]! < keyH d[a]!) ∧ ∀ h, j ≤ h → h < b → keyH d[a]! ≤ keyH d[h]!))
  case atStart => exact ⟨a + 1, b, by go_num, rfl, by omega, by omega, by omega, by omega, S0, ⟨fun h _ _ => by omega, fun h _ _ => by omega⟩⟩
  case round =>
    clear S0
    obtain ⟨i, j, rfl, rfl, hai, hij, hjb, hg, S1, HP⟩ := hrel
    by_cases hlt : i < j
    · have hltz : (i : Int) < (j : Int) := by omega
      obtain ⟨h, hh⟩ : ∃ h, h = (i + j) / 2 := ⟨_, rfl⟩
      have e2 : ((i : Int) + (j : Int)) / 2 = (h : Int) := by omega
      have hih : i ≤ h := by omega
      have hhj : h < j := by omega
      have bh : (h : Int) < (d.size : Int) := by omega
      have ba : (a : Int) < (d.size : Int) := by omega
      clear hh
      obtain ⟨x, hx⟩ : ∃ x, d[h]! = x := ⟨_, rfl⟩
      obtain ⟨y, hy⟩ : ∃ y, d[a]! = y := ⟨_, rfl⟩
      have cx0 := fun n os => (swk_c0 (S1.out.grown n os) R (by omega) (by omega) hx).1
      have cx1 := fun n os => (swk_c1 (S1.out.grown n os) R (by omega) (by omega) hx).1
      have cy0 := fun n os => (swk_c0 (S1.out.grown n os) R (by omega) (by omega) hy).1
      have cy1 := fun n os => (swk_c1 (S1.out.grown n os) R (by omega) (by omega) hy).1
      have hcmp := S1.out.cmp (cmpLaysH blk off d0.size w0) (by omega) x y
      have hcf := cfH_neg x y
      have Hcf := veil hcf; clear hcf
      have Hx := veil hx; have Hy := veil hy; clear hx hy
      obtain ⟨x1, xA, xn, xc⟩ := x
      obtain ⟨y1, yA, yn, yc⟩ := y
      generalize cfH (x1, xA, xn, xc) (y1, yA, yn, yc) = r at hcmp Hcf
      simp only [encH, Array.append_empty] at cx0 cx1 cy0 cy1 hcmp
      obtain ⟨bv, hbv⟩ : ∃ bv, decide (r < 0) = bv := ⟨_, rfl⟩
      go_wp2_with fail
      go_quiet_grown (first | (go_at_fn 42; refine Calls.grown_of (hcmp _ _)))
      have S2 : Aside (SWK encH 2 w0 blk off d (grow (wr.drewN nq) osq)) := S1.out.grown nq osq
      clear cx0 cx1 cy0 cy1 hcmp S1
      generalize grow (wr.drewN nq) osq = w2 at S2 ⊢
      clear nq osq
      cases bv with
      | true =>
        have hlr : x1 < y1 := Hcf.out.1 (of_decide_eq_true hbv)
        go_wp2
        go_roundg (j - (h + 1))
        case measure => omega
        case rel =>
          refine ⟨h + 1, j, by go_num, rfl, by omega, by omega, hjb, Nat.le_refl _, S2, ⟨fun k hk1 hk2 => ?_, HP.out.2⟩⟩
          have h1 := HV.out.le (i := k) (j := h) hk1 (by omega) (by omega)
          rw [Hx.out] at h1
          rw [Hy.out]
          simp only [keyH] at h1 ⊢
          omega
      | false =>
        have hlr : ¬ x1 < y1 := fun h => of_decide_eq_false hbv (Hcf.out.2 h)
        go_wp2
        go_roundg (h - i)
        case measure => omega
        case rel =>
          refine ⟨i, h, rfl, rfl, hai, hih, by omega, Nat.le_refl _, S2, ⟨HP.out.1, fun k hk1 hk2 => ?_⟩⟩
          have h1 := HV.out.le (i := h) (j := k) (by omega) hk1 hk2
          rw [Hx.out] at h1
          rw [Hy.out]
          simp only [keyH] at h1 ⊢
          omega
    · obtain rfl : i = j := by omega
      have hltz : ¬ (i : Int) < (i : Int) := by omega
      go_wp2
      go_loopg [13] (i - 1 - a) (fun g2 vk wr2 => ∃ (k : Nat) (dk : Array Hd), vk = .int .i64 k ∧ a ≤ k ∧ k ≤ i - 1 ∧ i - 1 - k = g2 ∧ dk.size = d.size ∧ Aside (SWK encH 2 w0 blk off dk wr2) ∧ Hid (PermIn a b d dk ∧ ∀ t, dk[t]! = rg d a (a + 1) (k + 1) t))
      case atStart => exact ⟨a, d, rfl, Nat.le_refl _, by omega, rfl, rfl, S1, permIn_refl _ _ _, fun t => ((rg_none d).2 (by omega)).symm⟩
      case round =>
        clear S1
        obtain ⟨k, dk, rfl, hak, hki, rfl, hsk, S1, HQ⟩ := hrel
        by_cases hlt2 : k < i - 1
        · have hltz2 : (k : Int) < (i : Int) - 1 := by omega
          have bk : (k : Int) < (d.size : Int) := by omega
          have bk1 : (k : Int) + 1 < (d.size : Int) := by omega
          have pk1 : (0 : Int) ≤ (k : Int) + 1 := by omega
          have ek1 : ((k : Int) + 1).toNat = k + 1 := by omega
          have rk1 : IntKind.i64.wrap ((k : Int) + 1) = (k : Int) + 1 := by rw [IntKind.wrap_i64]; omega
          obtain ⟨x, hx⟩ : ∃ x, dk[k]! = x := ⟨_, rfl⟩
          obtain ⟨y, hy⟩ : ∃ y, dk[k + 1]! = y := ⟨_, rfl⟩
          obtain ⟨bx0, fx0⟩ := swk_c0 S1.out R (by omega) (by omega) hx
          obtain ⟨bx1, fx1⟩ := swk_c1 S1.out R (by omega) (by omega) hx
          obtain ⟨by0, fy0⟩ := swk_c0 S1.out R (by omega) (by omega) hy
          obtain ⟨by1, fy1⟩ := swk_c1 S1.out R (by omega) (by omega) hy
          have S4 := swk_swap S1.out R (k) (k + 1) (by omega) (by omega) _ _ hx hy
          clear S1 hx hy
          obtain ⟨x1, xA, xn, xc⟩ := x
          obtain ⟨y1, yA, yn, yc⟩ := y
          simp only at bx0 bx1 by0 by1 S4
          go_wp2_with fail
          go_big_region_o
          all_goals go_wp2
          go_roundg (i - 1 - (k + 1))
          case measure => omega
          case rel =>
            refine ⟨k + 1, swp dk k (k + 1), by go_num, by omega, by omega, rfl, by rw [size_swp]; exact hsk, S4, permIn_trans _ _ _ _ _ HQ.out.1 (swp_permIn _ _ _ _ _ (by omega) (by omega) (by omega) (by omega) (by omega)), fun t => ?_⟩
            exact rg_up d dk hsk (by omega) hak HQ.out.2
        · obtain rfl : k = i - 1 := by omega
          have hltz2 : ¬ ((i - 1 : Nat) : Int) < (i : Int) - 1 := by omega
          go_wp2
          refine bodyPost_ret (results_none rfl _ _ _) rfl ?_
          refine ⟨rfl, dk, HQ.out.1, sorted_up HV.out hai hjb HP.out.1 HP.out.2 ?_, S1.out⟩
          intro t
          rw [HQ.out.2 t, show i - 1 + 1 = i by omega]
set_option maxHeartbeats 4000000 in
set_option maxRecDepth 1000000 in
/-- One element behind. -/
theorem symMerge_last (blk off cap a m : Nat) (d0 d : Array Hd) (w0 w : World) (R : RowK encH 2 w0 blk off d0) (hs : d0.size = d.size) (S : SWK encH 2 w0 blk off d w) (ham : a + 1 < m) (hb : m + 1 ≤ d.size) (hsz : d.size < 4611686018427387904) (hU : SortK keyH a m d) :
    Calls Try.prog 58 #[.slice (some ⟨blk, off, none⟩) d.size cap, .int .i64 a, .int .i64 m, .int .i64 ((m : Int) + 1), .func (.func 42) #[] #[]] w fun e w' => e = .returned (.tuple #[]) ∧ ∃ d', PermIn a (m + 1) d d' ∧ SortK keyH a (m + 1) d' ∧ SWK encH 2 w0 blk off d' w' := by
  have mixed := mixedH
  have eg := entersH
  have S0 : Aside (SWK encH 2 w0 blk off d w) := S
  have HU := veil hU
  clear S hU
  have ea : ((m : Int) - (a : Int) == 1) = false := by simp; omega
  have eb : ((m : Int) + 1 - (m : Int) == 1) = true := by simp; omega
  go_enter Try.func58, Try.ntmps58
  go_wp2
  go_loopg [14, 15] (m - a) (fun g1 vi vj wr => ∃ (i j : Nat), vi = .int .i64 i ∧ vj = .int .i64 j ∧ a ≤ i ∧ i ≤ j ∧ j ≤ m ∧ j - i ≤ g1 ∧ Aside (SWK encH 2 w0 blk off d wr) ∧ Hid ((∀ h, a ≤ h → h < i → keyH d[h]! ≤ keyH d[m]!) ∧ ∀ h, j ≤ h → h < m → keyH d[m]! < keyH d[h]!))
  case atStart => exact ⟨a, m, rfl, rfl, by omega, by omega, by omega, by omega, S0, ⟨fun h _ _ => by omega, fun h _ _ => by omega⟩⟩
  case round =>
    clear S0
    obtain ⟨i, j, rfl, rfl, hai, hij, hjb, hg, S1, HP⟩ := hrel
    by_cases hlt : i < j
    · have hltz : (i : Int) < (j : Int) := by omega
      obtain ⟨h, hh⟩ : ∃ h, h = (i + j) / 2 := ⟨_, rfl⟩
      have e2 : ((i : Int) + (j : Int)) / 2 = (h : Int) := by omega
      have hih : i ≤ h := by omega
      have hhj : h < j := by omega
      have bh : (h : Int) < (d.size : Int) := by omega
      have ba : (m : Int) < (d.size : Int) := by omega
      clear hh
      obtain ⟨x, hx⟩ : ∃ x, d[m]! = x := ⟨_, rfl⟩
      obtain ⟨y, hy⟩ : ∃ y, d[h]! = y := ⟨_, rfl⟩
      have cx0 := fun n os => (swk_c0 (S1.out.grown n os) R (by omega) (by omega) hx).1
      have cx1 := fun n os => (swk_c1 (S1.out.grown n os) R (by omega) (by omega) hx).1
      have cy0 := fun n os => (swk_c0 (S1.out.grown n os) R (by omega) (by omega) hy).1
      have cy1 := fun n os => (swk_c1 (S1.out.grown n os) R (by omega) (by omega) hy).1
      have hcmp := S1.out.cmp (cmpLaysH blk off d0.size w0) (by omega) x y
      have hcf := cfH_neg x y
      have Hcf := veil hcf; clear hcf
      have Hx := veil hx; have Hy := veil hy; clear hx hy
      obtain ⟨x1, xA, xn, xc⟩ := x
      obtain ⟨y1, yA, yn, yc⟩ := y
      generalize cfH (x1, xA, xn, xc) (y1, yA, yn, yc) = r at hcmp Hcf
      simp only [encH, Array.append_empty] at cx0 cx1 cy0 cy1 hcmp
      obtain ⟨bv, hbv⟩ : ∃ bv, decide (r < 0) = bv := ⟨_, rfl⟩
      go_wp2_with fail
      go_quiet_grown (first | (go_at_fn 42; refine Calls.grown_of (hcmp _ _)))
      have S2 : Aside (SWK encH 2 w0 blk off d (grow (wr.drewN nq) osq)) := S1.out.grown nq osq
      clear cx0 cx1 cy0 cy1 hcmp S1
      generalize grow (wr.drewN nq) osq = w2 at S2 ⊢
      clear nq osq
      cases bv with
      | true =>
        have hlr : x1 < y1 := Hcf.out.1 (of_decide_eq_true hbv)
        go_wp2
        go_roundg (h - i)
        case measure => omega
        case rel =>
          refine ⟨i, h, rfl, rfl, hai, hih, by omega, Nat.le_refl _, S2, ⟨HP.out.1, fun k hk1 hk2 => ?_⟩⟩
          have h1 := HU.out.le (i := h) (j := k) (by omega) hk1 hk2
          rw [Hy.out] at h1
          rw [Hx.out]
          simp only [keyH] at h1 ⊢
          omega
      | false =>
        have hlr : ¬ x1 < y1 := fun h => of_decide_eq_false hbv (Hcf.out.2 h)
        go_wp2
        go_roundg (j - (h + 1))
        case measure => omega
        case rel =>
          refine ⟨h + 1, j, by go_num, rfl, by omega, by omega, hjb, Nat.le_refl _, S2, ⟨fun k hk1 hk2 => ?_, HP.out.2⟩⟩
          have h1 := HU.out.le (i := k) (j := h) hk1 (by omega) (by omega)
          rw [Hy.out] at h1
          rw [Hx.out]
          simp only [keyH] at h1 ⊢
          omega
    · obtain rfl : i = j := by omega
      have hltz : ¬ (i : Int) < (i : Int) := by omega
      go_wp2
      go_loopg [17] (m - i) (fun g2 vk wr2 => ∃ (k : Nat) (dk : Array Hd), vk = .int .i64 k ∧ i ≤ k ∧ k ≤ m ∧ k - i = g2 ∧ dk.size = d.size ∧ Aside (SWK encH 2 w0 blk off dk wr2) ∧ Hid (PermIn a (m + 1) d dk ∧ ∀ t, dk[t]! = rg d k m (m + 1) t))
      case atStart => exact ⟨m, d, rfl, by omega, Nat.le_refl _, rfl, rfl, S1, permIn_refl _ _ _, fun t => (rg_none d).1.symm⟩
      case round =>
        clear S1
        obtain ⟨k, dk, rfl, hik, hkm, rfl, hsk, S1, HQ⟩ := hrel
        by_cases hlt2 : i < k
        · have hltz2 : (i : Int) < (k : Int) := by omega
          obtain ⟨kp, rfl⟩ : ∃ kp, k = kp + 1 := ⟨k - 1, by omega⟩
          have hltz3 : (i : Int) < (kp : Int) + 1 := by omega
          have bk : (kp : Int) < (d.size : Int) := by omega
          have bk1 : (kp : Int) + 1 < (d.size : Int) := by omega
          have pk1 : (0 : Int) ≤ (kp : Int) + 1 := by omega
          have ek1 : ((kp : Int) + 1).toNat = kp + 1 := by omega
          have rk1 : IntKind.i64.wrap (kp : Int) = (kp : Int) := by rw [IntKind.wrap_i64]; omega
          obtain ⟨x, hx⟩ : ∃ x, dk[kp + 1]! = x := ⟨_, rfl⟩
          obtain ⟨y, hy⟩ : ∃ y, dk[kp]! = y := ⟨_, rfl⟩
          obtain ⟨bx0, fx0⟩ := swk_c0 S1.out R (by omega) (by omega) hx
          obtain ⟨bx1, fx1⟩ := swk_c1 S1.out R (by omega) (by omega) hx
          obtain ⟨by0, fy0⟩ := swk_c0 S1.out R (by omega) (by omega) hy
          obtain ⟨by1, fy1⟩ := swk_c1 S1.out R (by omega) (by omega) hy
          have S4 := swk_swap S1.out R (kp + 1) (kp) (by omega) (by omega) _ _ hx hy
          clear S1 hx hy
          obtain ⟨x1, xA, xn, xc⟩ := x
          obtain ⟨y1, yA, yn, yc⟩ := y
          simp only at bx0 bx1 by0 by1 S4
          go_wp2_with fail
          go_big_region_o
          all_goals go_wp2
          go_roundg (kp - i)
          case measure => omega
          case rel =>
            refine ⟨kp, swp dk (kp + 1) kp, rfl, by omega, by omega, rfl, by rw [size_swp]; exact hsk, S4, permIn_trans _ _ _ _ _ HQ.out.1 (swp_permIn _ _ _ _ _ (by omega) (by omega) (by omega) (by omega) (by omega)), fun t => ?_⟩
            have := rg_down d dk (t := t) hsk (by omega) (by omega) hkm HQ.out.2
            simpa using this
        · obtain rfl : k = i := by omega
          have hltz2 : ¬ (k : Int) < (k : Int) := by omega
          go_wp2
          refine bodyPost_ret (results_none rfl _ _ _) rfl ?_
          exact ⟨rfl, dk, HQ.out.1, sorted_down HU.out hai hjb HP.out.1 HP.out.2 HQ.out.2, S1.out⟩
end Go.Proofs.Ythelblkpfkngmaa
