/- Texts shared by the claims of this seat, in one. -/
import Derived.Test.YtddkhkpdbjjboaaBd14
import Derived.Deep.DeepCutAuto
import Derived.Test.YtddkhkpdbjjboaaBd3
import Derived.Test.YtddkhkpdbjjboaaBd13
/- slices.symMergeCmpFunc over bundles: its contract. -/
namespace Go.Proofs.Ytddkhkpdbjjboaa
open Go.Shelf Go.RowKit Go.Lib Go.Sort
set_option linter.unusedVariables false
set_option linter.unusedSimpArgs false
set_option maxRecDepth 100000

abbrev keyH (x : Hd) : Int := x.1
set_option maxHeartbeats 4000000 in
set_option maxRecDepth 1000000 in
/-- One element ahead. -/
theorem symMerge_one (blk off cap a b : Nat) (d0 d : Array Hd) (w0 w : World) (R : RowK encH 2 w0 blk off d0) (hs : d0.size = d.size) (S : SWK encH 2 w0 blk off d w) (hmb : a + 1 < b) (hb : b ≤ d.size) (hsz : d.size < 4611686018427387904) (hV : SortK keyH (a + 1) b d) :
    Calls Try.prog 113 #[.slice (some ⟨blk, off, none⟩) d.size cap, .int .i64 a, .int .i64 ((a : Int) + 1), .int .i64 b, .func (.func 82) #[] #[]] w fun e w' => e = .returned (.tuple #[]) ∧ ∃ d', PermIn a b d d' ∧ SortK keyH a b d' ∧ SWK encH 2 w0 blk off d' w' := by
  have mixed := mixedH
  have eg := entersH
  have S0 : Aside (SWK encH 2 w0 blk off d w) := S
  have HV := veil hV
  clear S hV
  have ea : ((a : Int) + 1 - (a : Int) == 1) = true := by simp; omega
  go_enter Try.func113, Try.ntmps113
  go_wp2
  go_loopg [10, 11] (b - (a + 1)) (fun g1 vi vj wr => ∃ (i j : Nat), vi = .int .i64 i ∧ vj = .int .i64 j ∧ a + 1 ≤ i ∧ i ≤ j ∧ j ≤ b ∧ j - i ≤ g1 ∧ Aside (SWK encH 2 w0 blk off d wr) ∧ Hid ((∀ h, a + 1 ≤ h → h < i → keyH d[h]! < keyH d[a]!) ∧ ∀ h, j ≤ h → h < b → keyH d[a]! ≤ keyH d[h]!))
  case atStart => exact ⟨a + 1, b, by go_num, rfl, by omega, by omega, by omega, by omega, S0, ⟨fun h _ _ => by omega, fun h _ _ => by omega⟩⟩
  case round =>
    clear S0
    obtain ⟨i, j, rfl, rfl, hai, hij, hjb, hg, S1, HP⟩ := hrel
    by_cases hlt : i < j
    · have hltz : (i : Int) < (j : Int) := by omega
      obtain ⟨h, hh⟩ : ∃ h, h = (i + j) / 2 := ⟨_, rfl⟩
      have e2 : ((i : Int) + (j : Int)) / 2 = (h : Int) := by omega
      have hih : i ≤ h := by omega
      have hhj : h < j := by omega
      have bh : (h : Int) < (d.size : Int) := by omega
      have ba : (a : Int) < (d.size : Int) := by omega
      clear hh
      obtain ⟨x, hx⟩ : ∃ x, d[h]! = x := ⟨_, rfl⟩
      obtain ⟨y, hy⟩ : ∃ y, d[a]! = y := ⟨_, rfl⟩
      have cx0 := fun n os => (swk_c0 (S1.out.grown n os) R (by omega) (by omega) hx).1
      have cx1 := fun n os => (swk_c1 (S1.out.grown n os) R (by omega) (by omega) hx).1
      have cy0 := fun n os => (swk_c0 (S1.out.grown n os) R (by omega) (by omega) hy).1
      have cy1 := fun n os => (swk_c1 (S1.out.grown n os) R (by omega) (by omega) hy).1
      have hcmp := S1.out.cmp (cmpLaysH blk off d0.size w0) (by omega) x y
      have hcf := cfH_neg x y
      have Hcf := veil hcf; clear hcf
      have Hx := veil hx; have Hy := veil hy; clear hx hy
      obtain ⟨x1, xA, xn, xc⟩ := x
      obtain ⟨y1, yA, yn, yc⟩ := y
      generalize cfH (x1, xA, xn, xc) (y1, yA, yn, yc) = r at hcmp Hcf
      simp only [encH, Array.append_empty] at cx0 cx1 cy0 cy1 hcmp
      obtain ⟨bv, hbv⟩ : ∃ bv, decide (r < 0) = bv := ⟨_, rfl⟩
      go_wp2_with fail
      go_quiet_grown (first | (go_at_fn 82; refine Calls.grown_of (hcmp _ _)))
      have S2 : Aside (SWK encH 2 w0 blk off d (grow (wr.drewN nq) osq)) := S1.out.grown nq osq
      clear cx0 cx1 cy0 cy1 hcmp S1
      generalize grow (wr.drewN nq) osq = w2 at S2 ⊢
      clear nq osq
      cases bv with
      | true =>
        have hlr : x1 < y1 := Hcf.out.1 (of_decide_eq_true hbv)
        go_wp2
        go_roundg (j - (h + 1))
        case measure => omega
        case rel =>
          refine ⟨h + 1, j, by go_num, rfl, by omega, by omega, hjb, Nat.le_refl _, S2, ⟨fun k hk1 hk2 => ?_, HP.out.2⟩⟩
          have h1 := HV.out.le (i := k) (j := h) hk1 (by omega) (by omega)
          rw [Hx.out] at h1
          rw [Hy.out]
          simp only [keyH] at h1 ⊢
          omega
      | false =>
        have hlr : ¬ x1 < y1 := fun h => of_decide_eq_false hbv (Hcf.out.2 h)
        go_wp2
        go_roundg (h - i)
        case measure => omega
        case rel =>
          refine ⟨i, h, rfl, rfl, hai, hih, by omega, Nat.le_refl _, S2, ⟨HP.out.1, fun k hk1 hk2 => ?_⟩⟩
          have h1 := HV.out.le (i := h) (j := k) (by omega) hk1 hk2
          rw [Hx.out] at h1
          rw [Hy.out]
          simp only [keyH] at h1 ⊢
          omega
    · obtain rfl : i = j := by omega
      have hltz : ¬ (i : Int) < (i : Int) := by omega
      go_wp2
      go_loopg [13] (i - 1 - a) (fun g2 vk wr2 => ∃ (k : Nat) (dk : Array Hd), vk = .int .i64 k ∧ a ≤ k ∧ k ≤ i - 1 ∧ i - 1 - k = g2 ∧ dk.size = d.size ∧ Aside (SWK encH 2 w0 blk off dk wr2) ∧ Hid (PermIn a b d dk ∧ ∀ t, dk[t]! = rg d a (a + 1) (k + 1) t))
      case atStart => exact ⟨a, d, rfl, Nat.le_refl _, by omega, rfl, rfl, S1, permIn_refl _ _ _, fun t => ((rg_none d).2 (by omega)).symm⟩
      case round =>
        clear S1
        obtain ⟨k, dk, rfl, hak, hki, rfl, hsk, S1, HQ⟩ := hrel
        by_cases hlt2 : k < i - 1
        · have hltz2 : (k : Int) < (i : Int) - 1 := by omega
          have bk : (k : Int) < (d.size : Int) := by omega
          have bk1 : (k : Int) + 1 < (d.size : Int) := by omega
          have pk1 : (0 : Int) ≤ (k : Int) + 1 := by omega
          have ek1 : ((k : Int) + 1).toNat = k + 1 := by omega
          have rk1 : IntKind.i64.wrap ((k : Int) + 1) = (k : Int) + 1 := by rw [IntKind.wrap_i64]; omega
          obtain ⟨x, hx⟩ : ∃ x, dk[k]! = x := ⟨_, rfl⟩
          obtain ⟨y, hy⟩ : ∃ y, dk[k + 1]! = y := ⟨_, rfl⟩
          obtain ⟨bx0, fx0⟩ := swk_c0 S1.out R (by omega) (by omega) hx
          obtain ⟨bx1, fx1⟩ := swk_c1 S1.out R (by omega) (by omega) hx
          obtain ⟨by0, fy0⟩ := swk_c0 S1.out R (by omega) (by omega) hy
          obtain ⟨by1, fy1⟩ := swk_c1 S1.out R (by omega) (by omega) hy
          have S4 := swk_swap S1.out R (k) (k + 1) (by omega) (by omega) _ _ hx hy
          clear S1 hx hy
          obtain ⟨x1, xA, xn, xc⟩ := x
          obtain ⟨y1, yA, yn, yc⟩ := y
          simp only at bx0 bx1 by0 by1 S4
          go_wp2_with fail
          go_big_region_o
          all_goals go_wp2
          go_roundg (i - 1 - (k + 1))
          case measure => omega
          case rel =>
            refine ⟨k + 1, swp dk k (k + 1), by go_num, by omega, by omega, rfl, by rw [size_swp]; exact hsk, S4, permIn_trans _ _ _ _ _ HQ.out.1 (swp_permIn _ _ _ _ _ (by omega) (by omega) (by omega) (by omega) (by omega)), fun t => ?_⟩
            exact rg_up d dk hsk (by omega) hak HQ.out.2
        · obtain rfl : k = i - 1 := by omega
          have hltz2 : ¬ ((i - 1 : Nat) : Int) < (i : Int) - 1 := by omega
          go_wp2
          refine bodyPost_ret (results_none rfl _ _ _) rfl ?_
          refine ⟨rfl, dk, HQ.out.1, sorted_up HV.out hai hjb HP.out.1 HP.out.2 ?_, S1.out⟩
          intro t
          rw [HQ.out.2 t, show i - 1 + 1 = i by omega]
set_option maxHeartbeats 4000000 in
set_option maxRecDepth 1000000 in
/-- One element behind. -/
theorem symMerge_last (blk off cap a m : Nat) (d0 d : Array Hd) (w0 w : World) (R : RowK encH 2 w0 blk off d0) (hs : d0.size = d.size) (S : SWK encH 2 w0 blk off d w) (ham : a + 1 < m) (hb : m + 1 ≤ d.size) (hsz : d.size < 4611686018427387904) (hU : SortK keyH a m d) :
    Calls Try.prog 113 #[.slice (some ⟨blk, off, none⟩) d.size cap, .int .i64 a, .int .i64 m, .int .i64 ((m : Int) + 1), .func (.func 82) #[] #[]] w fun e w' => e = .returned (.tuple #[]) ∧ ∃ d', PermIn a (m + 1) d d' ∧ SortK keyH a (m + 1) d' ∧ SWK encH 2 w0 blk off d' w' := by
  have mixed := mixedH
  have eg := entersH
  have S0 : Aside (SWK encH 2 w0 blk off d w) := S
  have HU := veil hU
  clear S hU
  have ea : ((m : Int) - (a : Int) == 1) = false := by simp; omega
  have eb : ((m : Int) + 1 - (m : Int) == 1) = true := by simp; omega
  go_enter Try.func113, Try.ntmps113
  go_wp2
  go_loopg [14, 15] (m - a) (fun g1 vi vj wr => ∃ (i j : Nat), vi = .int .i64 i ∧ vj = .int .i64 j ∧ a ≤ i ∧ i ≤ j ∧ j ≤ m ∧ j - i ≤ g1 ∧ Aside (SWK encH 2 w0 blk off d wr) ∧ Hid ((∀ h, a ≤ h → h < i → keyH d[h]! ≤ keyH d[m]!) ∧ ∀ h, j ≤ h → h < m → keyH d[m]! < keyH d[h]!))
  case atStart => exact ⟨a, m, rfl, rfl, by omega, by omega, by omega, by omega, S0, ⟨fun h _ _ => by omega, fun h _ _ => by omega⟩⟩
  case round =>
    clear S0
    obtain ⟨i, j, rfl, rfl, hai, hij, hjb, hg, S1, HP⟩ := hrel
    by_cases hlt : i < j
    · have hltz : (i : Int) < (j : Int) := by omega
      obtain ⟨h, hh⟩ : ∃ h, h = (i + j) / 2 := ⟨_, rfl⟩
      have e2 : ((i : Int) + (j : Int)) / 2 = (h : Int) := by omega
      have hih : i ≤ h := by omega
      have hhj : h < j := by omega
      have bh : (h : Int) < (d.size : Int) := by omega
      have ba : (m : Int) < (d.size : Int) := by omega
      clear hh
      obtain ⟨x, hx⟩ : ∃ x, d[m]! = x := ⟨_, rfl⟩
      obtain ⟨y, hy⟩ : ∃ y, d[h]! = y := ⟨_, rfl⟩
      have cx0 := fun n os => (swk_c0 (S1.out.grown n os) R (by omega) (by omega) hx).1
      have cx1 := fun n os => (swk_c1 (S1.out.grown n os) R (by omega) (by omega) hx).1
      have cy0 := fun n os => (swk_c0 (S1.out.grown n os) R (by omega) (by omega) hy).1
      have cy1 := fun n os => (swk_c1 (S1.out.grown n os) R (by omega) (by omega) hy).1
      have hcmp := S1.out.cmp (cmpLaysH blk off d0.size w0) (by omega) x y
      have hcf := cfH_neg x y
      have Hcf := veil hcf; clear hcf
      have Hx := veil hx; have Hy := veil hy; clear hx hy
      obtain ⟨x1, xA, xn, xc⟩ := x
      obtain ⟨y1, yA, yn, yc⟩ := y
      generalize cfH (x1, xA, xn, xc) (y1, yA, yn, yc) = r at hcmp Hcf
      simp only [encH, Array.append_empty] at cx0 cx1 cy0 cy1 hcmp
      obtain ⟨bv, hbv⟩ : ∃ bv, decide (r < 0) = bv := ⟨_, rfl⟩
      go_wp2_with fail
      go_quiet_grown (first | (go_at_fn 82; refine Calls.grown_of (hcmp _ _)))
      have S2 : Aside (SWK encH 2 w0 blk off d (grow (wr.drewN nq) osq)) := S1.out.grown nq osq
      clear cx0 cx1 cy0 cy1 hcmp S1
      generalize grow (wr.drewN nq) osq = w2 at S2 ⊢
      clear nq osq
      cases bv with
      | true =>
        have hlr : x1 < y1 := Hcf.out.1 (of_decide_eq_true hbv)
        go_wp2
        go_roundg (h - i)
        case measure => omega
        case rel =>
          refine ⟨i, h, rfl, rfl, hai, hih, by omega, Nat.le_refl _, S2, ⟨HP.out.1, fun k hk1 hk2 => ?_⟩⟩
          have h1 := HU.out.le (i := h) (j := k) (by omega) hk1 hk2
          rw [Hy.out] at h1
          rw [Hx.out]
          simp only [keyH] at h1 ⊢
          omega
      | false =>
        have hlr : ¬ x1 < y1 := fun h => of_decide_eq_false hbv (Hcf.out.2 h)
        go_wp2
        go_roundg (j - (h + 1))
        case measure => omega
        case rel =>
          refine ⟨h + 1, j, by go_num, rfl, by omega, by omega, hjb, Nat.le_refl _, S2, ⟨fun k hk1 hk2 => ?_, HP.out.2⟩⟩
          have h1 := HU.out.le (i := k) (j := h) hk1 (by omega) (by omega)
          rw [Hy.out] at h1
          rw [Hx.out]
          simp only [keyH] at h1 ⊢
          omega
    · obtain rfl : i = j := by omega
      have hltz : ¬ (i : Int) < (i : Int) := by omega
      go_wp2
      go_loopg [17] (m - i) (fun g2 vk wr2 => ∃ (k : Nat) (dk : Array Hd), vk = .int .i64 k ∧ i ≤ k ∧ k ≤ m ∧ k - i = g2 ∧ dk.size = d.size ∧ Aside (SWK encH 2 w0 blk off dk wr2) ∧ Hid (PermIn a (m + 1) d dk ∧ ∀ t, dk[t]! = rg d k m (m + 1) t))
      case atStart => exact ⟨m, d, rfl, by omega, Nat.le_refl _, rfl, rfl, S1, permIn_refl _ _ _, fun t => (rg_none d).1.symm⟩
      case round =>
        clear S1
        obtain ⟨k, dk, rfl, hik, hkm, rfl, hsk, S1, HQ⟩ := hrel
        by_cases hlt2 : i < k
        · have hltz2 : (i : Int) < (k : Int) := by omega
          obtain ⟨kp, rfl⟩ : ∃ kp, k = kp + 1 := ⟨k - 1, by omega⟩
          have hltz3 : (i : Int) < (kp : Int) + 1 := by omega
          have bk : (kp : Int) < (d.size : Int) := by omega
          have bk1 : (kp : Int) + 1 < (d.size : Int) := by omega
          have pk1 : (0 : Int) ≤ (kp : Int) + 1 := by omega
          have ek1 : ((kp : Int) + 1).toNat = kp + 1 := by omega
          have rk1 : IntKind.i64.wrap (kp : Int) = (kp : Int) := by rw [IntKind.wrap_i64]; omega
          obtain ⟨x, hx⟩ : ∃ x, dk[kp + 1]! = x := ⟨_, rfl⟩
          obtain ⟨y, hy⟩ : ∃ y, dk[kp]! = y := ⟨_, rfl⟩
          obtain ⟨bx0, fx0⟩ := swk_c0 S1.out R (by omega) (by omega) hx
          obtain ⟨bx1, fx1⟩ := swk_c1 S1.out R (by omega) (by omega) hx
          obtain ⟨by0, fy0⟩ := swk_c0 S1.out R (by omega) (by omega) hy
          obtain ⟨by1, fy1⟩ := swk_c1 S1.out R (by omega) (by omega) hy
          have S4 := swk_swap S1.out R (kp + 1) (kp) (by omega) (by omega) _ _ hx hy
          clear S1 hx hy
          obtain ⟨x1, xA, xn, xc⟩ := x
          obtain ⟨y1, yA, yn, yc⟩ := y
          simp only at bx0 bx1 by0 by1 S4
          go_wp2_with fail
          go_big_region_o
          all_goals go_wp2
          go_roundg (kp - i)
          case measure => omega
          case rel =>
            refine ⟨kp, swp dk (kp + 1) kp, rfl, by omega, by omega, rfl, by rw [size_swp]; exact hsk, S4, permIn_trans _ _ _ _ _ HQ.out.1 (swp_permIn _ _ _ _ _ (by omega) (by omega) (by omega) (by omega) (by omega)), fun t => ?_⟩
            have := rg_down d dk (t := t) hsk (by omega) (by omega) hkm HQ.out.2
            simpa using this
        · obtain rfl : k = i := by omega
          have hltz2 : ¬ (k : Int) < (k : Int) := by omega
          go_wp2
          refine bodyPost_ret (results_none rfl _ _ _) rfl ?_
          exact ⟨rfl, dk, HQ.out.1, sorted_down HU.out hai hjb HP.out.1 HP.out.2 HQ.out.2, S1.out⟩
end Go.Proofs.Ytddkhkpdbjjboaa

/- slices.symMergeCmpFunc over bundles, with two elements or more on each side: its contract. -/
namespace Go.Proofs.Ytddkhkpdbjjboaa
open Go.Shelf Go.RowKit Go.Lib Go.Sort
set_option linter.unusedVariables false
set_option linter.unusedSimpArgs false
set_option maxRecDepth 100000

set_option maxHeartbeats 8000000 in
set_option maxRecDepth 1000000 in
theorem symMerge_all (blk off cap : Nat) (d0 : Array Hd) (w0 : World) (R : RowK encH 2 w0 blk off d0) (hsz : d0.size < 4611686018427387904) (n : Nat) : ∀ (a m b : Nat) (d : Array Hd) (w : World), b - a ≤ n → d0.size = d.size → SWK encH 2 w0 blk off d w → a < m → m < b → b ≤ d.size → SortK keyH a m d → SortK keyH m b d →
    Calls Try.prog 113 #[.slice (some ⟨blk, off, none⟩) d.size cap, .int .i64 a, .int .i64 m, .int .i64 b, .func (.func 82) #[] #[]] w fun e w' => e = .returned (.tuple #[]) ∧ ∃ d', PermIn a b d d' ∧ SortK keyH a b d' ∧ SWK encH 2 w0 blk off d' w' := by
  induction n with
  | zero => intro a m b d w h1 _ _ h2 h3; omega
  | succ n ih =>
    intro a m b d w hn hs S ham hmb hb hU hV
    by_cases e1 : m = a + 1
    · subst e1
      exact symMerge_one blk off cap a b d0 d w0 w R hs S hmb hb (by omega) hV
    by_cases e2 : b = m + 1
    · subst e2
      exact symMerge_last blk off cap a m d0 d w0 w R hs S (by omega) hb (by omega) hU
    have mixed := mixedH
    have eg := entersH
    have IH := veil ih
    have S0 : Aside (SWK encH 2 w0 blk off d w) := S
    have HU := veil hU
    have HV := veil hV
    clear S hU hV ih
    have ea : ((m : Int) - (a : Int) == 1) = false := by simp; omega
    have eb : ((b : Int) - (m : Int) == 1) = false := by simp; omega
    obtain ⟨mid, hmid⟩ : ∃ mid, mid = (a + b) / 2 := ⟨_, rfl⟩
    have em : ((a : Int) + (b : Int)) / 2 = (mid : Int) := by omega
    have hma : a < mid := by omega
    have hmb2 : mid < b := by omega
    obtain ⟨s0, r0, h0, hs0⟩ : ∃ s0 r0 : Nat, (if mid < m then s0 = mid + m - b ∧ r0 = mid else s0 = a ∧ r0 = m) ∧ (a ≤ s0 ∧ s0 ≤ r0 ∧ r0 ≤ m ∧ r0 ≤ mid ∧ mid + m - s0 ≤ b ∧ b ≤ mid + m ∨ a ≤ s0 ∧ s0 ≤ r0 ∧ r0 ≤ m ∧ r0 ≤ mid ∧ mid + m - s0 ≤ b) := by
      by_cases h : mid < m
      · exact ⟨mid + m - b, mid, by rw [if_pos h]; exact ⟨rfl, rfl⟩, .inr ⟨by omega, by omega, by omega, by omega, by omega⟩⟩
      · exact ⟨a, m, by rw [if_neg h]; exact ⟨rfl, rfl⟩, .inr ⟨by omega, by omega, by omega, by omega, by omega⟩⟩
    have hs1 : a ≤ s0 ∧ s0 ≤ r0 ∧ r0 ≤ m ∧ r0 ≤ mid ∧ mid + m - s0 ≤ b := by omega
    clear hs0
    obtain ⟨k1, k2, k3, k4, k5⟩ := hs1
    have H0 := veil h0; have Hmid := veil hmid; have Hn := veil hn
    clear h0 hmid hn
    go_enter Try.func113, Try.ntmps113
    go_upto_if 140 with fail
    go_cut [20, 21] (fun v20 v21 wx => v20 = .int .i64 s0 ∧ v21 = .int .i64 r0 ∧ w = wx)
    case first =>
      as_aux_lemma =>
        by_cases hm : mid < m
        · have hmz : (mid : Int) < (m : Int) := by omega
          have h1 := H0.out
          rw [if_pos hm] at h1
          have e20 : (mid : Int) + (m : Int) - (b : Int) = (s0 : Int) := by omega
          obtain ⟨h1, rfl⟩ := h1
          clear h1
          go_wp2
          go_meet
          case rel => exact ⟨rfl, rfl, rfl⟩
        · have hmz : ¬ (mid : Int) < (m : Int) := by omega
          have h1 := H0.out
          rw [if_neg hm] at h1
          obtain ⟨rfl, rfl⟩ := h1
          go_wp2
          go_meet
          case rel => exact ⟨rfl, rfl, rfl⟩
    case rest =>
      obtain ⟨rfl, rfl, rfl⟩ := hcut
      go_wp2
      go_loopg [20, 21] (r0 - s0) (fun g1 vi vj wr => ∃ (i j : Nat), vi = .int .i64 i ∧ vj = .int .i64 j ∧ s0 ≤ i ∧ i ≤ j ∧ j ≤ r0 ∧ j - i ≤ g1 ∧ Aside (SWK encH 2 w0 blk off d wr) ∧ Hid ((∀ c, s0 ≤ c → c < i → keyH d[c]! ≤ keyH d[mid + m - 1 - c]!) ∧ ∀ c, j ≤ c → c < r0 → keyH d[mid + m - 1 - c]! < keyH d[c]!))
      case atStart => exact ⟨s0, r0, rfl, rfl, by omega, by omega, by omega, by omega, S0, ⟨fun h _ _ => by omega, fun h _ _ => by omega⟩⟩
      case round =>
        clear S0
        obtain ⟨i, j, rfl, rfl, hai, hij, hjb, hg, S1, HP⟩ := hrel
        by_cases hlt : i < j
        · have hltz : (i : Int) < (j : Int) := by omega
          obtain ⟨h, hh⟩ : ∃ h, h = (i + j) / 2 := ⟨_, rfl⟩
          have e2' : ((i : Int) + (j : Int)) / 2 = (h : Int) := by omega
          have hih : i ≤ h := by omega
          have hhj : h < j := by omega
          obtain ⟨q, hq⟩ : ∃ q, q = mid + m - 1 - h := ⟨_, rfl⟩
          have eq1 : (mid : Int) + (m : Int) - 1 - (h : Int) = (q : Int) := by omega
          have rq1 : IntKind.i64.wrap ((mid : Int) + (m : Int) - 1 - (h : Int)) = (q : Int) := by rw [IntKind.wrap_i64]; omega
          have rq2 : IntKind.i64.wrap (q : Int) = (q : Int) := by rw [IntKind.wrap_i64]; omega
          have bh : (h : Int) < (d.size : Int) := by omega
          have ba : (q : Int) < (d.size : Int) := by omega
          have hqb : q < b := by omega
          have hqm : m ≤ q := by omega
          have Hq := veil hq
          clear hh hq
          obtain ⟨x, hx⟩ : ∃ x, d[q]! = x := ⟨_, rfl⟩
          obtain ⟨y, hy⟩ : ∃ y, d[h]! = y := ⟨_, rfl⟩
          have cx0 := fun n os => (swk_c0 (S1.out.grown n os) R (by omega) (by omega) hx).1
          have cx1 := fun n os => (swk_c1 (S1.out.grown n os) R (by omega) (by omega) hx).1
          have cy0 := fun n os => (swk_c0 (S1.out.grown n os) R (by omega) (by omega) hy).1
          have cy1 := fun n os => (swk_c1 (S1.out.grown n os) R (by omega) (by omega) hy).1
          have hcmp := S1.out.cmp (cmpLaysH blk off d0.size w0) (by omega) x y
          have hcf := cfH_neg x y
          have Hcf := veil hcf; clear hcf
          have Hx := veil hx; have Hy := veil hy; clear hx hy
          obtain ⟨x1, xA, xn, xc⟩ := x
          obtain ⟨y1, yA, yn, yc⟩ := y
          generalize cfH (x1, xA, xn, xc) (y1, yA, yn, yc) = r at hcmp Hcf
          simp only [encH, Array.append_empty] at cx0 cx1 cy0 cy1 hcmp
          obtain ⟨bv, hbv⟩ : ∃ bv, decide (r < 0) = bv := ⟨_, rfl⟩
          go_wp2_with fail
          go_quiet_grown (first | (go_at_fn 82; refine Calls.grown_of (hcmp _ _)))
          have S2 : Aside (SWK encH 2 w0 blk off d (grow (wr.drewN nq) osq)) := S1.out.grown nq osq
          clear cx0 cx1 cy0 cy1 hcmp S1
          generalize grow (wr.drewN nq) osq = w2 at S2 ⊢
          clear nq osq
          cases bv with
          | true =>
            have hlr : x1 < y1 := Hcf.out.1 (of_decide_eq_true hbv)
            go_wp2
            go_roundg (h - i)
            case measure => omega
            case rel =>
              refine ⟨i, h, rfl, rfl, hai, hih, by omega, Nat.le_refl _, S2, ⟨HP.out.1, fun c hk1 hk2 => ?_⟩⟩
              have h1 := HU.out.le (i := h) (j := c) (by omega) hk1 (by omega)
              have h2 := HV.out.le (i := mid + m - 1 - c) (j := q) (by omega) (by have := Hq.out; omega) hqb
              rw [Hy.out] at h1
              rw [Hx.out] at h2
              simp only [keyH] at h1 h2 ⊢
              omega
          | false =>
            have hlr : ¬ x1 < y1 := fun h => of_decide_eq_false hbv (Hcf.out.2 h)
            go_wp2
            go_roundg (j - (h + 1))
            case measure => omega
            case rel =>
              refine ⟨h + 1, j, by go_num, rfl, by omega, by omega, hjb, Nat.le_refl _, S2, ⟨fun c hk1 hk2 => ?_, HP.out.2⟩⟩
              have h1 := HU.out.le (i := c) (j := h) (by omega) (by omega) (by omega)
              have h2 := HV.out.le (i := q) (j := mid + m - 1 - c) hqm (by have := Hq.out; omega) (by omega)
              rw [Hy.out] at h1
              rw [Hx.out] at h2
              simp only [keyH] at h1 h2 ⊢
              omega
        · obtain rfl : i = j := by omega
          have hltz : ¬ (i : Int) < (i : Int) := by omega
          have hcutp := Cut.of HU.out HV.out ham hmb Hmid.out H0.out hai hjb HP.out.1 HP.out.2
          obtain ⟨en, hen⟩ : ∃ en, en = mid + m - i := ⟨_, rfl⟩
          have een : (mid : Int) + (m : Int) - (i : Int) = (en : Int) := by omega
          have c1 := hcutp.h1; have c2 := hcutp.h2; have c3 := hcutp.h3
          have c4 : m ≤ en := by rw [hen]; exact hcutp.h4
          have c5 : mid ≤ en := by rw [hen]; exact hcutp.h5
          have c6 : en ≤ b := by rw [hen]; exact hcutp.h6
          have c7 : i - a = i - a := rfl
          have HC := veil hcutp; have Hen := veil hen
          clear hcutp hen c7 HP
          obtain ⟨B1, hB1⟩ : ∃ B, B = decide (i < m ∧ m < en) := ⟨_, rfl⟩
          have HB1 := veil hB1; clear hB1
          go_upto_region 39 with fail
          go_cut [185] (fun vb wx => vb = .bool B1 ∧ wr = wx)
          case first =>
            as_aux_lemma =>
              by_cases hp : i < m
              · have hpz : (i : Int) < (m : Int) := by omega
                by_cases hq : m < en
                · have hqz : (m : Int) < (en : Int) := by omega
                  go_wp2
                  go_meet
                  case rel => exact ⟨by rw [HB1.out, decide_eq_true ⟨hp, hq⟩], rfl⟩
                · have hqz : ¬ (m : Int) < (en : Int) := by omega
                  go_wp2
                  go_meet
                  case rel => exact ⟨by rw [HB1.out, decide_eq_false fun h => hq h.2], rfl⟩
              · have hpz : ¬ (i : Int) < (m : Int) := by omega
                go_wp2
                go_meet
                case rel => exact ⟨by rw [HB1.out, decide_eq_false fun h => hp h.1], rfl⟩
          case rest =>
            obtain ⟨rfl, rfl⟩ := hcut
            go_upto_if 185 with fail
            go_cut [24] (fun v24 wx => v24 = .int .i64 en ∧ ∃ d1 : Array Hd, d1.size = d.size ∧ Aside (SWK encH 2 w0 blk off d1 wx) ∧ Hid (PermIn a b d d1 ∧ ∀ t, d1[t]! = rg d i m en t))
            case first =>
              as_aux_lemma =>
                cases B1 with
                | true =>
                  have hB := of_decide_eq_true HB1.out.symm
                  have hc := rotate_any blk off cap i m en d0 d w0 wr R hs S1.out hB.1 hB.2 (by omega) (by omega)
                  have HC1 := veil hc; clear hc hB
                  go_wp2_with fail
                  refine HC1.out.mono ?_
                  rintro e w1 ⟨rfl, d1, p1, p2, S2⟩
                  have S3 : Aside (SWK encH 2 w0 blk off d1 w1) := S2
                  have HP1 := veil p1; have HP2 := veil p2
                  clear S2 p1 p2 HC1 S1
                  go_wp2
                  go_meet
                  case rel => exact ⟨rfl, d1, HP1.out.1, S3, permIn_mono _ _ _ _ _ _ (by omega) (by omega) (by omega) HP1.out, HP2.out⟩
                | false =>
                  have hB := of_decide_eq_false HB1.out.symm
                  have HB := veil hB; clear hB
                  go_wp2
                  go_meet
                  case rel =>
                    refine ⟨rfl, d, rfl, S1, permIn_refl _ _ _, fun t => ?_⟩
                    have := HB.out
                    rcases Nat.eq_or_lt_of_le c2 with rfl | h
                    · exact (rg_none d).1.symm
                    · obtain rfl : m = en := by omega
                      exact ((rg_none d).2 c2).symm
            case rest =>
              as_aux_lemma =>
                clear HB1 S1
                obtain ⟨rfl, d1, hs1, S1, HP1⟩ := hcut
                have hrot := HC.out.rot HU.out HV.out (by rw [← Hen.out]; exact HP1.out.2)
                rw [← Hen.out] at hrot
                have HR := veil hrot
                clear hrot
                obtain ⟨B2, hB2⟩ : ∃ B, B = decide (a < i ∧ i < mid) := ⟨_, rfl⟩
                have HB2 := veil hB2; clear hB2
                go_upto_region 41 with fail
                go_cut [199] (fun vb wx => vb = .bool B2 ∧ wc = wx)
                case first =>
                  as_aux_lemma =>
                    by_cases hp : a < i
                    · have hpz : (a : Int) < (i : Int) := by omega
                      by_cases hq : i < mid
                      · have hqz : (i : Int) < (mid : Int) := by omega
                        go_wp2
                        go_meet
                        case rel => exact ⟨by rw [HB2.out, decide_eq_true ⟨hp, hq⟩], rfl⟩
                      · have hqz : ¬ (i : Int) < (mid : Int) := by omega
                        go_wp2
                        go_meet
                        case rel => exact ⟨by rw [HB2.out, decide_eq_false fun h => hq h.2], rfl⟩
                    · have hpz : ¬ (a : Int) < (i : Int) := by omega
                      go_wp2
                      go_meet
                      case rel => exact ⟨by rw [HB2.out, decide_eq_false fun h => hp h.1], rfl⟩
                case rest =>
                  obtain ⟨rfl, rfl⟩ := hcut
                  go_upto_if 199 with fail
                  go_cut [24] (fun v24 wx => v24 = .int .i64 en ∧ ∃ d2 : Array Hd, d2.size = d.size ∧ Aside (SWK encH 2 w0 blk off d2 wx) ∧ Hid (PermIn a mid d1 d2 ∧ SortK keyH a mid d2))
                  case first =>
                    as_aux_lemma =>
                      cases B2 with
                      | true =>
                        have hB := of_decide_eq_true HB2.out.symm
                        have hc := IH.out a i mid d1 _ (by have := Hn.out; omega) (by omega) S1.out hB.1 hB.2 (by omega) HR.out.1 HR.out.2.1
                        rw [hs1] at hc
                        have HC1 := veil hc; clear hc hB
                        go_wp2_with fail
                        refine HC1.out.mono ?_
                        rintro e w1 ⟨rfl, d2, p1, p2, S2⟩
                        have S3 : Aside (SWK encH 2 w0 blk off d2 w1) := S2
                        have HP3 := veil p1; have HP4 := veil p2
                        clear S2 p1 p2 HC1 S1
                        go_wp2
                        go_meet
                        case rel => exact ⟨rfl, d2, HP3.out.1.trans hs1, S3, HP3.out, HP4.out⟩
                      | false =>
                        have hB := of_decide_eq_false HB2.out.symm
                        have HB := veil hB; clear hB
                        go_wp2
                        go_meet
                        case rel =>
                          refine ⟨rfl, d1, hs1, S1, permIn_refl _ _ _, ?_⟩
                          have := HB.out
                          rcases Nat.eq_or_lt_of_le c1 with rfl | h
                          · exact HR.out.2.1
                          · obtain rfl : i = mid := by omega
                            exact HR.out.1
                  case rest =>
                    as_aux_lemma =>
                      clear HB2 S1
                      obtain ⟨rfl, d2, hs2, S1, HP2⟩ := hcut
                      have s3 : SortK keyH mid en d2 := HR.out.2.2.1.congr fun t h _ => HP2.out.1.2.1 t (.inr h)
                      have s4 : SortK keyH en b d2 := HR.out.2.2.2.1.congr fun t h _ => HP2.out.1.2.1 t (.inr (by omega))
                      have H3 := veil s3; have H4 := veil s4
                      clear s3 s4
                      obtain ⟨B3, hB3⟩ : ∃ B, B = decide (mid < en ∧ en < b) := ⟨_, rfl⟩
                      have HB3 := veil hB3; clear hB3
                      go_upto_region 43 with fail
                      go_cut [213] (fun vb wx => vb = .bool B3 ∧ wc = wx)
                      case first =>
                        as_aux_lemma =>
                          by_cases hp : mid < en
                          · have hpz : (mid : Int) < (en : Int) := by omega
                            by_cases hq : en < b
                            · have hqz : (en : Int) < (b : Int) := by omega
                              go_wp2
                              go_meet
                              case rel => exact ⟨by rw [HB3.out, decide_eq_true ⟨hp, hq⟩], rfl⟩
                            · have hqz : ¬ (en : Int) < (b : Int) := by omega
                              go_wp2
                              go_meet
                              case rel => exact ⟨by rw [HB3.out, decide_eq_false fun h => hq h.2], rfl⟩
                          · have hpz : ¬ (mid : Int) < (en : Int) := by omega
                            go_wp2
                            go_meet
                            case rel => exact ⟨by rw [HB3.out, decide_eq_false fun h => hp h.1], rfl⟩
                      case rest =>
                        obtain ⟨rfl, rfl⟩ := hcut
                        cases B3 with
                        | true =>
                          have hB := of_decide_eq_true HB3.out.symm
                          have hc := IH.out mid en b d2 _ (by have := Hn.out; omega) (by omega) S1.out hB.1 hB.2 (by omega) H3.out H4.out
                          rw [hs2] at hc
                          have HC1 := veil hc; clear hc hB
                          go_wp2_with fail
                          refine HC1.out.mono ?_
                          rintro e w1 ⟨rfl, d3, p1, p2, S2⟩
                          have S3 : Aside (SWK encH 2 w0 blk off d3 w1) := S2
                          have HP5 := veil p1; have HP6 := veil p2
                          clear S2 p1 p2 HC1 S1
                          go_wp2
                          go_end0
                          have hd := merge_done (by omega) (by omega) (by omega) HR.out.2.2.2.2 HP2.out.1 HP2.out.2 HP5.out HP6.out
                          exact ⟨rfl, d3, permIn_trans _ _ _ _ _ HP1.out.1 hd.1, hd.2, S3.out⟩
                        | false =>
                          have hB := of_decide_eq_false HB3.out.symm
                          have HB := veil hB; clear hB
                          go_wp2
                          go_end0
                          have h5 : SortK keyH mid b d2 := by
                            have := HB.out
                            rcases Nat.eq_or_lt_of_le c5 with rfl | h
                            · exact H4.out
                            · obtain rfl : en = b := by omega
                              exact H3.out
                          have hd := merge_done (by omega) (by omega) (by omega) HR.out.2.2.2.2 HP2.out.1 HP2.out.2 (permIn_refl _ _ _) h5
                          exact ⟨rfl, d2, permIn_trans _ _ _ _ _ HP1.out.1 hd.1, hd.2, S1.out⟩
end Go.Proofs.Ytddkhkpdbjjboaa

/- slices.stableCmpFunc and slices.SortStableFunc over bundles: their contracts. -/
namespace Go.Proofs.Ytddkhkpdbjjboaa
open Go.Shelf Go.RowKit Go.Lib Go.Sort
set_option linter.unusedVariables false
set_option linter.unusedSimpArgs false
set_option maxRecDepth 100000

def Al (B p : Nat) : Prop := ∃ s, p = s * B
theorem Al.zero (B : Nat) : Al B 0 := ⟨0, by simp⟩
theorem Al.next {B p : Nat} (h : Al B p) : Al B (p + B) := by obtain ⟨s, rfl⟩ := h; exact ⟨s + 1, by rw [Nat.add_mul, Nat.one_mul]⟩
theorem Al.half {B p : Nat} (h : Al (2 * B) p) : Al B p := by obtain ⟨s, rfl⟩ := h; exact ⟨2 * s, by rw [Nat.mul_comm 2 s, Nat.mul_assoc]⟩
theorem Al.lt {B p a : Nat} (h : Al B p) (h2 : Al B a) (h3 : p < a) : p + B ≤ a := by
  obtain ⟨s, rfl⟩ := h
  obtain ⟨k, rfl⟩ := h2
  have h4 : s < k := by
    rcases Nat.lt_or_ge s k with h | h
    · exact h
    · have := Nat.mul_le_mul_right B h; omega
  have := Nat.mul_le_mul_right B (show s + 1 ≤ k from h4)
  rw [Nat.add_mul, Nat.one_mul] at this
  exact this
theorem Al.le {B p a : Nat} (h : Al B p) (h2 : Al B a) (h3 : p < a + B) : p ≤ a := by
  rcases Nat.lt_or_ge a p with h4 | h4
  · have := h2.lt h h4; omega
  · exact h4
/-- All blocks of B are sorted. -/
def Blks (n B : Nat) (d : Array Hd) : Prop := ∀ p, Al B p → SortK keyH p (min (p + B) n) d
/-- Blocks of 2 B up to a, of B from a on. -/
def Halfs (n B a : Nat) (d : Array Hd) : Prop := (∀ p, Al (2 * B) p → p < a → SortK keyH p (min (p + 2 * B) n) d) ∧ ∀ p, Al B p → a ≤ p → SortK keyH p (min (p + B) n) d
section
variable {n B a : Nat} {d d' : Array Hd}
theorem Halfs.start (h : Blks n B d) : Halfs n B 0 d := ⟨fun p _ h => by omega, fun p hp _ => h p hp⟩
theorem Halfs.next (h : Halfs n B a d) (hB : 0 < B) (ha : Al (2 * B) a) (hn : a + 2 * B ≤ n) (hp : PermIn a (a + 2 * B) d d') (hs : SortK keyH a (a + 2 * B) d') : Halfs n B (a + 2 * B) d' := by
  refine ⟨fun p h1 h2 => ?_, fun p h1 h2 => ?_⟩
  · have h3 := h1.le ha h2
    rcases Nat.eq_or_lt_of_le h3 with rfl | h3
    · rw [Nat.min_eq_left hn]; exact hs
    · have h4 := h1.lt ha h3
      exact (h.1 p h1 h3).congr fun i _ hi => hp.2.1 i (.inl (by omega))
  · exact (h.2 p h1 (by omega)).congr fun i hi _ => hp.2.1 i (.inr (by omega))
theorem Halfs.done (h : Halfs n B a d) (hB : 0 < B) (ha : Al (2 * B) a) (hn : n < a + 2 * B) (hp : PermIn a n d d') (hs : SortK keyH a n d') : Blks n (2 * B) d' := by
  intro p h1
  rcases Nat.lt_trichotomy p a with h2 | h2 | h2
  · have h4 := h1.lt ha h2
    exact (h.1 p h1 h2).congr fun i _ hi => hp.2.1 i (.inl (by omega))
  · subst h2
    exact hs.part (Nat.le_refl _) (by omega)
  · have h4 := ha.lt h1 h2
    exact SortK.one _ _ (by omega)
theorem Halfs.idle (h : Halfs n B a d) (hB : 0 < B) (ha : Al (2 * B) a) (hn : n ≤ a + B) : Blks n (2 * B) d := by
  refine h.done hB ha (by omega) (permIn_refl _ _ _) ?_
  have := h.2 a ha.half (Nat.le_refl _)
  exact this.part (Nat.le_refl _) (by omega)
end

set_option maxHeartbeats 4000000 in
set_option maxRecDepth 1000000 in
theorem stable_any (blk off cap : Nat) (d : Array Hd) (w0 : World) (R : RowK encH 2 w0 blk off d) (hsz : d.size < 1152921504606846976) :
    Calls Try.prog 101 #[.slice (some ⟨blk, off, none⟩) d.size cap, .int .i64 d.size, .func (.func 82) #[] #[]] w0 fun e w' => e = .returned (.tuple #[]) ∧ ∃ d', PermIn 0 d.size d d' ∧ SortK keyH 0 d.size d' ∧ SWK encH 2 w0 blk off d' w' := by
  have S0 : Aside (SWK encH 2 w0 blk off d w0) := SWK.start R.hH
  obtain ⟨n, hn⟩ : ∃ n, n = d.size := ⟨_, rfl⟩
  rw [← hn] at hsz ⊢
  have Hn := veil hn; clear hn
  go_enter Try.func101, Try.ntmps101
  go_wp2
  go_loopg [7, 8] (n + 1) (fun g1 va vb wr => ∃ (a b : Nat) (dk : Array Hd), va = .int .i64 a ∧ vb = .int .i64 b ∧ b = a + 20 ∧ a ≤ n ∧ n + 1 - a ≤ g1 ∧ dk.size = n ∧ Aside (SWK encH 2 w0 blk off dk wr) ∧ Hid (Al 20 a ∧ PermIn 0 n d dk ∧ ∀ p, Al 20 p → p < a → SortK keyH p (p + 20) dk))
  case atStart => exact ⟨0, 20, d, rfl, rfl, rfl, by omega, by omega, Hn.out.symm, S0, Al.zero _, permIn_refl _ _ _, fun p _ h => by omega⟩
  case round =>
    clear S0
    obtain ⟨a, b, dk, rfl, rfl, rfl, han, hg, hsk, S1, HP⟩ := hrel
    by_cases hle : a + 20 ≤ n
    · have hlez : (a : Int) + 20 ≤ (n : Int) := by omega
      have hc := insertion_any blk off cap a (a + 20) d dk w0 wr R (by have := Hn.out; omega) S1.out (by omega) (by omega) (by omega)
      rw [hsk, show ((a + 20 : Nat) : Int) = (a : Int) + 20 by omega] at hc
      have hi := insertionSort_holds (lt := ltOf cfH) swoH dk a (a + 20) (by omega) (by omega)
      generalize insertionSort (ltOf cfH) dk a (a + 20) = d2 at hc hi
      have HC := veil hc; have HI := veil hi
      clear hc hi
      go_wp2_with fail
      refine HC.out.mono ?_
      rintro e w1 ⟨rfl, S2⟩
      have S3 : Aside (SWK encH 2 w0 blk off d2 w1) := S2
      clear S2 HC S1
      go_wp2
      go_roundg (n - a)
      case measure => omega
      case rel =>
        obtain ⟨h1, h2, h3⟩ := HP.out
        obtain ⟨i1, i2⟩ := HI.out
        refine ⟨a + 20, a + 20 + 20, d2, by go_num, by go_num, rfl, by omega, by omega, i1.1.trans hsk, S3, h1.next, permIn_trans _ _ _ _ _ h2 (permIn_mono _ _ _ _ _ _ (Nat.zero_le _) (by omega) (by omega) i1), fun p hp hpa => ?_⟩
        have h4 := hp.le h1 hpa
        rcases Nat.eq_or_lt_of_le h4 with rfl | h4
        · exact sortK_of i2
        · have h5 := hp.lt h1 h4
          exact (h3 p hp h4).congr fun i _ hi => i1.2.1 i (.inl (by omega))
    · have hlez : ¬ (a : Int) + 20 ≤ (n : Int) := by omega
      have hc := insertion_any blk off cap a n d dk w0 wr R (by have := Hn.out; omega) S1.out (by omega) (by omega) (by omega)
      rw [hsk] at hc
      have hi := insertionSort_holds (lt := ltOf cfH) swoH dk a n (by omega) (by omega)
      generalize insertionSort (ltOf cfH) dk a n = d2 at hc hi
      have hbl : PermIn 0 n d d2 ∧ Blks n 20 d2 := by
        obtain ⟨h1, h2, h3⟩ := HP.out
        obtain ⟨i1, i2⟩ := hi
        refine ⟨permIn_trans _ _ _ _ _ h2 (permIn_mono _ _ _ _ _ _ (Nat.zero_le _) (by omega) (by omega) i1), fun p hp => ?_⟩
        rcases Nat.lt_trichotomy p a with h4 | h4 | h4
        · have h5 := hp.lt h1 h4
          exact ((h3 p hp h4).congr fun i _ hi => i1.2.1 i (.inl (by omega))).part (Nat.le_refl _) (by omega)
        · subst h4; exact (sortK_of i2).part (Nat.le_refl _) (by omega)
        · have h5 := h1.lt hp h4
          exact SortK.one _ _ (by omega)
      have hs2 : d2.size = n := hi.1.1.trans hsk
      have HC := veil hc; have HB := veil hbl
      clear hc hi hbl HP
      go_wp2_with fail
      refine HC.out.mono ?_
      rintro e w1 ⟨rfl, S2⟩
      have S3 : Aside (SWK encH 2 w0 blk off d2 w1) := S2
      clear S2 HC S1
      go_wp2
      go_loopg [6, 7, 8] (n + 1) (fun g2 vB va vb wr2 => ∃ (B : Nat) (dl : Array Hd), vB = .int .i64 B ∧ 20 ≤ B ∧ B ≤ 2 * n + 20 ∧ n + 1 - B ≤ g2 ∧ dl.size = n ∧ Aside (SWK encH 2 w0 blk off dl wr2) ∧ Hid (PermIn 0 n d dl ∧ Blks n B dl))
      case atStart => exact ⟨20, d2, rfl, by omega, by omega, by omega, hs2, S3, HB.out⟩
      case round =>
        clear S3 HB hs2 hsk
        obtain ⟨B, dl, rfl, hB20, hBn, hg2, hsl, S1, HP⟩ := hrel
        by_cases hlt : B < n
        · have hltz : (B : Int) < (n : Int) := by omega
          go_wp2
          go_loopg [7, 8] (n + 1) (fun g3 va vb wr3 => ∃ (a b : Nat) (dm : Array Hd), va = .int .i64 a ∧ vb = .int .i64 b ∧ b = a + 2 * B ∧ a ≤ n ∧ n + 1 - a ≤ g3 ∧ dm.size = n ∧ Aside (SWK encH 2 w0 blk off dm wr3) ∧ Hid (Al (2 * B) a ∧ PermIn 0 n d dm ∧ Halfs n B a dm))
          case atStart => exact ⟨0, 2 * B, dl, rfl, by go_num, by omega, by omega, by omega, hsl, S1, Al.zero _, HP.out.1, Halfs.start HP.out.2⟩
          case round =>
            clear S1 HP hsl
            obtain ⟨a2, b2, dm, rfl, rfl, rfl, han2, hg3, hsm, S1, HP⟩ := hrel
            by_cases hle2 : a2 + 2 * B ≤ n
            · have hlez2 : (a2 : Int) + 2 * (B : Int) ≤ (n : Int) := by omega
              obtain ⟨h1, h2, h3⟩ := HP.out
              have hc := symMerge_all blk off cap d w0 R (by have := Hn.out; omega) (2 * B) a2 (a2 + B) (a2 + 2 * B) dm wr (by omega) (by have := Hn.out; omega) S1.out (by omega) (by omega) (by omega)
                ((h3.2 a2 h1.half (Nat.le_refl _)).part (Nat.le_refl _) (by omega)) ((h3.2 (a2 + B) h1.half.next (by omega)).part (Nat.le_refl _) (by omega))
              rw [hsm, show ((a2 + B : Nat) : Int) = (a2 : Int) + (B : Int) by omega, show ((a2 + 2 * B : Nat) : Int) = (a2 : Int) + 2 * (B : Int) by omega] at hc
              have HC := veil hc
              clear hc h1 h2 h3
              go_wp2_with fail
              refine HC.out.mono ?_
              rintro e w4 ⟨rfl, d5, p1, p2, S2⟩
              have S3 : Aside (SWK encH 2 w0 blk off d5 w4) := S2
              have H1 := veil p1; have H2 := veil p2
              clear S2 HC S1 p1 p2
              go_wp2
              go_roundg (n - a2)
              case measure => omega
              case rel =>
                obtain ⟨h1, h2, h3⟩ := HP.out
                exact ⟨a2 + 2 * B, a2 + 2 * B + 2 * B, d5, by go_num, by go_num, rfl, by omega, by omega, H1.out.1.trans hsm, S3, h1.next, permIn_trans _ _ _ _ _ h2 (permIn_mono _ _ _ _ _ _ (Nat.zero_le _) (by omega) (by omega) H1.out), h3.next (by omega) h1 hle2 H1.out H2.out⟩
            · have hlez2 : ¬ (a2 : Int) + 2 * (B : Int) ≤ (n : Int) := by omega
              by_cases hm : a2 + B < n
              · have hmz : (a2 : Int) + (B : Int) < (n : Int) := by omega
                obtain ⟨h1, h2, h3⟩ := HP.out
                have hc := symMerge_all blk off cap d w0 R (by have := Hn.out; omega) n a2 (a2 + B) n dm wr (by omega) (by have := Hn.out; omega) S1.out (by omega) (by omega) (by omega)
                  ((h3.2 a2 h1.half (Nat.le_refl _)).part (Nat.le_refl _) (by omega)) ((h3.2 (a2 + B) h1.half.next (by omega)).part (Nat.le_refl _) (by omega))
                rw [hsm, show ((a2 + B : Nat) : Int) = (a2 : Int) + (B : Int) by omega] at hc
                have HC := veil hc
                clear hc h1 h2 h3
                go_wp2_with fail
                refine HC.out.mono ?_
                rintro e w4 ⟨rfl, d5, p1, p2, S2⟩
                have S3 : Aside (SWK encH 2 w0 blk off d5 w4) := S2
                have H1 := veil p1; have H2 := veil p2
                clear S2 HC S1 p1 p2
                go_wp2
                go_roundg (n - B)
                case measure => omega
                case rel =>
                  obtain ⟨h1, h2, h3⟩ := HP.out
                  exact ⟨B * 2, d5, by go_num, by omega, by omega, by omega, H1.out.1.trans hsm, S3, permIn_trans _ _ _ _ _ h2 (permIn_mono _ _ _ _ _ _ (Nat.zero_le _) (Nat.le_refl _) (by omega) H1.out), by rw [Nat.mul_comm B 2]; exact h3.done (by omega) h1 (by omega) H1.out H2.out⟩
              · have hmz : ¬ (a2 : Int) + (B : Int) < (n : Int) := by omega
                go_wp2
                go_roundg (n - B)
                case measure => omega
                case rel =>
                  obtain ⟨h1, h2, h3⟩ := HP.out
                  exact ⟨B * 2, dm, by go_num, by omega, by omega, by omega, hsm, S1, h2, by rw [Nat.mul_comm B 2]; exact h3.idle (by omega) h1 (by omega)⟩
        · have hltz : ¬ (B : Int) < (n : Int) := by omega
          go_wp2
          go_end0
          have h1 := HP.out.2 0 (Al.zero _)
          exact ⟨rfl, dl, HP.out.1, h1.part (Nat.le_refl _) (by omega), S1.out⟩
set_option maxHeartbeats 1000000 in
theorem sortStable_any (blk off cap : Nat) (d : Array Hd) (w0 : World) (R : RowK encH 2 w0 blk off d) (hsz : d.size < 1152921504606846976) :
    Calls Try.prog 81 #[.slice (some ⟨blk, off, none⟩) d.size cap, .func (.func 82) #[] #[]] w0 fun e w' => e = .returned (.tuple #[]) ∧ ∃ d', PermIn 0 d.size d d' ∧ SortK keyH 0 d.size d' ∧ SWK encH 2 w0 blk off d' w' := by
  have HC := veil (stable_any blk off cap d w0 R hsz)
  go_enter Try.func81, Try.ntmps81
  go_wp2_with fail
  refine HC.out.mono ?_
  rintro e w1 ⟨rfl, d', p1, p2, S2⟩
  have S3 : Aside (SWK encH 2 w0 blk off d' w1) := S2
  have H1 := veil p1; have H2 := veil p2
  clear S2 HC p1 p2
  go_wp2
  go_end0
  exact ⟨rfl, d', H1.out, H2.out, S3.out⟩
end Go.Proofs.Ytddkhkpdbjjboaa

/- slices.SortStableFunc over a row of bundles of the call's own: the same bundles, by cost. -/
namespace Go.Proofs.Ytddkhkpdbjjboaa
open Go.Shelf Go.RowKit Go.Lib Go.Sort
set_option linter.unusedVariables false
set_option linter.unusedSimpArgs false
set_option maxRecDepth 100000

theorem row_of {w : World} {B g c : Nat} {xs : List Hd} (h : w.ownsRow B 150 2 (.slice (some ⟨g, 0, none⟩) xs.length c) xs.length (hCells xs)) : RowK encH 2 w g 0 xs.toArray := by
  refine ⟨fun x => rfl, fun x => encH_one x, ?_, (h.lt g rfl).2⟩
  intro j hj
  simp only [size_flatK, List.size_toArray] at hj
  refine ⟨?_, by rw [Nat.zero_add]; exact h.frozenAt j⟩
  rw [Nat.zero_add, h.cellAt j hj, get_flatK _ _ _ _ (by simpa using hj)]
  obtain ⟨x, hx⟩ := some_at (xs := xs) (j := j / 2) (by omega)
  obtain ⟨h1, h2⟩ := hCells_at xs (j / 2) x hx
  have hx' : xs.toArray[j / 2]! = x := by simp [hx]
  rw [hx']
  rcases Nat.mod_two_eq_zero_or_one j with e | e
  · rw [show j / 2 * 2 = j by omega] at h1
    rw [h1, e]; rfl
  · rw [show j / 2 * 2 + 1 = j by omega] at h2
    rw [h2, e]; rfl
theorem seen_of {w : World} {g : Nat} {ys : List Hd} (h : HoldsK encH 2 w g 0 ys.toArray) (hg : g < w.heap.size) : Seen w w.heap.size (some ⟨g, 0, none⟩) (hCells ys) := by
  refine .inr ⟨_, _, rfl, hg, fun j u hu => ?_⟩
  have hj := (List.getElem?_eq_some_iff.1 hu).1
  rw [hCells_length] at hj
  obtain ⟨x, hx⟩ := some_at (xs := ys) (j := j / 2) (by omega)
  obtain ⟨h1, h2⟩ := hCells_at ys (j / 2) x hx
  have hx' : ys.toArray[j / 2]! = x := by simp [hx]
  have := (h j (by simp; omega)).1
  rw [get_flatK _ _ _ _ (by simpa using hj), hx'] at this
  rw [this]
  rcases Nat.mod_two_eq_zero_or_one j with e | e
  · rw [show j / 2 * 2 = j by omega] at h1
    rw [e, ← hu, h1]; rfl
  · rw [show j / 2 * 2 + 1 = j by omega] at h2
    rw [e, ← hu, h2]; rfl
theorem swk_below {w W : World} {g : Nat} {d : Array Hd} (h : SWK encH 2 w g 0 d W) (hg : g < w.heap.size) : Go.RowKit.Below g w W := by
  obtain ⟨n, os, rfl⟩ := h
  unfold sortWorldK putRowK putRow mapBlock Sort.ahead grow
  refine ⟨rfl, rfl, rfl, by simp, fun k hk => ?_⟩
  simp only
  rw [Array.getElem?_append_left (by simp; omega), Array.getElem?_modify, if_neg (by omega)]
set_option maxHeartbeats 1000000 in
theorem sorted_any (B : Nat) (v : Value) (xs : List Hd) (w : World) (HO : Owns B [hRow v xs] w) (h1 : 1 ≤ xs.length) (hn : xs.length ≤ 1048576) :
    Calls Try.prog 81 #[v, .func (.func 82) #[] #[]] w fun e w' => ∃ A c ys, e = .returned (.tuple #[]) ∧ v = .slice A ys.length c ∧ xs.Perm ys ∧ ys.Pairwise (fun x y => x.1 ≤ y.1) ∧ Seen w' w'.heap.size A (hCells ys) ∧ ys.length ≤ c ∧ c ≤ maxLen ∧ Go.RowKit.Below B w w' := by
  have hown : w.ownsRow B 150 2 v xs.length (hCells xs) := HO.head
  rcases hown.2 with ⟨_, h0⟩ | ⟨g, cap, cur, rfl, hBg, _, hcap, hcm, _⟩
  · omega
  · have R := row_of hown
    refine (sortStable_any g 0 cap xs.toArray w R (by simp; omega)).mono ?_
    rintro e w' ⟨rfl, d, hp, hs, S⟩
    have hd : d = d.toList.toArray := rfl
    have hsz : d.toList.length = xs.length := by have := hp.1; simpa using this
    have hlt := (hown.lt g rfl).2
    have hb := swk_below S hlt
    refine ⟨_, cap, d.toList, rfl, by rw [hsz], ?_, ?_, seen_of (S.holds hlt R.hH hp.1) (Nat.lt_of_lt_of_le hlt hb.size), by omega, hcm, hb.mono hBg⟩
    · have := hp.2.2
      have h2 : xs.toArray.size = d.size := hp.1.symm
      rw [Array.extract_eq_self_of_le (by omega), Array.extract_eq_self_of_le (by omega)] at this
      exact this.symm
    · rw [List.pairwise_iff_getElem]
      intro i j hi hj hij
      have := hs i j (by omega) hij (by rw [hp.1.symm]; simpa using hj)
      have e1 : d[i]! = d.toList[i] := by simp at hi; simp [hi]
      have e2 : d[j]! = d.toList[j] := by simp at hj; simp [hj]
      rw [e1, e2] at this
      exact this
end Go.Proofs.Ytddkhkpdbjjboaa

/- A map from numbers to numbers, as a function: made, written, asked. -/
namespace Go.Proofs.Ytddkhkpdbjjboaa
open Go.RowKit
open Go.Maps (Keyed)
set_option linter.unusedVariables false
set_option linter.unusedSimpArgs false
set_option maxRecDepth 100000

/-- Block b is a map of at most n entries that holds what f says. -/
def MapN (w : World) (b n : Nat) (f : Int → Option Int) : Prop :=
  ∃ D : DataW Unit, w.ownsMap Try.prog 3 (plainElem Try.prog 3) b n D ∧ ∀ x, WF x → Maps.has D (.int .i64 x) = (f x).isSome ∧ D.atKey (.int .i64 x) (.lit (.int .i64 0)) = .lit (.int .i64 ((f x).getD 0))
theorem make_mapN (n : Nat) (w : World) : (Instr.makeMap 116 (some (.int .i64 (n : Int)))).run Try.prog w = .ok (.map (some w.heap.size)) (w.alloc (.map #[] 0)) := by
  simp [Instr.makeMap, run_underlying Try.underlying116, asInt, newObj]
  rfl
section
variable {w w' : World} {b n : Nat} {f : Int → Option Int}
theorem MapN.made (w : World) : MapN (w.alloc (.map #[] 0)) w.heap.size 0 (fun _ => none) :=
  ⟨.map [], World.ownsMap_made _ _ _ _, fun x hx => ⟨rfl, rfl⟩⟩
theorem MapN.lt (h : MapN w b n f) : b < w.heap.size := by obtain ⟨D, h1, _⟩ := h; exact h1.lt
theorem MapN.below (h : MapN w b n f) {C : Nat} (hb : Below C w w') (hC : b < C) : MapN w' b n f := by
  have hlt := h.lt
  obtain ⟨D, ⟨es, clock, h1, h2⟩, h3⟩ := h
  exact ⟨D, ⟨es, clock, by rw [hb.block b hC]; exact h1, h2⟩, h3⟩
theorem MapN.of (h : MapN w b n f) (hb : w'.heap[b]? = w.heap[b]?) : MapN w' b n f := by
  obtain ⟨D, ⟨es, clock, h1, h2⟩, h3⟩ := h
  exact ⟨D, ⟨es, clock, by rw [hb]; exact h1, h2⟩, h3⟩
theorem MapN.store (h : MapN w b n f) (hn : n < maxLen) {x : Int} (hx : WF x) {y : Int} (hy : WF y) :
    ∃ w', (Instr.mapUpdate 116 (.map (some b)) (.int .i64 x) (.int .i64 y)).run Try.prog w = .ok () w' ∧ MapN w' b (n + 1) (upd f x y) ∧ w.grownBy w' (some b) := by
  obtain ⟨D, h1, h3⟩ := h
  have hT := h1.tidy keyInt
  obtain ⟨w', r1, r2, r3⟩ := h1.update keyInt Try.underlying116 hn (Maps.keyOf_int_mk Try.underlying3 hx) (plainElem_int Try.underlying3 hy)
  refine ⟨w', r1, ⟨_, r2, fun y hy => ?_⟩, r3⟩
  by_cases e : y = x
  · subst e
    rw [Maps.has_put_same hT.isMap (by trivial), Maps.atKey_put_same hT.isMap (by trivial)]
    simp [upd]
  · have hne : Lit.int IntKind.i64 y ≠ Lit.int IntKind.i64 x := by simpa using e
    rw [Maps.has_put_other hne, Maps.atKey_put_other hne]
    simp only [upd, if_neg e]
    exact h3 y hy
theorem MapN.look (h : MapN w b n f) {x : Int} (hx : WF x) :
    (Instr.lookup 116 (.map (some b)) (.int .i64 x) true).run Try.prog w = .ok (.tuple #[.int .i64 ((f x).getD 0), .bool (f x).isSome]) w := by
  obtain ⟨D, h1, h3⟩ := h
  obtain ⟨v, ps, r1, r2⟩ := h1.look_ok keyInt Try.underlying116 (zeroInt w) (plainElem_int Try.underlying3 (by decide)) (Maps.keyOf_int_mk Try.underlying3 hx)
  rw [(h3 x hx).2] at r2
  obtain ⟨c, rfl, hc, _⟩ := plainElem_int_inv Try.underlying3 r2
  simp only [Prod.mk.injEq, DataW.lit.injEq, Lit.int.injEq, true_and] at hc
  rw [r1, (h3 x hx).1, hc.1]
theorem MapN.look1 (h : MapN w b n f) {x : Int} (hx : WF x) :
    (Instr.lookup 116 (.map (some b)) (.int .i64 x) false).run Try.prog w = .ok (.int .i64 ((f x).getD 0)) w := by
  obtain ⟨D, h1, h3⟩ := h
  obtain ⟨c, r1, r2, _⟩ := h1.lookup_int keyInt Try.underlying116 Try.underlying3 (zeroInt w) (Maps.keyOf_int_mk Try.underlying3 hx)
  rw [(h3 x hx).2] at r2
  simp only [DataW.lit.injEq, Lit.int.injEq, true_and] at r2
  rw [r1, r2]
end
end Go.Proofs.Ytddkhkpdbjjboaa

/- Chains: bounds; how often each symbol comes, as a map. -/
namespace Go.Proofs.Ytddkhkpdbjjboaa
open Go.RowKit
set_option linter.unusedVariables false
set_option linter.unusedSimpArgs false
set_option maxRecDepth 100000

theorem Chain.lens {w : Int → Nat} {idx : List Int} {j : Nat} {l : List Bun} (h : Chain w idx j l) : l.length ≤ 2 * idx.length := by
  induction h with
  | zero => simp
  | succ h hp hq ih =>
    have := hp.length_eq
    rw [List.length_append, pairsOf_length] at this
    simp only [singlesOf, List.length_map] at this
    omega
theorem pairs_short {m : Nat} {l : List Bun} (h : ∀ b ∈ l, b.2.length ≤ m) : ∀ b ∈ pairsOf l, b.2.length ≤ 2 * m := by
  induction l using two_ind with
  | h0 => intro b hb; simp [pairsOf] at hb
  | h1 a => intro b hb; simp [pairsOf] at hb
  | h2 a b l ih =>
    intro c hc
    simp only [pairsOf, List.mem_cons] at hc
    rcases hc with rfl | hc
    · have h1 := h a (by simp)
      have h2 := h b (by simp)
      simp [mergeB]; omega
    · exact ih (fun x hx => h x (by simp [hx])) c hc
theorem Chain.syms {w : Int → Nat} {idx : List Int} {j : Nat} {l : List Bun} (h : Chain w idx j l) : ∀ b ∈ l, b.2.length ≤ 2 ^ j := by
  induction h with
  | zero => simp
  | @succ j l q h hp hq ih =>
    intro b hb
    rcases List.mem_append.1 (hp.mem_iff.1 hb) with hb | hb
    · simp only [singlesOf, List.mem_map] at hb
      obtain ⟨i, hi, rfl⟩ := hb
      have := Nat.two_pow_pos (j + 1)
      simp [single1]; omega
    · have := pairs_short ih b hb
      rw [Nat.pow_succ]; omega
theorem sumF_bound {α : Type} (l : List α) (f : α → Nat) (c : Nat) (h : ∀ x ∈ l, f x ≤ c) : sumF l f ≤ c * l.length := by
  rw [← sumF_const]; exact sumF_le h
theorem Chain.costs {w : Int → Nat} {idx : List Int} (hw : ∀ i ∈ idx, w i ≤ 9999) {j : Nat} {l : List Bun} (h : Chain w idx j l) : ∀ b ∈ l, b.1 ≤ 9999 * 2 ^ j := by
  intro b hb
  obtain ⟨h1, _, h3⟩ := h.each b hb
  have h2 := h.syms b hb
  have := sumF_bound b.2 w 9999 fun s hs => hw s (h3 s hs)
  rw [h1]
  exact Nat.le_trans this (Nat.mul_le_mul_left _ h2)
theorem Chain.long {w : Int → Nat} {idx : List Int} (h0 : 1 ≤ idx.length) (h256 : idx.length ≤ 512) {l : List Bun} (h : Chain w idx 16 l) : 2 * idx.length - 2 ≤ l.length := by
  refine (h.least (Nat.le_refl _) (fun _ => 9) (2 * idx.length - 2) (fun i _ => by omega) ?_).1
  rw [sumF_const, show wid 9 = 130816 by decide]
  omega
/-- How often each comes. -/
def cntF (f : List Int) : Int → Option Int := fun i => if f.count i = 0 then none else some (f.count i : Int)
theorem cntF_nil : cntF [] = fun _ => none := by funext i; simp [cntF]
theorem cntF_getD (f : List Int) (i : Int) : (cntF f i).getD 0 = (f.count i : Int) := by
  unfold cntF; split <;> simp_all
theorem cntF_snoc (f : List Int) (s : Int) : upd (cntF f) s ((f.count s : Int) + 1) = cntF (f ++ [s]) := by
  funext i
  unfold upd cntF
  rw [List.count_append]
  by_cases e : i = s
  · subst e
    rw [if_pos rfl, if_neg (by simp)]
    simp
  · have e2 : (s == i) = false := by simpa using fun h => e h.symm
    rw [if_neg e, List.count_singleton, e2]; simp
theorem asc_of {w : World} {G : Nat} {m : List Bun} {zs : List Hd} (h : BunsAre w G m zs) (hp : zs.Pairwise (fun x y => x.1 ≤ y.1)) : Asc m := by
  unfold Asc
  rw [List.pairwise_iff_getElem] at hp ⊢
  intro i j hi hj hij
  have hl := h.1
  have h1 := (h.2 i m[i] zs[i] (List.getElem?_eq_getElem _) (List.getElem?_eq_getElem _)).1
  have h2 := (h.2 j m[j] zs[j] (List.getElem?_eq_getElem _) (List.getElem?_eq_getElem _)).1
  have := hp i j (by omega) (by omega) hij
  omega
theorem flat_len {l : List Bun} {m : Nat} (h : ∀ b ∈ l, b.2.length ≤ m) : (flatB l).length ≤ m * l.length := by
  induction l with
  | nil => simp [flatB]
  | cons a l ih =>
    have h1 := h a (by simp)
    have h2 := ih fun b hb => h b (by simp [hb])
    rw [flatB_cons, List.length_append, List.length_cons, Nat.mul_add]; omega
theorem flat_snoc {l : List Bun} {k : Nat} {b : Bun} (h : l[k]? = some b) : flatB (l.take (k + 1)) = flatB (l.take k) ++ b.2 := by
  rw [take_snoc h, flatB_append]; simp [flatB]
end Go.Proofs.Ytddkhkpdbjjboaa

/- best.lengths: its contract. -/
namespace Go.Proofs.Ytddkhkpdbjjboaa
open Go.RowKit
set_option linter.unusedVariables false
set_option linter.unusedSimpArgs false
set_option maxRecDepth 100000

/-- What the first loop holds. -/
def AllIs (w wr : World) (wgt : Int → Nat) (idx : List Int) (j : Nat) (v : Value) : Prop :=
  ∃ A c l ys, v = .slice A l.length c ∧ Chain wgt idx j l ∧ BunsAre wr wr.heap.size l ys ∧ Seen wr wr.heap.size A (hCells ys) ∧ l.length ≤ c ∧ c ≤ maxLen ∧ Below w.heap.size w wr

theorem MapN.start (w : World) (l : List Bun) : MapN (w.alloc (.map #[] 0)) w.heap.size (flatB (l.take 0)).length (cntF (flatB (l.take 0))) := by
  rw [show flatB (l.take 0) = [] by simp [flatB], cntF_nil]
  exact MapN.made w
/-- One symbol more. -/
theorem MapN.count {w : World} {b : Nat} {f : List Int} (h : MapN w b f.length (cntF f)) (hf : f.length ≤ 1099511627776) {s : Int} (hs : WF s) : ∃ q : Nat, q ≤ f.length ∧ (Instr.lookup 116 (.map (some b)) (.int .i64 s) false).run Try.prog w = .ok (.int .i64 (q : Int)) w ∧
    ∃ w', (Instr.mapUpdate 116 (.map (some b)) (.int .i64 s) (.int .i64 ((q : Int) + 1))).run Try.prog w = .ok () w' ∧ MapN w' b (f ++ [s]).length (cntF (f ++ [s])) ∧ w.grownBy w' (some b) := by
  have hle : f.count s ≤ f.length := List.count_le_length
  refine ⟨f.count s, hle, ?_, ?_⟩
  · rw [h.look1 hs, cntF_getD]
  · obtain ⟨w', h1, h2, h3⟩ := h.store (by unfold maxLen; omega) hs (y := (f.count s : Int) + 1) (wf_of (by omega))
    refine ⟨w', h1, ?_, h3⟩
    rw [cntF_snoc] at h2
    rw [List.length_append]
    exact h2

set_option maxHeartbeats 4000000 in
set_option maxRecDepth 100000 in
theorem lengths_any (A : Option Addr) (c G : Nat) (wgt : Int → Nat) (idx : List Int) (xs : List Hd) (w : World) (hs : Seen w G A (hCells xs)) (hB : BunsAre w G (singlesOf wgt idx) xs) (hG : G ≤ w.heap.size)
    (h1 : 1 ≤ idx.length) (h2 : idx.length ≤ 257) (hw : ∀ i ∈ idx, wgt i ≤ 9999) (hwf : ∀ i ∈ idx, WF i) :
    Calls Try.prog 57 #[.slice A idx.length c] w fun e w' => ∃ l n b, e = .returned (.map (some b)) ∧ Chain wgt idx 16 l ∧ w.heap.size ≤ b ∧ MapN w' b n (cntF (flatB (l.take (2 * idx.length - 2)))) ∧ Below w.heap.size w w' := by
  have HB := veil hB; have Hw := veil hw; have Hwf := veil hwf
  have Hxl : Hid (xs.length = idx.length) := by have := hB.1; simp [singlesOf] at this; exact this.symm
  clear hB hw hwf
  go_enter Try.func57, Try.ntmps57
  go_wp2
  go_loopg [3, 9] 16 (fun gk v i wr => ∃ j : Nat, gk = 16 - j ∧ j ≤ 16 ∧ i = .int .i64 (j : Int) ∧ AllIs w wr wgt idx j v)
  case atStart => exact ⟨0, rfl, by omega, rfl, none, 0, [], [], rfl, .zero, BunsAre.nil _ _, .inl rfl, Nat.le_refl _, Nat.zero_le _, Below.refl _ _⟩
  case round =>
    obtain ⟨j, rfl, hj, rfl, A1, c1, l, ys, rfl, hch, hbun, hsee, hlc, hcm, hbel⟩ := hrel
    have Hch := veil hch; have Hbun := veil hbun; have Hbel := veil hbel
    have hlen := hch.lens
    clear hch hbun
    by_cases hlt : j < 16
    · have hltz : (j : Int) < 16 := by omega
      have hp2 : 2 ^ j ≤ 32768 := Nat.le_trans (Nat.pow_le_pow_right (by omega) (show j ≤ 15 by omega)) (by decide)
      have HC := veil (pairs_any A1 c1 wr.heap.size l ys wr hsee Hbun.out (Nat.le_refl _) (by omega) (fun b hb => by have := Hch.out.costs Hw.out b hb; omega) (fun b hb => by have := Hch.out.syms b hb; omega))
      clear hp2
      go_wp2_with fail
      refine HC.out.mono ?_
      rintro e w1 ⟨ys2, rs, v2, rfl, HO1, hR, hb1⟩
      have HR := veil hR; clear hR HC
      obtain ⟨A2, c2, e2, hs2, hl2, hm2⟩ := HO1.seen List.mem_cons_self
      simp only [hRow] at e2 hs2 hl2
      subst e2
      have HO1' := veil HO1; clear HO1
      go_wp2_with fail
      have hz1 := hb1.size
      have hz0 := hbel.size
      have hsx := (hs.below hbel hG).below hb1 (show G ≤ wr.heap.size by omega)
      have hn2 : ys2.length ≤ 1024 := by have := HR.out.1; rw [pairsOf_length] at this; omega
      have HC := veil (concatB_any w1.heap.size 2 idx.length ys2.length c c2 A A2 (hCells xs) (hCells ys2) (w1.alloc (.cells #[.slice A idx.length c, .slice A2 ys2.length c2] 118)) (by simp) (World.cell?_alloc_at (w := w1) _ _ _ _ rfl) (World.cell?_alloc_at (w := w1) _ _ _ _ rfl)
        ((hsx.alloc (by omega) _).up (by simp; omega)) ((hs2.alloc (Nat.le_refl _) _).up (by simp)) (by rw [hCells_length, Hxl.out]) (by rw [hCells_length]) hCells_one hCells_one (by omega))
      refine HC.out.mono ?_
      rintro e w2 ⟨v3, rfl, HO2, hb2⟩
      have HO3 : Owns (w1.heap.size + 1) [hRow v3 (xs ++ ys2)] w2 := by
        have e : (⟨150, 2, v3, idx.length + ys2.length, hCells xs ++ hCells ys2⟩ : Row) = hRow v3 (xs ++ ys2) := by
          simp only [hRow, hCells_append, List.length_append, Hxl.out]
        rw [e] at HO2
        rw [show w1.heap.size + 1 = (w1.alloc (.cells #[.slice A idx.length c, .slice A2 ys2.length c2] 118)).heap.size by simp]
        exact HO2
      have hb2' : Below (w1.heap.size + 1) w1 w2 → True := fun _ => trivial
      have HB2 : Hid (Below w1.heap.size w1 w2) := (below1 w1 _).trans (hb2.mono (by simp))
      have hx1 : 1 ≤ (xs ++ ys2).length := by rw [List.length_append, Hxl.out]; omega
      have hx2 : (xs ++ ys2).length ≤ 1048576 := by rw [List.length_append, Hxl.out]; omega
      have HC2 := veil (sorted_any (w1.heap.size + 1) v3 (xs ++ ys2) w2 HO3 hx1 hx2)
      clear HC HO2 HO3 hb2 hb2' hx1 hx2
      go_wp2_with fail
      refine HC2.out.mono ?_
      rintro e w3 ⟨A3, c3, zs, rfl, rfl, hpm, hpw, hs3, hl3, hm3, hb3⟩
      have Hpm := veil hpm; have Hpw := veil hpw
      clear HC2 hpm hpw
      have hfin : AllIs w w3 wgt idx (j + 1) (.slice A3 zs.length c3) := by
        have hB3 : Below w1.heap.size w1 w3 := HB2.out.trans (hb3.mono (by omega))
        have b1 := ((HB.out.below (Hbel.out.trans (hb1.mono hz0)) hG).up (show G ≤ w1.heap.size by omega)).below hB3 (Nat.le_refl _)
        have b2 := (HR.out.buns HO1'.out.tail).below hB3 (Nat.le_refl _)
        obtain ⟨m, p1, p2⟩ := (b1.append b2).perm Hpm.out
        refine ⟨A3, c3, m, zs, by rw [p2.1], .succ Hch.out p1.symm (asc_of p2 Hpw.out), p2.up hB3.size, hs3, by rw [p2.1]; exact hl3, hm3, ?_⟩
        exact (Hbel.out.trans (hb1.mono hz0)).trans (hB3.mono (by omega))
      clear HB2 HO1' HR Hpm Hpw
      go_wp2_with fail
      go_roundg (16 - (j + 1))
      case rel => exact ⟨j + 1, rfl, by omega, by go_num, hfin⟩
      case measure => omega
    · have hltz : ¬ (j : Int) < 16 := by omega
      have HJ : Hid (j = 16) := by show j = 16; omega
      rw [HJ.out] at Hch
      have hlong := Hch.out.long h1 (by omega)
      have hmm := make_mapN idx.length wr
      unfold maxLen at hcm
      go_wp2_with fail
      generalize hm : 2 * idx.length - 2 = m at *
      have Hm := veil hm; clear hm
      have HF : Hid (∀ k, (flatB (l.take k)).length ≤ 65536 * 514) := fun k => by
        refine Nat.le_trans (flat_len (m := 65536) fun b hb => Hch.out.syms b (List.mem_of_mem_take hb)) ?_
        have : (l.take k).length ≤ l.length := by rw [List.length_take]; omega
        omega
      clear hmm
      rename World => W0
      go_loopg [29] m (fun gk i w2 => ∃ k : Nat, gk = m - k ∧ k ≤ m ∧ i = .int .i64 (k : Int) ∧ MapN w2 W0.heap.size (flatB (l.take k)).length (cntF (flatB (l.take k))) ∧ Below W0.heap.size W0 w2)
      case atStart => exact ⟨0, rfl, by omega, rfl, MapN.start _ _, below1 _ _⟩
      case round =>
        obtain ⟨k, rfl, hk, rfl, HM, hb2⟩ := hrel
        by_cases hlt2 : k < m
        · have hltz2 : (k : Int) < (m : Int) := by omega
          obtain ⟨⟨cb, sa⟩, As, ca, hbk, hxk, hsa⟩ := Hbun.out.at (j := k) (by omega)
          obtain ⟨g, o, rfl, hg, hc0, hc1⟩ := hsee.hd hxk
          rw [← hb2.cell (by simp; omega)] at hc0 hc1
          simp only at hc0 hc1 hsa
          have Hbk := veil hbk
          have hgw : g < wr.heap.size := by have := hb2.size; omega
          clear hbk hxk
          have hsl : sa.length ≤ 65536 := Hch.out.syms _ (List.mem_of_getElem? Hbk.out)
          have Hin : Hid (∀ s ∈ sa, WF s) := fun s hs => Hwf.out s ((Hch.out.each _ (List.mem_of_getElem? Hbk.out)).2.2 s hs)
          have hz2 := hb2.size
          go_wp2_with fail
          clear hc0 hc1
          rename World => W1
          have HM1 := HM.below (below1 W1 (.cells #[.int .i64 (cb : Int), .slice As sa.length ca] 150)) HM.lt
          have hb3 := hb2.trans ((below1 W1 (.cells #[.int .i64 (cb : Int), .slice As sa.length ca] 150)).mono hz2)
          clear HM
          go_loopg [36] sa.length (fun gk i w2 => ∃ t : Nat, gk = sa.length - t ∧ t ≤ sa.length ∧ i = .int .i64 (t : Int) ∧ MapN w2 W0.heap.size (flatB (l.take k) ++ sa.take t).length (cntF (flatB (l.take k) ++ sa.take t)) ∧ Below W0.heap.size W0 w2)
          case atStart => exact ⟨0, rfl, by omega, rfl, by simpa using HM1, hb3⟩
          case round =>
            clear HM1 hb3 hb2
            obtain ⟨t, rfl, ht, rfl, HM, hb2⟩ := hrel
            by_cases hlt3 : t < sa.length
            · have hltz3 : (t : Int) < (sa.length : Int) := by omega
              obtain ⟨g2, o2, s, rfl, hg2, hst, hc2⟩ := hsa.int hlt3
              rw [← hb2.cell (by simp; omega)] at hc2
              have Hst := veil hst; clear hst
              obtain ⟨q, hq, hlk, w3, hup, HM3, hgr⟩ := HM.count (by have := HF.out k; simp only [List.length_append, List.length_take]; omega) (Hin.out s (List.mem_of_getElem? Hst.out))
              have hq2 : q ≤ 1099511627776 := by have := HF.out k; simp only [List.length_append, List.length_take] at hq; omega
              have hb4 : Below W0.heap.size W0 w3 := hb2.grown hgr hb2.size (fun j hj => by injection hj with hj; omega)
              have HM4 : MapN w3 W0.heap.size (flatB (l.take k) ++ sa.take (t + 1)).length (cntF (flatB (l.take k) ++ sa.take (t + 1))) := by
                rw [take_snoc Hst.out, ← List.append_assoc]; exact HM3
              clear HM HM3 hgr hb2 hq
              go_wp2_with fail
              go_roundg (sa.length - (t + 1))
              case rel => exact ⟨t + 1, rfl, by omega, by go_num, HM4, hb4⟩
              case measure => omega
            · have hltz3 : ¬ (t : Int) < (sa.length : Int) := by omega
              have HM4 : MapN wr W0.heap.size (flatB (l.take (k + 1))).length (cntF (flatB (l.take (k + 1)))) := by
                rw [show sa.take t = sa from List.take_of_length_le (by omega)] at HM
                rw [flat_snoc Hbk.out]; exact HM
              clear HM
              go_wp2_with fail
              go_roundg (m - (k + 1))
              case rel => exact ⟨k + 1, rfl, by omega, by go_num, HM4, hb2⟩
              case measure => omega
        · have hltz2 : ¬ (k : Int) < (m : Int) := by omega
          obtain rfl : k = m := by omega
          go_wp2
          go_ret
          refine ⟨l, (flatB (l.take k)).length, W0.heap.size, rfl, Hch.out, Hbel.out.size, ?_, Hbel.out.trans (hb2.mono Hbel.out.size)⟩
          have := Hm.out
          rw [this]
          exact HM
end Go.Proofs.Ytddkhkpdbjjboaa
