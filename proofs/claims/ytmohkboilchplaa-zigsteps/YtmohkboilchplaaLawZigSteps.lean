/- The law on the order's steps, walked. -/
import Derived.Test.YtmohkboilchplaaZigged
import Derived.Test.YtmohkboilchplaaRest
import Derived.Test.YtmohkboilchplaaSetB
import Derived.BigQuiet
namespace Go.Proofs.Ytmohkboilchplaa
open Go.RowKit
set_option linter.unusedVariables false
set_option linter.unusedSimpArgs false

theorem zz_step : ∀ k : Fin 64, ∃ n : Fin 64, zz[k.1]? = some ((n.1 : Nat) : Int) ∧ zz[63 - k.1]? = some (63 - ((n.1 : Nat) : Int)) ∧ ((n.1 : Nat) : Int) ∉ zz.take k.1 ∧
    (0 < k.1 → ∃ p : Fin 64, zz[k.1 - 1]? = some ((p.1 : Nat) : Int) ∧ n.1 / 8 ≤ p.1 / 8 + 1 ∧ p.1 / 8 ≤ n.1 / 8 + 1 ∧ n.1 % 8 ≤ p.1 % 8 + 1 ∧ p.1 % 8 ≤ n.1 % 8 + 1) := by decide +kernel
theorem zz_rise : ∀ i : Fin 63, ∃ n : Fin 64, ∃ m : Fin 64, zz[i.1]? = some ((n.1 : Nat) : Int) ∧ zz[i.1 + 1]? = some ((m.1 : Nat) : Int) ∧ n.1 / 8 + n.1 % 8 ≤ m.1 / 8 + m.1 % 8 := by decide +kernel
/-- A cell of the order. -/
theorem zz_cell {w : World} {B g : Nat} (h : Seen w B (some ⟨g, 0, none⟩) (ints .i64 zz)) {k : Nat} {x : Int} (hk : zz[k]? = some x) : w.cell? ⟨g, k, none⟩ = some (.int .i64 x) := by
  obtain ⟨g', o, e0, _, hc⟩ := h.cell (ints_at hk)
  injection e0 with e0
  injection e0 with e1 e2
  subst e1 e2
  rwa [Nat.zero_add] at hc
set_option maxHeartbeats 4000000 in
set_option maxRecDepth 100000 in
theorem zigSteps_walk (a : Int) (w : World) (ha : -9223372036854775808 ≤ a ∧ a ≤ 9223372036854775807) :
    Calls Try.prog 6 #[.int .i64 a] w fun e w' => e = .returned (.bool true) ∧ Below w.heap.size w w' := by
  have HZ := veil zigged_any
  have HA := veil order_any
  obtain ⟨s, hs⟩ : ∃ s : Nat, a % 63 = (s : Int) := ⟨(a % 63).toNat, by omega⟩
  have hs8 : s < 63 := by omega
  have HR := veil (fun w1 => rest_any a 63 w1 (by omega) (by omega) ha)
  rw [hs] at HR
  go_enter Try.func6, Try.ntmps6
  go_wp2_with fail
  refine (HZ.out _).mono ?_
  rintro e w1 ⟨rfl, hb1⟩
  go_wp2_with fail
  refine (HA.out _).mono ?_
  rintro e w2 ⟨g, c, rfl, HO, hb2⟩
  have hb := veil (hb1.trans (hb2.mono hb1.size))
  obtain ⟨h1, _, _⟩ := zz_form HO
  have HS := veil h1
  have hg : g < w2.heap.size := by obtain ⟨_, _, e, h, _⟩ := h1.at (by simp [ints_length, zz_length]); injection e with e; injection e with e; omega
  have hmk := make_setB
  have HM := veil (SetB.made w2)
  clear HZ HA HO hs hb1 hb2 h1
  go_wp2_with fail
  clear hmk
  go_loopg [15] 64 (fun gk i wr => ∃ k : Nat, gk = 64 - k ∧ k ≤ 64 ∧ i = .int .i64 (k : Int) ∧ Hid (SetB wr w2.heap.size k (zz.take k)) ∧ Hid (Below w2.heap.size w2 wr))
  case atStart => exact ⟨0, rfl, by omega, rfl, HM, veil (below1 _ _)⟩
  case round =>
    clear HM
    obtain ⟨k, rfl, hk, rfl, HM, HB⟩ := hrel
    by_cases hlt : k < 64
    · have hltz : (k : Int) < 64 := by omega
      obtain ⟨⟨n, hn64⟩, hn, hn2, hnot, hprev⟩ := zz_step ⟨k, hlt⟩
      simp only at hn hn2 hnot hprev
      have hwf : (Lit.int .i64 (n : Int)).wf = true := WalkArith.wf_i64 (by omega)
      have hlk := HM.out.look hwf
      rw [decide_eq_false hnot] at hlk
      have hcx := zz_cell (HS.out.below HB.out (Nat.le_refl _)) hn
      have hcy := zz_cell (HS.out.below HB.out (Nat.le_refl _)) hn2
      obtain ⟨w5, hup, HM5, hg5⟩ := HM.out.store (by unfold maxLen; omega) hwf
      have HM6 : Hid (SetB w5 w2.heap.size (k + 1) (zz.take (k + 1))) := by rw [take_snoc hn]; exact HM5
      have HB5 : Hid (Below w2.heap.size w2 w5) := HB.out.grown hg5 HB.out.size (fun j hj => by injection hj with hj; omega)
      have f0 : ¬ ((n : Int) < 0) := by omega
      have f1 : ¬ ((n : Int) > 63) := by omega
      have f2 : (0 : Int) ≤ 63 - (k : Int) := by omega
      have f3 : (63 : Int) - (k : Int) < 64 := by omega
      have f4 : ((63 : Int) - (k : Int)).toNat = 63 - k := by omega
      clear HM5 HM HB hnot hn2 hg5
      by_cases hk0 : 0 < k
      · obtain ⟨⟨p, hp64⟩, hp, q1, q2, q3, q4⟩ := hprev hk0
        simp only at hp q1 q2 q3 q4
        have hcp := zz_cell (HS.out.below HB5.out (Nat.le_refl _)) hp
        have hcx5 := zz_cell (HS.out.below HB5.out (Nat.le_refl _)) hn
        have f5 : (0 : Int) ≤ (k : Int) - 1 := by omega
        have f6 : (k : Int) - 1 < 64 := by omega
        have f7 : ((k : Int) - 1).toNat = k - 1 := by omega
        have e1 : (n : Int) / 8 - (p : Int) / 8 ≤ 1 := by omega
        have e2 : -((n : Int) / 8 - (p : Int) / 8) ≤ 1 := by omega
        have e3 : (n : Int) % 8 - (p : Int) % 8 ≤ 1 := by omega
        have e4 : -((n : Int) % 8 - (p : Int) % 8) ≤ 1 := by omega
        clear hprev hp hn q1 q2 q3 q4
        go_wp2_with fail
        go_quiet (fail)
        go_wp2_with fail
        all_goals first
          | (go_roundg (64 - (k + 1))
             case rel => exact ⟨k + 1, rfl, by omega, by go_num, veil (HM6.out.of rfl), veil (HB5.out.drewN _)⟩
             case measure => omega)
          | (exfalso; omega)
      · obtain rfl : k = 0 := by omega
        clear hprev hn
        go_wp2_with fail
        go_roundg 63
        case rel => exact ⟨1, rfl, by omega, by go_num, HM6, HB5⟩
        case measure => omega
    · obtain rfl : k = 64 := by omega
      obtain ⟨⟨n, hn64⟩, ⟨m, hm64⟩, hn, hm, hle⟩ := zz_rise ⟨s, hs8⟩
      simp only at hn hm hle
      have hcn := zz_cell (HS.out.below HB.out (Nat.le_refl _)) hn
      have hcm := zz_cell (HS.out.below HB.out (Nat.le_refl _)) hm
      have hbw := veil (hb.out.trans (HB.out.mono hb.out.size))
      have e1 : (n : Int) / 8 + (n : Int) % 8 ≤ (m : Int) / 8 + (m : Int) % 8 := by omega
      have f1 : (s : Int) < 64 := by omega
      have f2 : (s : Int) + 1 < 64 := by omega
      have f3 : ((s : Int) + 1).toNat = s + 1 := by omega
      clear HM HB hn hm hb HS
      go_wp2_with fail
      refine (HR.out _).mono ?_
      rintro e w6 ⟨rfl, rfl⟩
      go_wp2_with fail
      go_quiet (fail)
      go_wp2
      go_ret
      exact ⟨rfl, hbw.out.drewN _⟩
end Go.Proofs.Ytmohkboilchplaa
