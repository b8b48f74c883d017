/- The law on complete diagonals, walked. -/
import Derived.Test.YtmohkboilchplaaZigged
import Derived.Test.YtmohkboilchplaaRest
namespace Go.Proofs.Ytmohkboilchplaa
open Go.RowKit
set_option linter.unusedVariables false
set_option linter.unusedSimpArgs false

theorem zz_tri : ∀ k : Fin 64, ∀ s : Fin 8, ∃ n : Fin 64, zz[k.1]? = some ((n.1 : Nat) : Int) ∧ (n.1 / 8 + n.1 % 8 ≤ s.1 ↔ k.1 < (s.1 + 1) * (s.1 + 2) / 2) := by decide +kernel
theorem zz_tri' (k s : Nat) (hk : k < 64) (hs : s < 8) : ∃ n : Nat, zz[k]? = some (n : Int) ∧ n < 64 ∧ (n / 8 + n % 8 ≤ s ↔ k < (s + 1) * (s + 2) / 2) := by
  obtain ⟨n, h1, h2⟩ := zz_tri ⟨k, hk⟩ ⟨s, hs⟩
  exact ⟨n.1, h1, n.2, h2⟩
set_option maxHeartbeats 4000000 in
set_option maxRecDepth 100000 in
theorem zigTriangle_walk (a : Int) (w : World) (ha : -9223372036854775808 ≤ a ∧ a ≤ 9223372036854775807) :
    Calls Try.prog 8 #[.int .i64 a] w fun e w' => e = .returned (.bool true) ∧ Below w.heap.size w w' := by
  have HZ := veil zigged_any
  have HA := veil order_any
  obtain ⟨s, hs⟩ : ∃ s : Nat, a % 8 = (s : Int) := ⟨(a % 8).toNat, by omega⟩
  have hs8 : s < 8 := by omega
  have HR := veil (fun w1 => rest_any a 8 w1 (by omega) (by omega) ha)
  rw [hs] at HR
  go_enter Try.func8, Try.ntmps8
  go_wp2_with fail
  refine (HZ.out _).mono ?_
  rintro e w1 ⟨rfl, hb1⟩
  go_wp2_with fail
  refine (HR.out _).mono ?_
  rintro e w1' ⟨rfl, rfl⟩
  go_wp2_with fail
  refine (HA.out _).mono ?_
  rintro e w2 ⟨g, c, rfl, HO, hb2⟩
  have hb := veil (hb1.trans (hb2.mono hb1.size))
  obtain ⟨h1, _, _⟩ := zz_form HO
  clear HZ HA HR HO hs hb1 hb2
  have hm : wrap64 (((s : Int) + 1) * ((s : Int) + 2)) = ((s : Int) + 1) * ((s : Int) + 2) := by
    have h := Nat.mul_le_mul (show s + 1 ≤ 8 by omega) (show s + 2 ≤ 9 by omega)
    have e : ((s : Int) + 1) * ((s : Int) + 2) = (((s + 1) * (s + 2) : Nat) : Int) := by simp
    rw [e]
    unfold wrap64
    omega
  obtain ⟨T, hT⟩ : ∃ T, (s + 1) * (s + 2) / 2 = T := ⟨_, rfl⟩
  have hq : wrap64 ((((s : Int) + 1) * ((s : Int) + 2)).tdiv 2) = (T : Int) := by
    have h := Nat.mul_le_mul (show s + 1 ≤ 8 by omega) (show s + 2 ≤ 9 by omega)
    have e : ((s : Int) + 1) * ((s : Int) + 2) = (((s + 1) * (s + 2) : Nat) : Int) := by simp
    rw [e, Int.tdiv_eq_ediv_of_nonneg (by omega)]
    unfold wrap64
    omega
  have HT := veil hT
  clear hT
  go_wp2_with fail
  go_loopg [11] 64 (fun gk i wr => ∃ k : Nat, gk = 64 - k ∧ k ≤ 64 ∧ i = .int .i64 (k : Int) ∧ wr = w2)
  case atStart => exact ⟨0, rfl, by omega, rfl, rfl⟩
  case round =>
    obtain ⟨k, rfl, hk, rfl, rfl⟩ := hrel
    by_cases hlt : k < 64
    · have hltz : (k : Int) < 64 := by omega
      obtain ⟨n, hn, hn64, hiff⟩ := zz_tri' k s hlt hs8
      obtain ⟨g', o, x, e0, _, hx, hcx⟩ := h1.int (k := k) (by rw [zz_length]; exact hlt)
      injection e0 with e0
      injection e0 with e1 e2
      subst e1 e2
      rw [hn] at hx
      injection hx with hx
      subst hx
      rw [Nat.zero_add] at hcx
      rw [HT.out] at hiff
      have hbe : (!decide ((n : Int) / 8 + (n : Int) % 8 ≤ (s : Int)) == decide (k < T)) = false := by
        by_cases hq : k < T
        · have h5 := hiff.2 hq
          rw [decide_eq_true (by omega), decide_eq_true (by omega)]; rfl
        · have h5 := mt hiff.1 hq
          rw [decide_eq_false (by omega), decide_eq_false (by omega)]; rfl
      clear hn hiff
      go_wp2_with fail
      go_roundg (64 - (k + 1))
      case rel => exact ⟨k + 1, rfl, by omega, by go_num, rfl⟩
      case measure => omega
    · go_wp2
      go_ret
      exact ⟨rfl, hb.out⟩
end Go.Proofs.Ytmohkboilchplaa
