/- The law on a block that is zero but for number 0, walked. -/
import Derived.Test.YtemckjkdlbipcaaRunKeep
import Derived.Test.YtemckjkdlbipcaaRest
namespace Go.Proofs.Ytemckjkdlbipcaa
open Go.RowKit
set_option linter.unusedVariables false
set_option linter.unusedSimpArgs false
set_option maxRecDepth 100000

set_option maxHeartbeats 2000000 in
set_option maxRecDepth 100000 in
theorem runZero_walk (n : Int) (w : World) (hn : -9223372036854775808 ≤ n ∧ n ≤ 9223372036854775807) :
    Calls Try.prog 9 #[.int .i64 n] w fun e w' => e = .returned (.bool true) ∧ Below w.heap.size w w' := by
  have H0 := veil (ranned_any w)
  have HR1 := veil (fun W => rest_any n 4095 W (by omega) (by omega) hn)
  have hA1 := Int.emod_nonneg n (show (4095 : Int) ≠ 0 by omega)
  have hA2 := Int.emod_lt_of_pos n (show (0 : Int) < 4095 by omega)
  generalize n % 4095 = a at *
  have H1 := veil (fun W => tokens_any (a - 2047) ((a - 2047) :: List.replicate 63 0) W (by simp))
  rw [one_oT (by omega), one_eT (by omega) (by omega)] at H1
  go_enter Try.func9, Try.ntmps9
  go_wp2_with fail
  refine H0.out.mono ?_
  rintro e w0 ⟨rfl, hb0⟩
  go_wp2_with fail
  refine (HR1.out _).mono ?_
  rintro e w1 ⟨rfl, rfl⟩
  go_wp2_with fail
  refine (H1.out _).mono ?_
  rintro e w1 ⟨v, rfl, HO, hb1⟩
  obtain ⟨A, c, rfl, hs, _, _⟩ := tok_form HO
  have hb2 := below1 w1 (.cells #[.int .i64 0, .int .i64 0, .int .i64 0, .int .i64 0, .int .i64 0, .int .i64 0] 30)
  have HE := veil (eqTok A (some ⟨w1.heap.size, 0, none⟩) c 2 (w1.heap.size + 1) [(0, 0, 0), (0, 0, 0)] [(0, 0, 0), (0, 0, 0)] _ ((hs.alloc (Nat.le_refl _) _).up (Nat.le_succ _)) (two_seen w1) (by simp) (by simp) (by simp))
  rw [decide_eq_true rfl] at HE
  have hbw1 := hb0.trans (hb1.mono hb0.size)
  have hbw := hbw1.trans (hb2.mono hbw1.size)
  clear hs HO H1
  go_wp2_with fail
  refine HE.out.mono ?_
  rintro e w3 ⟨rfl, hb3⟩
  have hf := hbw.trans (hb3.mono hbw.size)
  go_wp2
  go_ret
  exact ⟨rfl, hf⟩
end Go.Proofs.Ytemckjkdlbipcaa
