/- What the laws on tokens ask first: a closed fact. -/
import Derived.Test.YtemckjkdlbipcaaRunProg
import Derived.Test.YtemckjkdlbipcaaEqTok
import Derived.Test.YtemckjkdlbipcaaTokForm
namespace Go.Proofs.Ytemckjkdlbipcaa
open Go.RowKit
set_option linter.unusedVariables false
set_option linter.unusedSimpArgs false
set_option maxRecDepth 100000

/-- Two zero tokens just laid. -/
theorem two_seen (w : World) : Seen (w.alloc (.cells #[.int .i64 0, .int .i64 0, .int .i64 0, .int .i64 0, .int .i64 0, .int .i64 0] 30)) (w.heap.size + 1) (some ⟨w.heap.size, 0, none⟩) (tokCells [(0, 0, 0), (0, 0, 0)]) :=
  Seen.new w (tokCells [(0, 0, 0), (0, 0, 0)]) 30 _ (Nat.lt_succ_self _)
set_option maxHeartbeats 1000000 in
theorem ranned_any (w : World) :
    Calls Try.prog 16 #[] w fun e w' => e = .returned (.bool true) ∧ Below w.heap.size w w' := by
  have H1 := veil (fun W => tokens_any 0 zero64 W zero64_length)
  rw [show zero64 = 0 :: List.replicate 63 0 from rfl, one_oT (by omega), one_eT (by omega) (by omega)] at H1
  go_enter Try.func16, Try.ntmps16
  go_wp2_with fail
  refine (H1.out _).mono ?_
  rintro e w1 ⟨v, rfl, HO, hb1⟩
  obtain ⟨A, c, rfl, hs, _, _⟩ := tok_form HO
  have hb2 := below1 w1 (.cells #[.int .i64 0, .int .i64 0, .int .i64 0, .int .i64 0, .int .i64 0, .int .i64 0] 30)
  have HE := veil (eqTok A (some ⟨w1.heap.size, 0, none⟩) c 2 (w1.heap.size + 1) [(0, 0, 0), (0, 0, 0)] [(0, 0, 0), (0, 0, 0)] _ ((hs.alloc (Nat.le_refl _) _).up (Nat.le_succ _)) (two_seen w1) (by simp) (by simp) (by simp))
  rw [decide_eq_true rfl] at HE
  have hbw := hb1.trans (hb2.mono hb1.size)
  clear hs HO H1
  go_wp2_with fail
  refine HE.out.mono ?_
  rintro e w3 ⟨rfl, hb3⟩
  have hf := hbw.trans (hb3.mono hbw.size)
  go_wp2
  go_ret
  exact ⟨rfl, hf⟩
end Go.Proofs.Ytemckjkdlbipcaa
