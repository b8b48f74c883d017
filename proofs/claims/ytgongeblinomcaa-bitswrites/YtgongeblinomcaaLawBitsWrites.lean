/- BitsWrites: its walk. -/
import Derived.Test.YtgongeblinomcaaWritten
import Derived.Test.YtgongeblinomcaaRefWrite
namespace Go.Proofs.Ytgongeblinomcaa
open Go.RowKit
set_option linter.unusedVariables false
set_option linter.unusedSimpArgs false

theorem out_len' {l : List (Int × Int)} {out : List Int} (h : Written l out) : out.length ≤ maxLen := by
  by_cases h0 : writeErr l = 0
  · exact out_len h h0
  · rw [h.1 h0]; exact Nat.zero_le _

set_option maxHeartbeats 1000000 in
theorem bitsWrites_walk (A : Option Addr) (c : Nat) (l : List (Int × Int)) (w : World) (hl : Seen w w.heap.size A (pairCells l)) (hwf : ∀ f ∈ l, (Lit.int .i64 f.1).wf = true ∧ (Lit.int .i64 f.2).wf = true) (hlen : l.length ≤ maxLen) :
    Calls Try.prog 4 #[.slice A l.length c] w fun e w' => e = .returned (.bool true) ∧ Below w.heap.size w w' := by
  clear hwf
  go_enter Try.func4, Try.ntmps4
  go_wp2_with fail
  refine (write_any A c _ l _ hl (Nat.le_refl _) hlen).mono ?_
  rintro e w1 ⟨v, out, rfl, hown, hW, hb1⟩
  obtain ⟨A2, c2, rfl, hs⟩ := own_form hown
  go_wp2_with fail
  refine (refWrite_any A c _ l _ (hl.below hb1 (Nat.le_refl _)) hb1.size hlen).mono ?_
  rintro e w2 ⟨v2, out2, rfl, hown2, hW2, hb2⟩
  obtain rfl := hW.same hW2
  obtain ⟨A3, c3, rfl, hs3⟩ := own_form hown2
  have hla := out_len' hW
  have hbw := hb1.trans (hb2.mono hb1.size)
  have hs2 := hs.below hb2 (Nat.le_refl _)
  have hz2 := hb2.size
  clear hown hown2 hW hW2 hs hl
  generalize writeErr l = E at *
  go_wp2_with fail
  have s1 : Seen (w2.alloc (Obj.cells #[.int .i64 (-1), .int .i64 0] 32)) (w2.heap.size + 1) (some ⟨w2.heap.size, 0, none⟩) (pairCells [(-1, 0)]) := Seen.new w2 (pairCells [(-1, 0)]) _ _ (by omega)
  refine (write_any _ 1 _ [(-1, 0)] _ s1 (by simp) (by decide)).mono ?_
  rintro e w4 ⟨v4, out4, rfl, hown4, hW4, hb4⟩
  obtain ⟨A4, c4, rfl, hs4⟩ := own_form hown4
  have he : writeErr [(-1, 0)] = 1 := by decide
  rw [he]
  have hb24 : Below w2.heap.size w2 w4 := (below1 _ _).trans (hb4.mono (by simp))
  have hq1 := ((hs2.below hb24 hz2).up hz2)
  have hq2 := hs3.below hb24 (Nat.le_refl _)
  have hee : (E == E) = true := by simp
  clear he
  go_wp2_with (go_at_call 14; refine (eqByte A2 A3 c2 c3 w2.heap.size out out _ hq1 hq2 hla hla).mono ?_; rintro e w5 ⟨rfl, rfl⟩)
  go_ret
  exact ⟨ret_bool (by simp), hbw.trans (hb24.mono hbw.size)⟩
end Go.Proofs.Ytgongeblinomcaa
