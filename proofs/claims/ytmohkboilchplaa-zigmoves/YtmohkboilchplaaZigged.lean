/- The laws' zigged: the order begins as the document says. -/
import Derived.Test.YtmohkboilchplaaZigOrder
import Derived.Test.YtmohkboilchplaaCutInt
import Derived.Test.YtmohkboilchplaaEqInt
namespace Go.Proofs.Ytmohkboilchplaa
open Go.RowKit
set_option linter.unusedVariables false
set_option linter.unusedSimpArgs false

theorem zz_form {w : World} {B g c : Nat} {rs : List Row} (h : Owns B (intRow 3 .i64 (.slice (some ⟨g, 0, none⟩) 64 c) zz :: rs) w) : Seen w w.heap.size (some ⟨g, 0, none⟩) (ints .i64 zz) ∧ 64 ≤ c ∧ c ≤ maxLen := by
  obtain ⟨A, c', e, hs, h1, h2⟩ := h.seen (List.mem_cons_self ..)
  simp only [intRow, Value.slice.injEq] at e hs h1
  obtain ⟨e1, e2, e3⟩ := e
  rw [e1, e3]
  exact ⟨hs, by rw [e2]; exact h1, h2⟩
set_option maxHeartbeats 1000000 in
theorem zigged_any (w : World) :
    Calls Try.prog 16 #[] w fun e w' => e = .returned (.bool true) ∧ Below w.heap.size w w' := by
  have HA := veil order_any
  have HE := veil (fun g g' c d G w1 h1 h2 => eqInt (some ⟨g, 0, none⟩) (some ⟨g', 0, none⟩) c d G [0, 1, 8, 16, 9, 2] [0, 1, 8, 16, 9, 2] w1 h1 h2 (by simp [maxLen]) (by simp [maxLen]))
  rw [decide_eq_true rfl] at HE
  go_enter Try.func16, Try.ntmps16
  go_wp2_with fail
  refine (HA.out _).mono ?_
  rintro e w1 ⟨g, c, rfl, HO, hb⟩
  obtain ⟨h1, h64, hmx⟩ := zz_form HO
  have h6 : Seen w1 w1.heap.size (some ⟨g, 0, none⟩) (ints .i64 [0, 1, 8, 16, 9, 2]) := h1.takeInts 6
  have hcut : ∀ u : World, (Instr.sliceAt 23 (.slice (some ⟨g, 0, none⟩) 64 c) none (some (.int .i64 6)) none).run Try.prog u = .ok (.slice (some ⟨g, 0, none⟩) 6 c) u := run_cutI_to (some ⟨g, 0, none⟩) 64 c 6 (by omega)
  have hn := Seen.new w1 (ints .i64 [0, 1, 8, 16, 9, 2]) 3 (w1.heap.size + 1) (Nat.lt_succ_self _)
  have h7 := (h6.alloc (Nat.le_refl _) (.cells (ints .i64 [0, 1, 8, 16, 9, 2]).toArray 3)).up (Nat.le_succ _)
  have H6 := veil h7; have HN := veil hn
  clear h6 h1 HA h7 hn HO
  go_wp2_with fail
  refine (HE.out _ _ _ _ _ _ H6.out HN.out).mono ?_
  rintro e w3 ⟨rfl, rfl⟩
  go_wp2
  go_ret
  exact ⟨rfl, hb.alloc hb.size _⟩
end Go.Proofs.Ytmohkboilchplaa
