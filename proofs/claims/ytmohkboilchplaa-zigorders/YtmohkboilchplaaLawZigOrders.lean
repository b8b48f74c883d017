/- The law on zig.Order, walked: it returns the reference's order. -/
import Derived.Test.YtmohkboilchplaaRefOrder
import Derived.Test.YtmohkboilchplaaEqInt
namespace Go.Proofs.Ytmohkboilchplaa
open Go.RowKit
set_option linter.unusedVariables false
set_option linter.unusedSimpArgs false

theorem zz_seen {w : World} {B g c : Nat} {rs : List Row} (h : Owns B (intRow 3 .i64 (.slice (some ⟨g, 0, none⟩) 64 c) zz :: rs) w) : Seen w w.heap.size (some ⟨g, 0, none⟩) (ints .i64 zz) := by
  obtain ⟨A, c', e, hs, _, _⟩ := h.seen (List.mem_cons_self ..)
  simp only [intRow, Value.slice.injEq] at e hs
  rw [e.1]; exact hs
set_option maxHeartbeats 1000000 in
theorem zigOrders_walk (w : World) :
    Calls Try.prog 3 #[] w fun e w' => e = .returned (.bool true) ∧ Below w.heap.size w w' := by
  have HA := veil order_any
  have HR := veil refOrder_any
  have HE := veil (fun g g' c d G w1 h1 h2 => eqInt (some ⟨g, 0, none⟩) (some ⟨g', 0, none⟩) c d G zz zz w1 h1 h2 (by rw [zz_length]; unfold maxLen; omega) (by rw [zz_length]; unfold maxLen; omega))
  rw [decide_eq_true rfl] at HE
  rw [zz_length] at HE
  go_enter Try.func3, Try.ntmps3
  go_wp2_with fail
  refine (HA.out _).mono ?_
  rintro e w1 ⟨g, c, rfl, HO, hb⟩
  go_wp2_with fail
  refine (HR.out _).mono ?_
  rintro e w2 ⟨g', c', rfl, HO2, hb2⟩
  have h1 := (zz_seen HO).below hb2 (Nat.le_refl _)
  have h2 := zz_seen HO2
  go_wp2_with fail
  refine (HE.out _ _ _ _ _ _ (h1.up hb2.size) h2).mono ?_
  rintro e w3 ⟨rfl, rfl⟩
  go_wp2
  go_ret
  exact ⟨rfl, hb.trans (hb2.mono hb.size)⟩
end Go.Proofs.Ytmohkboilchplaa
