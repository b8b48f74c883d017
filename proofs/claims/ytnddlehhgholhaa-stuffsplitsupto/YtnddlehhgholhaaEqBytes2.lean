/- The reference's comparison of lists of byte slices. -/
import Derived.Test.YtnddlehhgholhaaOwn
import Derived.Test.YtnddlehhgholhaaEqByte
namespace Go.Proofs.Ytnddlehhgholhaa
open Go.RowKit
set_option linter.unusedVariables false
set_option linter.unusedSimpArgs false

theorem drop_more {α : Type} {xs : List α} {k : Nat} {x : α} (h : xs[k]? = some x) : xs.drop k = x :: xs.drop (k + 1) := by
  obtain ⟨hk, rfl⟩ := List.getElem?_eq_some_iff.1 h
  exact List.drop_eq_getElem_cons hk
set_option maxHeartbeats 1000000 in
theorem eqLists (A B : Option Addr) (c d G : Nat) (vs ws : List Value) (ps qs : List (List Int)) (w : World) (hx : Seen w G A vs) (hy : Seen w G B ws) (hp : SeenRows w G .u8 vs ps) (hq : SeenRows w G .u8 ws qs) (hlx : vs.length ≤ maxLen) (hly : ws.length ≤ maxLen) :
    Calls Try.prog 17 #[.slice A vs.length c, .slice B ws.length d] w fun e w' => e = .returned (.bool (decide (ps = qs))) ∧ (∀ C, Below C w w') := by
  unfold maxLen at hlx hly
  have hlp := hp.1
  have hlq := hq.1
  by_cases hl : vs.length = ws.length
  · have hne : ((vs.length : Int) != (ws.length : Int)) = false := by simp [hl]
    have Hl := veil hl; have Hlp := veil hlp; have Hlq := veil hlq
    clear hl hlp hlq
    go_enter Try.func17, Try.ntmps17
    go_wp2
    go_loopg [5, 13] vs.length (fun gk _ i wr => ∃ k : Nat, gk = vs.length - k ∧ k ≤ vs.length ∧ i = .int .i64 k ∧ Hid (ps.take k = qs.take k) ∧ (∀ C, Below C w wr))
    case atStart => exact ⟨0, rfl, Nat.zero_le _, rfl, veil rfl, fun C => Below.refl _ _⟩
    case round =>
      obtain ⟨k, rfl, hk, rfl, He, hbel⟩ := hrel
      by_cases hlt : k < vs.length
      · have hky : (k : Int) < (ws.length : Int) := by have := Hl.out; omega
        obtain ⟨A1, c1, p, hv1, hp1, hs1, hl1⟩ := hp.at (j := k) (by have := Hlp.out; omega)
        obtain ⟨A2, c2, q, hv2, hq2, hs2, hl2⟩ := hq.at (j := k) (by have := Hlq.out; omega)
        obtain ⟨g, o, rfl, hg, h1⟩ := hx.cell hv1
        obtain ⟨g', o', rfl, hg', h2⟩ := hy.cell hv2
        rw [← (hbel G).cell (by simpa using hg)] at h1
        rw [← (hbel G).cell (by simpa using hg')] at h2
        have E : Hid (∀ n, Calls Try.prog 12 #[.slice A1 p.length c1, .slice A2 q.length c2] (wr.drewN n) fun e w' => e = .returned (.bool (decide (p = q))) ∧ w' = wr.drewN n) :=
          fun n => (eqByte A1 A2 c1 c2 G p q _ (hs1.below ((hbel G).drewN n) (Nat.le_refl _)) (hs2.below ((hbel G).drewN n) (Nat.le_refl _)) hl1 hl2).mono fun e w' h => ⟨h.1, h.2.symm⟩
        have Hp := veil hp1; have Hq := veil hq2
        clear hv1 hv2 hp1 hq2 hs1 hs2 hl1 hl2
        by_cases hpq : p = q
        · subst hpq
          rw [decide_eq_true rfl] at E
          go_wp2_with fail
          go_quiet (first | (go_at_call 12; with_reducible exact Calls.quiet_of_same (E.out _)) | fail)
          go_wp2
          go_roundg (vs.length - (k + 1))
          case rel => exact ⟨k + 1, rfl, by omega, by go_num, veil (by rw [take_snoc Hp.out, take_snoc Hq.out, He.out]), fun C => (hbel C).drewN _⟩
          case measure => omega
        · rw [decide_eq_false hpq] at E
          go_wp2_with fail
          go_quiet (first | (go_at_call 12; with_reducible exact Calls.quiet_of_same (E.out _)) | fail)
          go_wp2
          go_ret
          refine ⟨ret_bool ?_, fun C => (hbel C).drewN _⟩
          symm
          simp only [decide_eq_false_iff_not]
          intro e
          have h3 := Hp.out
          rw [e, Hq.out] at h3
          exact hpq (by injection h3 with h3; exact h3.symm)
      · go_wp2
        go_ret
        refine ⟨ret_bool ?_, hbel⟩
        symm
        have h3 := He.out
        rw [List.take_of_length_le (by have := Hlp.out; omega), List.take_of_length_le (by have := Hl.out; have := Hlq.out; omega)] at h3
        simpa using h3
  · have hne : ((vs.length : Int) != (ws.length : Int)) = true := by simp; omega
    have hd : decide (ps = qs) = false := by simp; intro e; exact hl (by rw [hlp, hlq, e])
    have Hd := veil hd
    clear hd hl hlp hlq
    go_enter Try.func17, Try.ntmps17
    go_wp2
    go_ret
    exact ⟨ret_bool Hd.out.symm, fun C => Below.refl _ _⟩
end Go.Proofs.Ytnddlehhgholhaa
