/- The closed fact on Write that the laws ask first. -/
import Derived.Test.YtgongeblinomcaaBitsWrite
import Derived.Test.YtgongeblinomcaaEqByte
namespace Go.Proofs.Ytgongeblinomcaa
open Go.RowKit
set_option linter.unusedVariables false
set_option linter.unusedSimpArgs false

theorem writeErr_zero' {l : List (Int × Int)} (h : writeErr l = 0) : l.length ≤ 20000 ∧ ∀ f ∈ l, okF f := by
  unfold writeErr at h
  by_cases h1 : 20000 < l.length
  · rw [if_pos h1] at h; cases h
  · rw [if_neg h1] at h
    by_cases h2 : ∀ f ∈ l, okF f
    · exact ⟨by omega, h2⟩
    · rw [if_neg h2] at h; cases h
theorem Written.alike {l m : List (Int × Int)} {a b : List Int} (ha : Written l a) (hb : Written m b) (hl : writeErr l = 0) (hm : writeErr m = 0) (h : fieldBits l = fieldBits m) : a = b := by
  refine ha.same ⟨fun e => absurd hl e, fun _ => ?_⟩
  rw [h]
  exact hb.2 hm
theorem okF_nat (X Y : Nat) : okF ((X : Int), (Y : Int)) ↔ X ≤ 24 ∧ Y < 2 ^ X := by
  unfold okF
  simp only [Int.toNat_natCast]
  constructor
  · rintro ⟨⟨_, h1⟩, _, h2⟩
    refine ⟨by omega, ?_⟩
    have : (Y : Int) < ((2 ^ X : Nat) : Int) := by simpa using h2
    omega
  · rintro ⟨h1, h2⟩
    refine ⟨⟨by omega, by omega⟩, by omega, ?_⟩
    have : (Y : Int) < ((2 ^ X : Nat) : Int) := by omega
    simpa using this
theorem out_len {l : List (Int × Int)} {out : List Int} (h : Written l out) (h0 : writeErr l = 0) : out.length ≤ maxLen := by
  obtain ⟨hl, hok⟩ := writeErr_zero' h0
  obtain ⟨_, p, hp, heq⟩ := h.2 h0
  have h1 := congrArg List.length heq
  have h2 := fieldBits_le l hok
  simp [unpack_length] at h1
  unfold maxLen; omega
theorem elem_field : ElemOf Try.prog 27 32 2 16 :=
  .mk' (z := .agg #[.int .i64 0, .int .i64 0]) Try.underlying27 (by kernel_rfl) rfl (by omega)

theorem written_one (out : List Int) (h : Written [(3, 2)] out) : out = [95] := by
  have he : writeErr [(3, 2)] = 0 := by decide
  refine h.same ⟨fun e => absurd he e, fun _ => ⟨by intro x hx; simp at hx; omega, 5, by omega, by decide⟩⟩

set_option maxHeartbeats 400000 in
theorem written_any (w : World) : Calls Try.prog 17 #[] w fun e w' => e = .returned (.bool true) ∧ Below w.heap.size w w' := by
  go_enter Try.func17, Try.ntmps17
  go_wp2_with fail
  have s1 : Seen (w.alloc (Obj.cells #[.int .i64 3, .int .i64 2] 32)) (w.heap.size + 1) (some ⟨w.heap.size, 0, none⟩) (pairCells [(3, 2)]) := Seen.new w (pairCells [(3, 2)]) _ _ (by omega)
  refine (write_any _ 1 _ [(3, 2)] _ s1 (by simp) (by decide)).mono ?_
  rintro e w1 ⟨v, out, rfl, hown, hW, hb⟩
  obtain rfl := written_one out hW
  obtain ⟨A, c, rfl, hs⟩ := own_form hown
  have he : writeErr [(3, 2)] = 0 := by decide
  rw [he]
  go_wp2_with fail
  refine (eqByte A _ c 1 (w1.heap.size + 1) [95] [95] _ ((hs.alloc (Nat.le_refl _) _).up (by omega)) (Seen.new w1 (ints .u8 [95]) _ _ (by omega)) (by decide) (by decide)).mono ?_
  rintro e w2 ⟨rfl, rfl⟩
  go_wp2
  go_ret
  exact ⟨rfl, ((below1 _ _).trans (hb.mono (by simp))).trans ((below1 _ _).mono (by have := hb.size; simp at this; omega))⟩
end Go.Proofs.Ytgongeblinomcaa
