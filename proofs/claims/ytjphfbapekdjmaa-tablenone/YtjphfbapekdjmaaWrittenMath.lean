/- What a written list of fields is, in numbers; the fields' element. -/
import Derived.Test.YtjphfbapekdjmaaBitsWrite
namespace Go.Proofs.Ytjphfbapekdjmaa
open Go.RowKit
set_option linter.unusedVariables false
set_option linter.unusedSimpArgs false
set_option maxRecDepth 100000

theorem writeErr_zero' {l : List (Int × Int)} (h : writeErr l = 0) : l.length ≤ 20000 ∧ ∀ f ∈ l, okF f := by
  unfold writeErr at h
  by_cases h1 : 20000 < l.length
  · rw [if_pos h1] at h; cases h
  · rw [if_neg h1] at h
    by_cases h2 : ∀ f ∈ l, okF f
    · exact ⟨by omega, h2⟩
    · rw [if_neg h2] at h; cases h
theorem Written.alike {l m : List (Int × Int)} {a b : List Int} (ha : Written l a) (hb : Written m b) (hl : writeErr l = 0) (hm : writeErr m = 0) (h : fieldBits l = fieldBits m) : a = b := by
  refine ha.same ⟨fun e => absurd hl e, fun _ => ?_⟩
  rw [h]
  exact hb.2 hm
theorem okF_nat (X Y : Nat) : okF ((X : Int), (Y : Int)) ↔ X ≤ 24 ∧ Y < 2 ^ X := by
  unfold okF
  simp only [Int.toNat_natCast]
  constructor
  · rintro ⟨⟨_, h1⟩, _, h2⟩
    refine ⟨by omega, ?_⟩
    have : (Y : Int) < ((2 ^ X : Nat) : Int) := by simpa using h2
    omega
  · rintro ⟨h1, h2⟩
    refine ⟨⟨by omega, by omega⟩, by omega, ?_⟩
    have : (Y : Int) < ((2 ^ X : Nat) : Int) := by omega
    simpa using this
theorem out_len {l : List (Int × Int)} {out : List Int} (h : Written l out) (h0 : writeErr l = 0) : out.length ≤ maxLen := by
  obtain ⟨hl, hok⟩ := writeErr_zero' h0
  obtain ⟨_, p, hp, heq⟩ := h.2 h0
  have h1 := congrArg List.length heq
  have h2 := fieldBits_le l hok
  simp [unpack_length] at h1
  unfold maxLen; omega
theorem elem_field : ElemOf Try.prog 46 48 2 16 :=
  .mk' (z := .agg #[.int .i64 0, .int .i64 0]) Try.underlying46 (by kernel_rfl) rfl (by omega)
end Go.Proofs.Ytjphfbapekdjmaa
