/- table.Decode: its contract. -/
import Derived.Test.YtjphfbapekdjmaaTabNext
import Derived.Test.YtjphfbapekdjmaaElemInt
import Derived.Test.YtjphfbapekdjmaaBitsRead
namespace Go.Proofs.Ytjphfbapekdjmaa
open Go.RowKit
set_option linter.unusedVariables false
set_option linter.unusedSimpArgs false
set_option maxRecDepth 100000

/-- n symbols off a row of bits: the error, the symbols ahead of it, the bits they take. -/
def dec (ws : List (Int × Nat × Nat)) : Nat → List Bool → Int × List Int × Nat
  | 0, _ => (0, [], 0)
  | n + 1, b => if (find1 ws b).isSome = true then let r := dec ws n (b.drop (nextL ws b)); (r.1, nextS ws b :: r.2.1, nextL ws b + r.2.2) else (nextE ws b, [], 0)
theorem dec_hit {ws : List (Int × Nat × Nat)} {b : List Bool} (h : nextE ws b = 0) (n : Nat) : dec ws (n + 1) b = ((dec ws n (b.drop (nextL ws b))).1, nextS ws b :: (dec ws n (b.drop (nextL ws b))).2.1, nextL ws b + (dec ws n (b.drop (nextL ws b))).2.2) := by
  unfold nextE at h
  split at h
  · rename_i h1
    rw [dec, if_pos h1]
  · split at h <;> cases h
theorem dec_miss {ws : List (Int × Nat × Nat)} {b : List Bool} (h : nextE ws b ≠ 0) (n : Nat) : dec ws (n + 1) b = (nextE ws b, [], 0) := by
  rw [dec, if_neg]
  intro h1
  apply h
  unfold nextE
  rw [if_pos h1]
/-- What has been read, and what is to come. -/
def DInv (ws : List (Int × Nat × Nat)) (n : Nat) (b : List Bool) (k at_ : Nat) (acc : List Int) : Prop :=
  (dec ws n b).1 = (dec ws (n - k) (b.drop at_)).1 ∧ (dec ws n b).2.1 = acc ++ (dec ws (n - k) (b.drop at_)).2.1 ∧ (dec ws n b).2.2 = at_ + (dec ws (n - k) (b.drop at_)).2.2
theorem DInv.start (ws : List (Int × Nat × Nat)) (n : Nat) (b : List Bool) : DInv ws n b 0 0 [] := by simp [DInv]
theorem DInv.stop {ws : List (Int × Nat × Nat)} {n : Nat} {b : List Bool} {k at_ : Nat} {acc : List Int} (h : DInv ws n b k at_ acc) (hk : k < n) (he : nextE ws (b.drop at_) ≠ 0) : (dec ws n b).1 = nextE ws (b.drop at_) := by
  rw [h.1, show n - k = (n - (k + 1)) + 1 by omega, dec_miss he]
theorem DInv.next {ws : List (Int × Nat × Nat)} {n : Nat} {b : List Bool} {k at_ : Nat} {acc : List Int} (h : DInv ws n b k at_ acc) (hk : k < n) (he : nextE ws (b.drop at_) = 0) :
    DInv ws n b (k + 1) (at_ + nextL ws (b.drop at_)) (acc ++ [nextS ws (b.drop at_)]) := by
  unfold DInv at h ⊢
  rw [show n - k = (n - (k + 1)) + 1 by omega, dec_hit he, List.drop_drop] at h
  refine ⟨h.1, by rw [h.2.1]; simp, by rw [h.2.2]; simp only []; omega⟩
theorem DInv.done {ws : List (Int × Nat × Nat)} {n : Nat} {b : List Bool} {at_ : Nat} {acc : List Int} (h : DInv ws n b n at_ acc) : dec ws n b = (0, acc, at_) := by
  unfold DInv at h
  simp only [Nat.sub_self, dec, List.append_nil, Nat.add_zero] at h
  exact Prod.ext h.1 (Prod.ext h.2.1 h.2.2)
theorem nextL_le {ws : List (Int × Nat × Nat)} {b : List Bool} : nextL ws b ≤ b.length := by
  unfold nextL
  cases h : find1 ws b with
  | none => simp
  | some p =>
    obtain ⟨s, n⟩ := p
    obtain ⟨t, _, _, e, h1⟩ := find1_mem h
    have := h1.length_le
    rw [bitsN_length] at this
    simp; omega
theorem nextS_wf {ws : List (Int × Nat × Nat)} {b : List Bool} (h : ∀ t ∈ ws, 0 ≤ t.1 ∧ t.1 ≤ 255) : 0 ≤ nextS ws b ∧ nextS ws b ≤ 255 := by
  unfold nextS
  cases hq : find1 ws b with
  | none => simp
  | some p =>
    obtain ⟨s, n⟩ := p
    obtain ⟨t, ht, e, _⟩ := find1_mem hq
    have := h t ht
    simp; omega

/-- What Decode says. -/
def decErr (cs syms bs : List Int) (n : Int) : Int := if checkErr cs syms = 0 then if 0 ≤ n ∧ n ≤ 20000 then (dec (outWords cs syms) n.toNat (unpack bs)).1 else 1 else checkErr cs syms
def decOut (cs syms bs : List Int) (n : Int) : List Int := if decErr cs syms bs n = 0 then (dec (outWords cs syms) n.toNat (unpack bs)).2.1 else []
def decLong (cs syms bs : List Int) (n : Int) : Nat := if decErr cs syms bs n = 0 then (dec (outWords cs syms) n.toNat (unpack bs)).2.2 else 0
theorem decOut_err {cs syms bs : List Int} {n : Int} (h : decErr cs syms bs n ≠ 0) : decOut cs syms bs n = [] := by unfold decOut; rw [if_neg h]
theorem decLong_err {cs syms bs : List Int} {n : Int} (h : decErr cs syms bs n ≠ 0) : decLong cs syms bs n = 0 := by unfold decLong; rw [if_neg h]

end Go.Proofs.Ytjphfbapekdjmaa
