/- Parts of a slice of tokens. -/
import Derived.Test.YtemckjkdlbipcaaTokMem
namespace Go.Proofs.Ytemckjkdlbipcaa
open Go.RowKit
set_option linter.unusedVariables false
set_option linter.unusedSimpArgs false
set_option maxRecDepth 100000

def cutT (A : Option Addr) (f h c : Nat) : Value := .slice (if c = f then A else A.map (·.add (f * 3))) (h - f) (c - f)
theorem run_cutT_to (A : Option Addr) (n c h : Nat) (h2 : h ≤ c) (u : World) : (Instr.sliceAt 24 (.slice A n c) none (some (.int .i64 (h : Int))) none).run Try.prog u = .ok (.slice A h c) u := by
  have he : Try.prog.underlying 24 = some (.slice (Try.prog.elem 24)) := by kernel_rfl
  have hz : (sizeOf (Try.prog.elem 24)).run Try.prog u = .ok 3 u := by kernel_rfl
  rw [run_sliceAt_slice _ _ _ _ _ _ he, run_slice_h _ _ _ _ _ he _ _ (by omega) (by omega), hz]
  simp [Result.andThen, sliced]
  intro _
  cases A with
  | none => rfl
  | some a => simp [Addr.add]
theorem run_cutT_end (A : Option Addr) (n c f : Nat) (h1 : f ≤ n) (u : World) : (Instr.sliceAt 24 (.slice A n c) (some (.int .i64 (f : Int))) none none).run Try.prog u = .ok (cutT A f n c) u := by
  have he : Try.prog.underlying 24 = some (.slice (Try.prog.elem 24)) := by kernel_rfl
  have hz : (sizeOf (Try.prog.elem 24)).run Try.prog u = .ok 3 u := by kernel_rfl
  rw [run_sliceAt_slice _ _ _ _ _ _ he, run_slice_l _ _ _ _ _ he _ _ (by omega) (by omega), hz]
  simp [Result.andThen, sliced, cutT]
theorem cutT_drop {w : World} {G c f : Nat} {A : Option Addr} {l : List (Int × Int × Int)} (hs : Seen w G A (tokCells l)) (hf : f ≤ l.length) (hc : l.length ≤ c) :
    ∃ A', cutT A f l.length c = .slice A' (l.drop f).length (c - f) ∧ Seen w G A' (tokCells (l.drop f)) := by
  refine ⟨_, by rw [cutT, List.length_drop], ?_⟩
  by_cases hcf : c = f
  · have : l.drop f = [] := List.drop_of_length_le (by omega)
    rw [this]; exact .inl rfl
  · rw [if_neg hcf]
    rcases hs with hs | ⟨g, o, rfl, hg, hcell⟩
    · have : l = [] := by
        have := tokCells_length l
        rw [hs] at this
        cases l with
        | nil => rfl
        | cons a l => simp at this
      subst this
      exact .inl (by simp [tokCells])
    · refine .inr ⟨g, o + f * 3, by simp [addr_add], hg, fun j u hu => ?_⟩
      rw [tokCells_drop, List.getElem?_drop] at hu
      have := hcell _ _ hu
      rw [← this]; congr 2; omega
theorem cutT_take {w : World} {G k : Nat} {A : Option Addr} {l : List (Int × Int × Int)} (hs : Seen w G A (tokCells l)) : Seen w G A (tokCells (l.take k)) := by
  rcases hs with hs | ⟨g, o, rfl, hg, hcell⟩
  · left; rw [tokCells_take, hs, List.take_nil]
  · refine .inr ⟨g, o, rfl, hg, fun j u hu => hcell j u ?_⟩
    rw [tokCells_take, List.getElem?_take] at hu
    split at hu
    · exact hu
    · cases hu
end Go.Proofs.Ytemckjkdlbipcaa
