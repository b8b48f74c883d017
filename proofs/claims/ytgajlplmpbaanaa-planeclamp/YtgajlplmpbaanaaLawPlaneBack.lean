/- There and back, walked over what Cut, Many and Join are to do. -/
import Derived.Test.YtgajlplmpbaanaaBd1
namespace Go.Proofs.Ytgajlplmpbaanaa
open Go.RowKit
set_option linter.unusedVariables false
set_option linter.unusedSimpArgs false
set_option maxRecDepth 100000

theorem in64_of {lo hi : Int} {ys : List Int} (h : inB lo hi ys = true) (h1 : -9223372036854775808 ≤ lo) (h2 : hi ≤ 9223372036854775807) : ∀ z ∈ ys, In64 z := fun z hz => by
  have := inB_mem.1 h z hz
  unfold In64; omega
theorem cut_ok {ys : List Int} {W H : Nat} (hb : ¬ badWH (W : Int) (H : Int)) (hl : ys.length = W * H) (hi : inB 0 255 ys = true) : eCut ys W H = 0 ∧ oCut ys W H = cutL ys W H := by
  have e : eCut ys W H = 0 := by rw [eCut_in hb (by rw [hl]; simp), if_pos hi]
  refine ⟨e, ?_⟩
  unfold oCut
  rw [if_pos e, Int.toNat_natCast, Int.toNat_natCast]
end Go.Proofs.Ytgajlplmpbaanaa
