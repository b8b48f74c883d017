/- The law on To, walked over what To is to do. -/
import Derived.Test.YtebfacbhldjpdaaBd1
namespace Go.Proofs.Ytebfacbhldjpdaa
open Go.RowKit
set_option linter.unusedVariables false
set_option linter.unusedSimpArgs false
set_option maxRecDepth 100000

set_option maxHeartbeats 2000000 in
theorem tintTells_by (HT : TToSpec) (r g b : Int) (w : World) (hr : In64 r) (hg : In64 g) (hb : In64 b) : Calls Try.prog 3 #[.int .i64 r, .int .i64 g, .int .i64 b] w fun e w' => e = .returned (.bool true) ∧ Below w.heap.size w w' := by
  have H1 := veil (fun W => HT r g b W hr hg hb)
  have H2 := veil (refTintTo_any r g b)
  have H3 := veil (fun W => HT 256 0 0 W (by unfold In64; omega) (by unfold In64; omega) (by unfold In64; omega))
  rw [toV_bad] at H3
  obtain ⟨a1, a2, a3, a4, hV⟩ := toV_is r g b
  rw [hV] at H1 H2
  clear HT hr hg hb hV
  go_enter Try.func3, Try.ntmps3
  go_wp2_with fail
  refine (H1.out w).mono ?_
  rintro e w1 ⟨rfl, hb1⟩
  have HB1 := veil hb1
  clear hb1 H1
  go_wp2_with fail
  refine (H2.out w1).mono ?_
  rintro e w2 ⟨rfl, hb2⟩
  have HB2 := veil (HB1.out.trans (hb2.mono HB1.out.size))
  clear hb2 H2 HB1
  go_wp2_with fail
  refine (H3.out w2).mono ?_
  rintro e w3 ⟨rfl, hb3⟩
  have HB3 := veil (HB2.out.trans (hb3.mono HB2.out.size))
  clear hb3 H3 HB2
  go_wp2_with fail
  go_ret
  exact ⟨rfl, HB3.out⟩
end Go.Proofs.Ytebfacbhldjpdaa
