/- Gray has no tint, walked over what To and From are to do. -/
import Derived.Test.YtebfacbhldjpdaaBd1
namespace Go.Proofs.Ytebfacbhldjpdaa
open Go.RowKit
set_option linter.unusedVariables false
set_option linter.unusedSimpArgs false
set_option maxRecDepth 100000

set_option maxHeartbeats 2000000 in
theorem tintGray_by (HT : TToSpec) (HF : TFromSpec) (n : Int) (w : World) (hn : In64 n) : Calls Try.prog 5 #[.int .i64 n] w fun e w' => e = .returned (.bool true) ∧ Below w.heap.size w w' := by
  have H0 := veil (tinted_any HT w)
  have HR := veil (fun W => rest_any n 256 W (by omega) (by omega) hn)
  have h8 := b8_mod n
  generalize n % 256 = m at *
  have h128 : B8 128 := by unfold B8; omega
  have H1 := veil (fun W => HT m m m W (b8_64 h8) (b8_64 h8) (b8_64 h8))
  have H2 := veil (fun W => HF m 128 128 W (b8_64 h8) (b8_64 h128) (b8_64 h128))
  obtain ⟨g1, g2, g3, g4, g5, g6⟩ := tint_gray h8
  rw [toV_ok h8 h8 h8, g1, g2, g3] at H1
  rw [fromV_ok h8 h128 h128, g4, g5, g6] at H2
  clear HT HF g1 g2 g3 g4 g5 g6 h128 h8 hn
  go_enter Try.func5, Try.ntmps5
  go_wp2_with fail
  refine H0.out.mono ?_
  rintro e w1 ⟨rfl, hb1⟩
  have HB1 := veil hb1
  clear hb1 H0
  go_wp2_with fail
  refine (HR.out w1).mono ?_
  rintro e wq ⟨rfl, hwq⟩
  subst hwq
  clear HR
  go_wp2_with fail
  refine (H1.out w1).mono ?_
  rintro e w2 ⟨rfl, hb2⟩
  have HB2 := veil (HB1.out.trans (hb2.mono HB1.out.size))
  clear hb2 H1 HB1
  go_wp2_with fail
  refine (H2.out w2).mono ?_
  rintro e w3 ⟨rfl, hb3⟩
  have HB3 := veil (HB2.out.trans (hb3.mono HB2.out.size))
  clear hb3 H2 HB2
  go_wp2_with fail
  go_ret
  exact ⟨rfl, HB3.out⟩
end Go.Proofs.Ytebfacbhldjpdaa
