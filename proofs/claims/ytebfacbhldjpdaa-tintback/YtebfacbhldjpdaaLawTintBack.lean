/- Colors there and back, walked over what To and From are to do. -/
import Derived.Test.YtebfacbhldjpdaaBd1
namespace Go.Proofs.Ytebfacbhldjpdaa
open Go.RowKit
set_option linter.unusedVariables false
set_option linter.unusedSimpArgs false
set_option maxRecDepth 100000

theorem off_any (a b : Int) (w : World) (ha : B8 a) (hb : B8 b) (h : -2 ≤ a - b ∧ a - b ≤ 2) : Calls Try.prog 15 #[.int .i64 a, .int .i64 b] w fun e w' => e = .returned (.bool true) ∧ w' = w := by
  unfold B8 at ha hb
  go_enter Try.func15, Try.ntmps15
  go_wp2
  all_goals
    go_ret
    exact ⟨ret_bool (by simp <;> omega), rfl⟩
set_option maxHeartbeats 2000000 in
theorem tintBack_by (HT : TToSpec) (HF : TFromSpec) (r g b : Int) (w : World) (hr : In64 r) (hg : In64 g) (hb : In64 b) : Calls Try.prog 6 #[.int .i64 r, .int .i64 g, .int .i64 b] w fun e w' => e = .returned (.bool true) ∧ Below w.heap.size w w' := by
  have H0 := veil (tinted_any HT w)
  have R1 := veil (fun W => rest_any r 256 W (by omega) (by omega) hr)
  have R2 := veil (fun W => rest_any g 256 W (by omega) (by omega) hg)
  have R3 := veil (fun W => rest_any b 256 W (by omega) (by omega) hb)
  have h1 := b8_mod r
  have h2 := b8_mod g
  have h3 := b8_mod b
  generalize r % 256 = x at *
  generalize g % 256 = y at *
  generalize b % 256 = z at *
  have H1 := veil (fun W => HT x y z W (b8_64 h1) (b8_64 h2) (b8_64 h3))
  rw [toV_ok h1 h2 h3] at H1
  obtain ⟨n1, n2, n3⟩ := tint_back h1 h2 h3
  have k1 : B8 (tY x y z) := smp_in _
  have k2 : B8 (tU x y z) := smp_in _
  have k3 : B8 (tV x y z) := smp_in _
  generalize tY x y z = p at *
  generalize tU x y z = p2 at *
  generalize tV x y z = p3 at *
  have H2 := veil (fun W => HF p p2 p3 W (b8_64 k1) (b8_64 k2) (b8_64 k3))
  rw [fromV_ok k1 k2 k3] at H2
  have O1 := veil (fun W => off_any x (tR p p2 p3) W h1 (smp_in _) n1)
  have O2 := veil (fun W => off_any y (tG p p2 p3) W h2 (smp_in _) n2)
  have O3 := veil (fun W => off_any z (tB p p2 p3) W h3 (smp_in _) n3)
  generalize tR p p2 p3 = c at *
  generalize tG p p2 p3 = c2 at *
  generalize tB p p2 p3 = c3 at *
  clear HT HF h1 h2 h3 hr hg hb n1 n2 n3 k1 k2 k3
  go_enter Try.func6, Try.ntmps6
  go_wp2_with fail
  refine H0.out.mono ?_
  rintro e w1 ⟨rfl, hb1⟩
  have HB1 := veil hb1
  clear hb1 H0
  go_wp2_with fail
  refine (R1.out w1).mono ?_
  rintro e wq ⟨rfl, hwq⟩
  subst hwq
  clear R1
  go_wp2_with fail
  refine (R2.out w1).mono ?_
  rintro e wq ⟨rfl, hwq⟩
  subst hwq
  clear R2
  go_wp2_with fail
  refine (R3.out w1).mono ?_
  rintro e wq ⟨rfl, hwq⟩
  subst hwq
  clear R3
  go_wp2_with fail
  refine (H1.out w1).mono ?_
  rintro e w2 ⟨rfl, hb2⟩
  have HB2 := veil (HB1.out.trans (hb2.mono HB1.out.size))
  clear hb2 H1 HB1
  go_wp2_with fail
  refine (H2.out w2).mono ?_
  rintro e w3 ⟨rfl, hb3⟩
  have HB3 := veil (HB2.out.trans (hb3.mono HB2.out.size))
  clear hb3 H2 HB2
  go_wp2_with fail
  refine (O1.out w3).mono ?_
  rintro e wq ⟨rfl, hwq⟩
  obtain rfl : w3 = wq := hwq.symm
  clear O1 hwq
  go_wp2_with fail
  refine (O2.out w3).mono ?_
  rintro e wq ⟨rfl, hwq⟩
  obtain rfl : w3 = wq := hwq.symm
  clear O2 hwq
  go_wp2_with fail
  refine (O3.out w3).mono ?_
  rintro e wq ⟨rfl, hwq⟩
  obtain rfl : w3 = wq := hwq.symm
  clear O3 hwq
  go_wp2_with fail
  go_ret
  exact ⟨rfl, HB3.out⟩
end Go.Proofs.Ytebfacbhldjpdaa
