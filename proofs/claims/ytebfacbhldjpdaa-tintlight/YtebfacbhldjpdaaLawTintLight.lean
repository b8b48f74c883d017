/- Light lies between the colors, walked over what To is to do. -/
import Derived.Test.YtebfacbhldjpdaaBd1
namespace Go.Proofs.Ytebfacbhldjpdaa
open Go.RowKit
set_option linter.unusedVariables false
set_option linter.unusedSimpArgs false
set_option maxRecDepth 100000

/-- The least and the greatest of three, as the builtins tell them. -/
theorem low3 (a b c : Int) (ha : B8 a) (hb : B8 b) (hc : B8 c) : ∃ lo hi, B8 lo ∧ B8 hi ∧ (lo ≤ a ∧ lo ≤ b ∧ lo ≤ c) ∧ (a ≤ hi ∧ b ≤ hi ∧ c ≤ hi) ∧
    (∀ (ts : Array TypeId) (t : TypeId) (W : World), (Builtin.min_ ts t #[.int .i64 a, .int .i64 b, .int .i64 c]).run Try.prog W = .ok (.int .i64 lo) W) ∧
    (∀ (ts : Array TypeId) (t : TypeId) (W : World), (Builtin.max_ ts t #[.int .i64 a, .int .i64 b, .int .i64 c]).run Try.prog W = .ok (.int .i64 hi) W) := by
  refine ⟨if c < (if b < a then b else a) then c else (if b < a then b else a), if c > (if b > a then b else a) then c else (if b > a then b else a), ?_, ?_, ?_, ?_, fun ts t W => by simp [Builtin.min_, Builtin.min2], fun ts t W => by simp [Builtin.max_, Builtin.max2]⟩
  all_goals (unfold B8 at *; split <;> split <;> omega)
set_option maxHeartbeats 2000000 in
theorem tintLight_by (HT : TToSpec) (r g b : Int) (w : World) (hr : In64 r) (hg : In64 g) (hb : In64 b) : Calls Try.prog 8 #[.int .i64 r, .int .i64 g, .int .i64 b] w fun e w' => e = .returned (.bool true) ∧ Below w.heap.size w w' := by
  have H0 := veil (tinted_any HT w)
  have R1 := veil (fun W => rest_any r 256 W (by omega) (by omega) hr)
  have R2 := veil (fun W => rest_any g 256 W (by omega) (by omega) hg)
  have R3 := veil (fun W => rest_any b 256 W (by omega) (by omega) hb)
  have h1 := b8_mod r
  have h2 := b8_mod g
  have h3 := b8_mod b
  generalize r % 256 = x at *
  generalize g % 256 = y at *
  generalize b % 256 = z at *
  have H1 := veil (fun W => HT x y z W (b8_64 h1) (b8_64 h2) (b8_64 h3))
  rw [toV_ok h1 h2 h3] at H1
  obtain ⟨lo, hi, l1, l2, l3, l4, l5, l6⟩ := low3 x y z h1 h2 h3
  obtain ⟨q1, q2⟩ := tint_light l3 l4 l1 l2
  generalize tY x y z = p at *
  generalize tU x y z = p2 at *
  generalize tV x y z = p3 at *
  clear HT h1 h2 h3 hr hg hb l1 l2 l3 l4
  go_enter Try.func8, Try.ntmps8
  go_wp2_with fail
  refine H0.out.mono ?_
  rintro e w1 ⟨rfl, hb1⟩
  have HB1 := veil hb1
  clear hb1 H0
  go_wp2_with fail
  refine (R1.out w1).mono ?_
  rintro e wq ⟨rfl, hwq⟩
  subst hwq
  clear R1
  go_wp2_with fail
  refine (R2.out w1).mono ?_
  rintro e wq ⟨rfl, hwq⟩
  subst hwq
  clear R2
  go_wp2_with fail
  refine (R3.out w1).mono ?_
  rintro e wq ⟨rfl, hwq⟩
  subst hwq
  clear R3
  go_wp2_with fail
  refine (H1.out w1).mono ?_
  rintro e w2 ⟨rfl, hb2⟩
  have HB2 := veil (HB1.out.trans (hb2.mono HB1.out.size))
  clear hb2 H1 HB1
  go_wp2_with fail
  go_ret
  exact ⟨rfl, HB2.out⟩
end Go.Proofs.Ytebfacbhldjpdaa
