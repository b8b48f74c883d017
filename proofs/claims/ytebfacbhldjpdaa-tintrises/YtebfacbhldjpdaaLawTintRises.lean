/- Light rises with each color, walked over what To is to do. -/
import Derived.Test.YtebfacbhldjpdaaBd1
namespace Go.Proofs.Ytebfacbhldjpdaa
open Go.RowKit
set_option linter.unusedVariables false
set_option linter.unusedSimpArgs false
set_option maxRecDepth 100000

theorem up_any (n more : Int) (g : Nat) (w : World) (hn : B8 n) (hm : In64 more) (hk : Blk w g [Value.int .i64 more] 3) :
    Calls Try.prog 16 #[.int .i64 n, .pointer (some ⟨g, 0, none⟩)] w fun e w' => (∃ u, e = .returned (.int .i64 u) ∧ B8 u ∧ n ≤ u ∧ u = if n + more % 30 < 255 then n + more % 30 else 255) ∧ w' = w := by
  have HR := veil (rest_any more 30 w (by omega) (by omega) hm)
  have hc := hk.cell (i := 0) (v := .int .i64 more) rfl
  obtain ⟨k, hk30⟩ : ∃ k, k = more % 30 := ⟨_, rfl⟩
  rw [← hk30] at HR
  have hkb : 0 ≤ k ∧ k < 30 := by omega
  unfold B8 at hn
  suffices h : Calls Try.prog 16 #[.int .i64 n, .pointer (some ⟨g, 0, none⟩)] w fun e w' => e = .returned (.int .i64 (if n + k < 255 then n + k else 255)) ∧ w' = w by
    refine h.mono fun e w' ⟨h1, h2⟩ => ⟨⟨_, h1, ?_, ?_, ?_⟩, h2⟩
    · unfold B8; split <;> omega
    · split <;> omega
    · rw [hk30]
  clear hk30 hk hm
  by_cases h5 : n + k < 255
  · obtain ⟨V, hV⟩ : ∃ V, V = if n + k < 255 then n + k else 255 := ⟨_, rfl⟩
    rw [← hV]
    rw [if_pos h5] at hV
    have HV := veil hV
    clear hV
    go_enter Try.func16, Try.ntmps16
    go_wp2_with fail
    refine HR.out.mono ?_
    rintro e wq ⟨rfl, hwq⟩
    subst hwq
    go_wp2_with fail
    go_ret
    exact ⟨by rw [HV.out]; try rfl, rfl⟩
  · obtain ⟨V, hV⟩ : ∃ V, V = if n + k < 255 then n + k else 255 := ⟨_, rfl⟩
    rw [← hV]
    rw [if_neg h5] at hV
    have HV := veil hV
    clear hV
    go_enter Try.func16, Try.ntmps16
    go_wp2_with fail
    refine HR.out.mono ?_
    rintro e wq ⟨rfl, hwq⟩
    subst hwq
    go_wp2_with fail
    go_ret
    exact ⟨by rw [HV.out]; try rfl, rfl⟩
set_option maxHeartbeats 4000000 in
theorem tintRises_by (HT : TToSpec) (r g b more : Int) (w : World) (hr : In64 r) (hg : In64 g) (hb : In64 b) (hm : In64 more) : Calls Try.prog 7 #[.int .i64 r, .int .i64 g, .int .i64 b, .int .i64 more] w fun e w' => e = .returned (.bool true) ∧ Below w.heap.size w w' := by
  have HB0 := veil (below1 w (.cells [Value.int .i64 more].toArray 3))
  have HK0 := veil (Blk.new w [Value.int .i64 more] 3)
  have H0 := veil (tinted_any HT)
  have R1 := veil (fun W => rest_any r 256 W (by omega) (by omega) hr)
  have R2 := veil (fun W => rest_any g 256 W (by omega) (by omega) hg)
  have R3 := veil (fun W => rest_any b 256 W (by omega) (by omega) hb)
  have h1 := b8_mod r
  have h2 := b8_mod g
  have h3 := b8_mod b
  generalize r % 256 = x at *
  generalize g % 256 = y at *
  generalize b % 256 = z at *
  have H1 := veil (fun W => HT x y z W (b8_64 h1) (b8_64 h2) (b8_64 h3))
  rw [toV_ok h1 h2 h3] at H1
  obtain ⟨upN, hupN⟩ : ∃ f : Int → Int, ∀ n, f n = if n + more % 30 < 255 then n + more % 30 else 255 := ⟨fun n => if n + more % 30 < 255 then n + more % 30 else 255, fun n => rfl⟩
  have hup : ∀ n, B8 n → B8 (upN n) ∧ n ≤ upN n := fun n hn => by rw [hupN]; unfold B8 at *; split <;> omega
  obtain ⟨u1, e1⟩ := hup x h1
  obtain ⟨u2, e2⟩ := hup y h2
  obtain ⟨u3, e3⟩ := hup z h3
  have U1 := veil (fun W hk => up_any x more w.heap.size W h1 hm hk)
  have U2 := veil (fun W hk => up_any y more w.heap.size W h2 hm hk)
  have U3 := veil (fun W hk => up_any z more w.heap.size W h3 hm hk)
  rw [← hupN x] at U1
  rw [← hupN y] at U2
  rw [← hupN z] at U3
  have T1 := veil (fun W => HT (upN x) y z W (b8_64 u1) (b8_64 h2) (b8_64 h3))
  have T2 := veil (fun W => HT x (upN y) z W (b8_64 h1) (b8_64 u2) (b8_64 h3))
  have T3 := veil (fun W => HT x y (upN z) W (b8_64 h1) (b8_64 h2) (b8_64 u3))
  rw [toV_ok u1 h2 h3] at T1
  rw [toV_ok h1 u2 h3] at T2
  rw [toV_ok h1 h2 u3] at T3
  obtain ⟨m1, m2, m3, m4, m5⟩ := tint_rises (r := x) (g := y) (b := z) e1 e2 e3
  generalize upN x = ux at *
  generalize upN y = uy at *
  generalize upN z = uz at *
  generalize tY x y z = p1 at *
  generalize tU x y z = p2 at *
  generalize tV x y z = p3 at *
  generalize tY ux y z = q1 at *
  generalize tU ux y z = q2 at *
  generalize tV ux y z = q3 at *
  generalize tY x uy z = s1 at *
  generalize tU x uy z = s2 at *
  generalize tV x uy z = s3 at *
  generalize tY x y uz = t1 at *
  generalize tU x y uz = t2 at *
  generalize tV x y uz = t3 at *
  clear HT hr hg hb hm h1 h2 h3 u1 u2 u3 e1 e2 e3 hup hupN upN
  go_enter Try.func7, Try.ntmps7
  go_wp2_with fail
  refine (H0.out _).mono ?_
  rintro e w1 ⟨rfl, hb1⟩
  have HB1 := veil (HB0.out.trans (hb1.mono (by simp)))
  have HK1 := veil (HK0.out.below hb1 HK0.out.lt)
  clear hb1 H0 HB0 HK0
  go_wp2_with fail
  refine (R1.out w1).mono ?_
  rintro e wq ⟨rfl, hwq⟩
  subst hwq
  clear R1
  go_wp2_with fail
  refine (R2.out w1).mono ?_
  rintro e wq ⟨rfl, hwq⟩
  subst hwq
  clear R2
  go_wp2_with fail
  refine (R3.out w1).mono ?_
  rintro e wq ⟨rfl, hwq⟩
  subst hwq
  clear R3
  go_wp2_with fail
  refine (H1.out w1).mono ?_
  rintro e w2 ⟨rfl, hb2⟩
  have HB2 := veil (HB1.out.trans (hb2.mono HB1.out.size))
  have HK2 := veil (HK1.out.below hb2 HK1.out.lt)
  clear hb2 H1 HB1 HK1
  go_wp2_with fail
  refine (U1.out w2 HK2.out).mono ?_
  rintro e wq ⟨⟨u, rfl, _, _, hu⟩, hwq⟩
  obtain rfl : w2 = wq := hwq.symm
  obtain rfl : ux = u := hu.symm
  clear hwq hu
  go_wp2_with fail
  refine (T1.out w2).mono ?_
  rintro e w3 ⟨rfl, hb3⟩
  have HB3 := veil (HB2.out.trans (hb3.mono HB2.out.size))
  have HK3 := veil (HK2.out.below hb3 HK2.out.lt)
  clear hb3 HB2 HK2
  go_wp2_with fail
  refine (U2.out w3 HK3.out).mono ?_
  rintro e wq ⟨⟨u, rfl, _, _, hu⟩, hwq⟩
  obtain rfl : w3 = wq := hwq.symm
  obtain rfl : uy = u := hu.symm
  clear hwq hu
  go_wp2_with fail
  refine (T2.out w3).mono ?_
  rintro e w4 ⟨rfl, hb4⟩
  have HB4 := veil (HB3.out.trans (hb4.mono HB3.out.size))
  have HK4 := veil (HK3.out.below hb4 HK3.out.lt)
  clear hb4 HB3 HK3
  go_wp2_with fail
  refine (U3.out w4 HK4.out).mono ?_
  rintro e wq ⟨⟨u, rfl, _, _, hu⟩, hwq⟩
  obtain rfl : w4 = wq := hwq.symm
  obtain rfl : uz = u := hu.symm
  clear hwq hu
  go_wp2_with fail
  refine (T3.out w4).mono ?_
  rintro e w5 ⟨rfl, hb5⟩
  have HB5 := veil (HB4.out.trans (hb5.mono HB4.out.size))
  have HK5 := veil (HK4.out.below hb5 HK4.out.lt)
  clear hb5 HB4 HK4
  go_wp2_with fail
  refine (U1.out w5 HK5.out).mono ?_
  rintro e wq ⟨⟨u, rfl, _, _, hu⟩, hwq⟩
  obtain rfl : w5 = wq := hwq.symm
  obtain rfl : ux = u := hu.symm
  clear hwq hu
  go_wp2_with fail
  refine (T1.out w5).mono ?_
  rintro e w6 ⟨rfl, hb6⟩
  have HB6 := veil (HB5.out.trans (hb6.mono HB5.out.size))
  clear hb6 HB5 HK5 U1 U2 U3 T1 T2 T3
  go_wp2_with fail
  go_ret
  exact ⟨rfl, HB6.out⟩
end Go.Proofs.Ytebfacbhldjpdaa
