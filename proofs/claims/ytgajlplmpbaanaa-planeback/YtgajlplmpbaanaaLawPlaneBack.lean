/- There and back, walked over what Cut, Many and Join are to do. -/
import Derived.Test.YtgajlplmpbaanaaBd1
namespace Go.Proofs.Ytgajlplmpbaanaa
open Go.RowKit
set_option linter.unusedVariables false
set_option linter.unusedSimpArgs false
set_option maxRecDepth 100000

theorem in64_of {lo hi : Int} {ys : List Int} (h : inB lo hi ys = true) (h1 : -9223372036854775808 ≤ lo) (h2 : hi ≤ 9223372036854775807) : ∀ z ∈ ys, In64 z := fun z hz => by
  have := inB_mem.1 h z hz
  unfold In64; omega
theorem cut_ok {ys : List Int} {W H : Nat} (hb : ¬ badWH (W : Int) (H : Int)) (hl : ys.length = W * H) (hi : inB 0 255 ys = true) : eCut ys W H = 0 ∧ oCut ys W H = cutL ys W H := by
  have e : eCut ys W H = 0 := by rw [eCut_in hb (by rw [hl]; simp), if_pos hi]
  refine ⟨e, ?_⟩
  unfold oCut
  rw [if_pos e, Int.toNat_natCast, Int.toNat_natCast]
theorem cutL_rng {ys : List Int} {W H : Nat} (hW : 0 < W) (hH : 0 < H) (hl : ys.length = W * H) (hi : inB 0 255 ys = true) : ∀ r ∈ cutL ys W H, inB (-128) 127 r = true := by
  intro r hr
  obtain ⟨k, hk, rfl⟩ := List.mem_map.1 hr
  rw [inB_mem]
  intro z hz
  obtain ⟨i, hi2, rfl⟩ := List.mem_map.1 hz
  exact cell_rng hW hH hl hi
theorem inB_wide {lo hi lo2 hi2 : Int} {ys : List Int} (h : inB lo hi ys = true) (h1 : lo2 ≤ lo) (h2 : hi ≤ hi2) : inB lo2 hi2 ys = true := by
  rw [inB_mem] at h ⊢
  intro y hy; have := h y hy; omega
theorem join_ok {ys : List Int} {W H : Nat} (hb : ¬ badWH (W : Int) (H : Int)) (hl : ys.length = W * H) (hi : inB 0 255 ys = true) : eJoin (cutL ys W H) W H = 0 ∧ oJoin (cutL ys W H) W H = ys := by
  have hb2 := hb
  unfold badWH at hb2
  have e : eJoin (cutL ys W H) W H = 0 := by
    rw [eJoin_in hb (by rw [Int.toNat_natCast, Int.toNat_natCast]; exact cutL_length _ _ _), if_pos]
    intro r hr
    exact inB_wide (cutL_rng (by omega) (by omega) hl hi r hr) (by omega) (by omega)
  refine ⟨e, ?_⟩
  unfold oJoin
  rw [if_pos e, Int.toNat_natCast, Int.toNat_natCast]
  exact join_cut (by omega) (by omega) hl hi
set_option maxRecDepth 100000 in
set_option maxHeartbeats 4000000 in
theorem planeBack_by (HC : PCutSpec) (HM : PManySpec) (HJ : PJoinSpec) (l : List Int) (A : Option Addr) (c : Nat) (x y : Int) (w : World) (hs : Seen w w.heap.size A (ints .i64 l)) (hb : ∀ z ∈ l, In64 z) (hl : l.length ≤ maxLen) (hx : In64 x) (hy : In64 y) :
    Calls Try.prog 5 #[.slice A l.length c, .int .i64 x, .int .i64 y] w fun e w' => e = .returned (.bool true) ∧ Below w.heap.size w w' := by
  have HP := veil (planed_any HC HM w)
  have HS := veil (fun W => sides_any x y W hx hy)
  have Hbad := veil (sideN_ok x y)
  obtain ⟨a1, a2, _⟩ := sideN_in x
  obtain ⟨b1, b2, _⟩ := sideN_in y
  obtain ⟨W, hW⟩ : ∃ W, W = sideN x := ⟨_, rfl⟩
  obtain ⟨H, hH⟩ : ∃ H, H = sideN y := ⟨_, rfl⟩
  rw [← hW] at HS Hbad a1 a2
  rw [← hH] at HS Hbad b1 b2
  obtain ⟨N, hN⟩ : ∃ N, N = W * H := ⟨_, rfl⟩
  have hN4 : N ≤ 4096 := by rw [hN]; exact Nat.mul_le_mul a2 b2
  have zN : (W : Int) * (H : Int) = (N : Int) := by rw [hN]; simp
  have HN := veil hN
  have HSa := veil (fun W h hG => samples_any l A c w.heap.size N W h hb hl hN4 hG)
  have Hs := veil hs
  have HMa : Hid (∀ u, Calls Try.prog 11 #[.int .i64 (W : Int), .int .i64 (H : Int)] u fun e w' => e = .returned (.tuple #[.int .i64 (manyN W H : Nat), .int .i64 0]) ∧ Below u.heap.size u w') := veil fun u => by
    have h := HM (W : Int) (H : Int) u (by unfold In64; omega) (by unfold In64; omega)
    have e1 : oMany (W : Int) (H : Int) = (manyN W H : Nat) := by unfold oMany; rw [if_neg Hbad.out, Int.toNat_natCast, Int.toNat_natCast]
    have e2 : eSides (W : Int) (H : Int) = 0 := if_neg Hbad.out
    rw [e1, e2] at h
    exact h
  have HCa := veil HC; have HJa := veil HJ
  have hm64 := many_le a2 b2
  clear hW hH hN hs hb hl hx hy HC HM HJ
  go_enter Try.func5, Try.ntmps5
  go_wp2_with fail
  refine HP.out.mono ?_
  rintro e w1 ⟨rfl, hb1⟩
  have HB1 := veil hb1
  have HS1 := veil (HS.out w1)
  clear HP HS hb1
  go_wp2_with fail
  refine HS1.out.mono ?_
  rintro e wq ⟨rfl, hwq⟩
  subst hwq
  have HSb := veil (HSa.out w1 (Hs.out.below HB1.out (Nat.le_refl _)) HB1.out.size)
  clear HS1 HSa
  go_wp2_with fail
  refine HSb.out.mono ?_
  rintro e w2 ⟨g, ys, rfl, hyl, hyi, hys, hb2⟩
  have HB2 := veil (HB1.out.trans (hb2.mono HB1.out.size))
  have hyN : ys.length = W * H := by rw [hyl]; exact HN.out
  obtain ⟨ce, co⟩ := cut_ok Hbad.out hyN hyi
  have hC := HCa.out ys (some ⟨g, 0, none⟩) N w2.heap.size (W : Int) (H : Int) w2 hys (in64_of hyi (by omega) (by omega)) (by unfold maxLen; omega) (by omega) (by unfold In64; omega) (by unfold In64; omega) (Nat.le_refl _)
  rw [ce, co, hyl] at hC
  have HCb := veil hC
  have Hyl := veil hyl; have Hyi := veil hyi; have Hys := veil hys; have HyN := veil hyN
  clear hC HCa HSb ce co hyl hyi hys hb2 hyN HB1
  go_wp2_with fail
  refine HCb.out.mono ?_
  rintro e w3 ⟨v3, rfl, HO3, hb3⟩
  obtain ⟨A4, c4, hv4, hs4, hc4, hm4⟩ := HO3.seen (List.mem_cons_self ..)
  obtain rfl : v3 = .slice A4 (cutL ys W H).length c4 := hv4
  rw [cutL_length]
  have HB3 := veil (HB2.out.trans (hb3.mono HB2.out.size))
  have Hys3 := veil (Hys.out.below hb3 (Nat.le_refl _))
  have Hz3 := veil hb3.size
  have Hs4 := veil hs4
  have Hc4 : Hid ((cutL ys W H).length ≤ c4) := hc4
  have HMb := veil (HMa.out w3)
  clear HO3 hb3 hs4 hc4 hm4 HCb HMa HB2 Hys
  go_wp2_with fail
  refine HMb.out.mono ?_
  rintro e w4 ⟨rfl, hb4⟩
  have HB4 := veil (HB3.out.trans (hb4.mono HB3.out.size))
  have Hys4 := veil (Hys3.out.below hb4 Hz3.out)
  obtain ⟨je, jo⟩ := join_ok Hbad.out HyN.out Hyi.out
  have hrg := cutL_rng (W := W) (H := H) (by omega) (by omega) HyN.out Hyi.out
  have hJ := HJa.out (cutL ys W H) A4 c4 w3.heap.size (W : Int) (H : Int) w4 cutK_rows (fun r hr => in64_of (hrg r hr) (by omega) (by omega)) (Hs4.out.below hb4 (Nat.le_refl _)) (by rw [cutL_length]; unfold maxLen; omega) Hc4.out (by unfold In64; omega) (by unfold In64; omega) hb4.size
  rw [je, jo, cutL_length] at hJ
  have HJb := veil hJ
  have Hz4 := veil hb4.size
  clear hJ je jo hrg hb4 HMb HJa HB3 Hys3 Hs4 Hc4
  generalize manyN W H = M at *
  go_wp2_with fail
  refine HJb.out.mono ?_
  rintro e w5 ⟨v5, rfl, HO5, hb5⟩
  obtain ⟨A6, c6, hv6, hs6, hc6, hm6⟩ := HO5.seen (List.mem_cons_self ..)
  obtain rfl : v5 = .slice A6 ys.length c6 := hv6
  rw [Hyl.out]
  have HB5 := veil (HB4.out.trans (hb5.mono HB4.out.size))
  have hz5 := hb5.size
  have hEq := eqInt (some ⟨g, 0, none⟩) A6 N c6 w5.heap.size ys ys w5 ((Hys4.out.below hb5 (by have := Hz4.out; have := Hz3.out; omega)).up (by have := Hz4.out; have := Hz3.out; omega)) (hs6.up (Nat.le_refl _)) (by have := Hyl.out; unfold maxLen; omega) (by have := Hyl.out; unfold maxLen; omega)
  rw [decide_eq_true (rfl : ys = ys), Hyl.out] at hEq
  have HEq := veil hEq
  clear hEq hs6 hc6 hm6 HO5 hb5 HJb HB4 Hys4 hz5
  go_wp2_with fail
  refine HEq.out.mono ?_
  rintro e w7 ⟨rfl, hw7⟩
  subst hw7
  go_wp2
  go_ret
  exact ⟨rfl, HB5.out⟩
end Go.Proofs.Ytgajlplmpbaanaa
