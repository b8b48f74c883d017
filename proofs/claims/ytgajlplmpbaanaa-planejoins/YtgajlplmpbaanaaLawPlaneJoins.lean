/- The law on Join and Many, walked over what Join and Many are to do. -/
import Derived.Test.YtgajlplmpbaanaaBd1
namespace Go.Proofs.Ytgajlplmpbaanaa
open Go.RowKit
set_option linter.unusedVariables false
set_option linter.unusedSimpArgs false
set_option maxRecDepth 100000

set_option maxRecDepth 100000 in
set_option maxHeartbeats 4000000 in
theorem planeJoins_by (HJ : PJoinSpec) (HM : PManySpec) (L : List (List Int)) (A : Option Addr) (c : Nat) (x y : Int) (w : World) (hL : ∀ r ∈ L, r.length = 64) (hb : ∀ r ∈ L, ∀ z ∈ r, In64 z) (hs : Seen w w.heap.size A (rowsC L)) (hl : L.length ≤ maxLen) (hc : L.length ≤ c) (hx : In64 x) (hy : In64 y) :
    Calls Try.prog 4 #[.slice A L.length c, .int .i64 x, .int .i64 y] w fun e w' => e = .returned (.bool true) ∧ Below w.heap.size w w' := by
  have H1 := veil (HJ L A c w.heap.size x y w hL hb hs hl hc hx hy (Nat.le_refl _))
  have H2 := veil (fun W h hG => refJoin_any L A c w.heap.size x y W hL h hl hG)
  have H3 := veil (fun W => HM x y W hx hy)
  have H4 := veil (many01_any HM)
  have H5 := veil (refSides_any x y)
  have Hs := veil hs
  have Ho := veil (oJoin_len L x y)
  generalize eJoin L x y = E at *
  generalize oJoin L x y = O at *
  clear hs hb hl hc hx hy HJ HM hL
  go_enter Try.func4, Try.ntmps4
  go_wp2_with fail
  refine H1.out.mono ?_
  rintro e w1 ⟨v1, rfl, HO1, hb1⟩
  obtain ⟨A4, c4, hv4, hs4, hc4, hm4⟩ := HO1.seen (List.mem_cons_self ..)
  obtain rfl : v1 = .slice A4 O.length c4 := hv4
  have hz1 := hb1.size
  have Hs4 := veil hs4
  have Hb1 := veil hb1
  have hs1 := Hs.out.below hb1 (Nat.le_refl _)
  have HR := veil (H2.out w1 hs1 hz1)
  clear HO1 hs4 hb1 hs1 H1 H2 hc4 hm4
  go_wp2_with fail
  refine HR.out.mono ?_
  rintro e w2 ⟨v2, rfl, HO2, hb2⟩
  obtain ⟨A5, c5, hv5, hs5, hc5, hm5⟩ := HO2.seen (List.mem_cons_self ..)
  obtain rfl : v2 = .slice A5 O.length c5 := hv5
  have hz2 := hb2.size
  have Hs4b := veil (Hs4.out.below hb2 (Nat.le_refl _))
  have Hs5 := veil hs5
  have Hb2 := veil (Hb1.out.trans (hb2.mono hz1))
  have HMa := veil (H3.out w2)
  clear HO2 hs5 hb2 HR Hb1 Hs4 H3 hc5 hm5
  obtain ⟨S, hS⟩ : ∃ S, S = eSides x y := ⟨_, rfl⟩
  obtain ⟨M, hM⟩ : ∃ M, M = oMany x y := ⟨_, rfl⟩
  rw [← hS, ← hM] at HMa
  rw [← hS] at H5
  have HSe := veil hS; have HMe := veil hM
  clear hS hM
  go_wp2_with fail
  refine HMa.out.mono ?_
  rintro e w3 ⟨rfl, hb3⟩
  have hz3 := hb3.size
  have Hb3 := veil (Hb2.out.trans (hb3.mono (by omega)))
  have Hs4c := veil (Hs4b.out.below hb3 hz2)
  have Hs5c := veil (Hs5.out.below hb3 (Nat.le_refl _))
  have HS := veil (H5.out w3)
  clear hb3 Hb2 Hs4b Hs5 HMa H5
  go_wp2_with fail
  refine HS.out.mono ?_
  rintro e wq ⟨rfl, hwq⟩
  obtain rfl : w3 = wq := hwq.symm
  clear hwq HS
  have HMb := veil (H4.out w3)
  clear H4
  have HEnd : Hid (∀ w4, Below w3.heap.size w3 w4 → Below w.heap.size w w4 ∧ Calls Try.prog 16 #[.slice A4 O.length c4, .slice A5 O.length c5] w4 fun e w' => e = .returned (.bool true) ∧ w4 = w') := veil fun w4 hb4 => by
    refine ⟨Hb3.out.trans (hb4.mono (by omega)), ?_⟩
    have hEq := eqInt A4 A5 c4 c5 w4.heap.size O O w4 ((Hs4c.out.below hb4 (by omega)).up (by have := hb4.size; omega)) ((Hs5c.out.below hb4 (by omega)).up (by have := hb4.size; omega)) (by have := Ho.out; unfold maxLen; omega) (by have := Ho.out; unfold maxLen; omega)
    rw [decide_eq_true (rfl : O = O)] at hEq
    exact hEq
  clear Hs4c Hs5c
  by_cases hbad : badWH x y
  · have hS1 : S = 1 := HSe.out.trans (if_pos hbad)
    have hM1 : M = 0 := HMe.out.trans (if_pos hbad)
    subst hS1 hM1
    clear hbad
    go_wp2_with fail
    refine HMb.out.mono ?_
    rintro e w4 ⟨rfl, hb4⟩
    obtain ⟨hbw, hE⟩ := HEnd.out w4 hb4
    have HEq := veil hE
    have Hbw := veil hbw
    clear hE hbw hb4 HMb HEnd
    go_wp2_with fail
    refine HEq.out.mono ?_
    rintro e w7 ⟨rfl, hw7⟩
    subst hw7
    go_wp2
    go_ret
    exact ⟨rfl, Hbw.out⟩
  · have hS1 : S = 0 := HSe.out.trans (if_neg hbad)
    have hM0 := HMe.out
    unfold oMany at hM0
    rw [if_neg hbad] at hM0
    unfold badWH at hbad
    obtain ⟨W, hW⟩ : ∃ W : Nat, x = (W : Int) := ⟨x.toNat, by omega⟩
    obtain ⟨H, hH⟩ : ∃ H : Nat, y = (H : Int) := ⟨y.toNat, by omega⟩
    subst hW hH
    rw [Int.toNat_natCast, Int.toNat_natCast] at hM0
    obtain ⟨N, hN⟩ : ∃ N, N = manyN W H := ⟨_, rfl⟩
    obtain ⟨P, hP⟩ : ∃ P, P = acrossN W := ⟨_, rfl⟩
    obtain ⟨Q, hQ⟩ : ∃ Q, Q = acrossN H := ⟨_, rfl⟩
    have z5 : (P : Int) * (Q : Int) = (N : Int) := by rw [hN, manyN, ← hP, ← hQ]; simp
    have hN64 : N ≤ 64 := by rw [hN]; exact many_le (by omega) (by omega)
    rw [← hN] at hM0
    unfold acrossN at hP hQ
    obtain ⟨a, ha⟩ : ∃ a : Nat, a = W + 7 := ⟨_, rfl⟩
    obtain ⟨b, hb⟩ : ∃ b : Nat, b = H + 7 := ⟨_, rfl⟩
    have z1 : (W : Int) + 7 = (a : Int) := by omega
    have z2 : (H : Int) + 7 = (b : Int) := by omega
    have z3 : (a : Int) / 8 = (P : Int) := by omega
    have z4 : (b : Int) / 8 = (Q : Int) := by omega
    have hb2 : a ≤ 71 ∧ b ≤ 71 ∧ P ≤ 8 ∧ Q ≤ 8 ∧ W ≤ 64 ∧ H ≤ 64 := by omega
    subst hS1 hM0
    clear hbad hN hP hQ ha hb HSe HMe
    go_wp2_with fail
    refine HMb.out.mono ?_
    rintro e w4 ⟨rfl, hb4⟩
    obtain ⟨hbw, hE⟩ := HEnd.out w4 hb4
    have HEq := veil hE
    have Hbw := veil hbw
    clear hE hbw hb4 HMb HEnd
    go_wp2_with fail
    refine HEq.out.mono ?_
    rintro e w7 ⟨rfl, hw7⟩
    subst hw7
    go_wp2
    go_ret
    exact ⟨rfl, Hbw.out⟩
end Go.Proofs.Ytgajlplmpbaanaa
