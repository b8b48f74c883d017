/- The law on Cut, walked over what Cut and Many are to do. -/
import Derived.Test.YtgajlplmpbaanaaBd1
import Derived.Test.YtgajlplmpbaanaaBd2
namespace Go.Proofs.Ytgajlplmpbaanaa
open Go.RowKit
set_option linter.unusedVariables false
set_option linter.unusedSimpArgs false
set_option maxRecDepth 100000

set_option maxRecDepth 100000 in
set_option maxHeartbeats 2000000 in
theorem planeCuts_by (HC : PCutSpec) (HM : PManySpec) (l : List Int) (A : Option Addr) (c : Nat) (x y : Int) (w : World) (hs : Seen w w.heap.size A (ints .i64 l)) (hb : ∀ z ∈ l, In64 z) (hl : l.length ≤ maxLen) (hc : l.length ≤ c) (hx : In64 x) (hy : In64 y) :
    Calls Try.prog 3 #[.slice A l.length c, .int .i64 x, .int .i64 y] w fun e w' => e = .returned (.bool true) ∧ Below w.heap.size w w' := by
  have H1 := veil (HC l A c w.heap.size x y w hs hb hl hc hx hy (Nat.le_refl _))
  have H2 := veil (fun W h hG => refCut_any l A c w.heap.size x y W h hl hG)
  have H3 := veil (many01_any HM)
  have Hs := veil hs
  have Ho := veil (oCut_rows l x y)
  generalize eCut l x y = E at *
  generalize oCut l x y = O at *
  clear hs hb hl hc hx hy HC HM
  go_enter Try.func3, Try.ntmps3
  go_wp2_with fail
  refine H1.out.mono ?_
  rintro e w1 ⟨v1, rfl, HO1, hb1⟩
  obtain ⟨A4, c4, hv4, hs4, hc4, hm4⟩ := HO1.seen (List.mem_cons_self ..)
  obtain rfl : v1 = .slice A4 O.length c4 := hv4
  have hz1 := hb1.size
  have Hs4 := veil hs4
  have Hb1 := veil hb1
  have hs1 := Hs.out.below hb1 (Nat.le_refl _)
  have HR := veil (H2.out w1 hs1 hz1)
  clear HO1 hs4 hb1 hs1 H1 H2 hc4 hm4
  go_wp2_with fail
  refine HR.out.mono ?_
  rintro e w2 ⟨v2, rfl, HO2, hb2⟩
  obtain ⟨A5, c5, hv5, hs5, hc5, hm5⟩ := HO2.seen (List.mem_cons_self ..)
  obtain rfl : v2 = .slice A5 O.length c5 := hv5
  have hz2 := hb2.size
  have Hs4b := veil (Hs4.out.below hb2 (Nat.le_refl _))
  have Hs5 := veil hs5
  have Hb2 := veil (Hb1.out.trans (hb2.mono hz1))
  have HMa := veil (H3.out w2)
  clear HO2 hs5 hb2 HR Hb1 Hs4 H3 hc5 hm5
  go_wp2_with fail
  refine HMa.out.mono ?_
  rintro e w3 ⟨rfl, hb3⟩
  have hz3 := hb3.size
  have Hb3 := veil (Hb2.out.trans (hb3.mono (by omega)))
  have hEq := eqBlk A4 A5 c4 c5 w3.heap.size O O w3 ((Hs4b.out.below hb3 hz2).up (by omega)) ((Hs5.out.below hb3 (Nat.le_refl _)).up (by omega)) Ho.out.1 Ho.out.1 (Nat.le_refl _) (by have := Ho.out.2; omega) (by have := Ho.out.2; omega)
  rw [decide_eq_true (rfl : O = O)] at hEq
  have HEq := veil hEq
  clear hEq hb3 Hb2 Hs4b Hs5 HMa
  go_wp2_with fail
  refine HEq.out.mono ?_
  rintro e w7 ⟨rfl, hb7⟩
  have hbw7 := Hb3.out.trans (hb7.mono Hb3.out.size)
  go_wp2
  go_ret
  exact ⟨rfl, hbw7⟩
end Go.Proofs.Ytgajlplmpbaanaa
