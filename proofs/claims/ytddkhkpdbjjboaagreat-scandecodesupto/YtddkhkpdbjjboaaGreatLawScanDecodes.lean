/- The law on scan.Decode, walked (over its contract). -/
import Derived.Test.YtddkhkpdbjjboaaGreatBd12
import Derived.Test.YtddkhkpdbjjboaaGreatBd16
namespace Go.Proofs.YtddkhkpdbjjboaaGreat
open Go.RowKit
set_option linter.unusedVariables false
set_option linter.unusedSimpArgs false
set_option maxRecDepth 100000

set_option maxRecDepth 100000 in
set_option maxHeartbeats 4000000 in
theorem scanDecodes_by (HS : EncSpec) (HD : DecSpec) (cs : List Int) (A : Option Addr) (c : Nat) (syms : List Int) (cs2 : List Int) (A2 : Option Addr) (c2 : Nat) (syms2 : List Int) (A3 : Option Addr) (c3 : Nat) (bs : List Int) (n every : Int) (w : World)
    (hT : TabsIn cs syms A c cs2 syms2 A2 c2 w.heap.size w) (hs3 : Seen w w.heap.size A3 (ints .u8 bs)) (hby : Bytes bs) (hbl : bs.length ≤ 1048576) (hcap3 : bs.length ≤ c3) :
    Calls Tryz.prog 3 #[tabsV cs A syms.length c cs2 A2 syms2.length c2, .slice A3 bs.length c3, .int .i64 n, .int .i64 every] w fun e w' => e = .returned (.bool true) ∧ Below w.heap.size w w' := by
  have h34 := tabs34 (syms := syms) (A := A) (c := c) (syms2 := syms2) (A2 := A2) (c2 := c2) hT.len hT.len2
  have H1 := veil (fun W (t : TabsIn cs syms A c cs2 syms2 A2 c2 w.heap.size W) h3 hG => HD cs syms A c cs2 syms2 A2 c2 w.heap.size bs A3 c3 n every W t hby hbl hcap3 h3 hG)
  have H2 := veil (fun W (t : TabsIn cs syms A c cs2 syms2 A2 c2 w.heap.size W) h3 hG => refScanDecode_any cs syms A c cs2 syms2 A2 c2 w.heap.size bs A3 c3 n every W t.len t.max t.cap t.bnd t.see t.len2 t.max2 t.cap2 t.bnd2 t.see2 h3 hby hbl hcap3 hG)
  have HN := veil (fun W (t : TabsIn cs syms A c cs2 syms2 A2 c2 w.heap.size W) hG => encNeg_any HS t hG)
  have hb0 := below1 w (.cells (tabsCells cs A syms.length c cs2 A2 syms2.length c2).toArray 27)
  have hz0 : (w.alloc (.cells (tabsCells cs A syms.length c cs2 A2 syms2.length c2).toArray 27)).heap.size = w.heap.size + 1 := by simp
  have hr := range_new w (tabsCells cs A syms.length c cs2 A2 syms2.length c2) 27
  have HO64 : Hid ((∀ r ∈ oScD cs syms cs2 syms2 bs n every, r.length = 64) ∧ (oScD cs syms cs2 syms2 bs n every).length ≤ 1000000) := oScD_rows hT.len hT.len2 hby n every
  have HT := veil hT; have Hs3 := veil hs3
  have H34 := veil h34
  obtain ⟨E, hE⟩ : ∃ E, E = eScD cs syms cs2 syms2 bs n every := ⟨_, rfl⟩
  obtain ⟨O, hO⟩ : ∃ O, O = oScD cs syms cs2 syms2 bs n every := ⟨_, rfl⟩
  rw [← hE, ← hO] at H1 H2
  rw [← hO] at HO64
  clear h34 hT hs3 hby hbl hcap3 hE hO HS HD
  unfold tabsV at H1 H2 HN ⊢
  generalize tabsCells cs A syms.length c cs2 A2 syms2.length c2 = zs at *
  go_enter Tryz.func3, Tryz.ntmps3
  go_wp2_with (first
    | (refine wpList_load_mid rfl 27 (.tmp 4) rfl w.heap.size 0 rfl zs _ hr Tryz.underlying27 rfl (by rw [H34.out]; kernel_rfl) ?_)
    | fail)
  refine (H1.out _ (HT.out.below hb0 (Nat.le_refl _)) (Hs3.out.below hb0 (Nat.le_refl _)) (by omega)).mono ?_
  rintro e w1 ⟨v1, rfl, HO1, hb1⟩
  obtain ⟨A4, c4, hv4, hs4, hc4, hm4⟩ := HO1.seen (List.mem_cons_self ..)
  obtain rfl : v1 = .slice A4 O.length c4 := hv4
  have hs4' : Seen w1 w1.heap.size A4 (rowsC O) := hs4
  have hOl : O.length ≤ maxLen := Nat.le_trans hc4 hm4
  have hr1 := range_below hr hb1 (by omega)
  have hbw1 := hb0.trans (hb1.mono (by omega))
  have hz1 := hb1.size
  rw [hz0] at hz1
  have Hs4 := veil hs4'
  clear hr hb0 hb1 H1 HO1 hs4 hs4'
  go_wp2_with (first
    | (refine wpList_load_mid rfl 27 (.tmp 4) rfl w.heap.size 0 rfl zs _ hr1 Tryz.underlying27 rfl (by rw [H34.out]; kernel_rfl) ?_)
    | fail)
  refine (H2.out _ (HT.out.below hbw1 (Nat.le_refl _)) (Hs3.out.below hbw1 (Nat.le_refl _)) (by omega)).mono ?_
  rintro e w2 ⟨v2, rfl, HO2, hb2⟩
  obtain ⟨A5, c5, hv5, hs5, hc5, hm5⟩ := HO2.seen (List.mem_cons_self ..)
  obtain rfl : v2 = .slice A5 O.length c5 := hv5
  have hs5' : Seen w2 w2.heap.size A5 (rowsC O) := hs5
  have hr2 := range_below hr1 hb2 (by omega)
  have hbw2 := hbw1.trans (hb2.mono (by omega))
  have hz2 := hb2.size
  have Hs4b := veil (Hs4.out.below hb2 (Nat.le_refl _))
  have Hs5 := veil hs5'
  clear hr1 hb2 H2 HO2 hs5 hs5' Hs4
  go_wp2_with (first
    | (refine wpList_load_mid rfl 27 (.tmp 4) rfl w.heap.size 0 rfl zs _ hr2 Tryz.underlying27 rfl (by rw [H34.out]; kernel_rfl) ?_)
    | fail)
  refine (HN.out _ (HT.out.below hbw2 (Nat.le_refl _)) (by omega)).mono ?_
  rintro e w3 ⟨A8, n8, c8, rfl, hb3⟩
  have hz3 := hb3.size
  have hbw3 := hbw2.trans (hb3.mono (by omega))
  have hEq := eqBlk A4 A5 c4 c5 w3.heap.size O O w3 ((Hs4b.out.below hb3 (by omega)).up (by omega)) ((Hs5.out.below hb3 (Nat.le_refl _)).up (by omega)) HO64.out.1 HO64.out.1 (Nat.le_refl _) HO64.out.2 HO64.out.2
  rw [decide_eq_true (rfl : O = O)] at hEq
  have HEq := veil hEq
  clear hEq hb3 hbw1 hbw2 Hs4b Hs5 hr2 HN
  go_wp2_with fail
  refine HEq.out.mono ?_
  rintro e w7 ⟨rfl, hb7⟩
  have hbw7 := hbw3.trans (hb7.mono hbw3.size)
  go_wp2
  go_ret
  exact ⟨rfl, hbw7⟩
end Go.Proofs.YtddkhkpdbjjboaaGreat
