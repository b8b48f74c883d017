/- The law on Decode, walked. -/
import Derived.Test.YtbboakdfnjjddaaBd12
import Derived.Test.YtbboakdfnjjddaaBd14
import Derived.Test.YtbboakdfnjjddaaLawSegEncodes
namespace Go.Proofs.Ytbboakdfnjjddaa
open Go.RowKit
set_option linter.unusedVariables false
set_option linter.unusedSimpArgs false
set_option maxRecDepth 100000

set_option maxRecDepth 100000 in
set_option maxHeartbeats 4000000 in
theorem segDecodes_walk (cs : List Int) (A : Option Addr) (c : Nat) (syms : List Int) (cs2 : List Int) (A2 : Option Addr) (c2 : Nat) (syms2 : List Int) (A3 : Option Addr) (c3 : Nat) (bs : List Int) (n : Int) (w : World)
    (hcs : cs.length = 16) (hb : ∀ x ∈ cs, -9223372036854775808 ≤ x ∧ x ≤ 9223372036854775807) (hs : Seen w w.heap.size A (ints .i64 syms)) (hn : syms.length ≤ maxLen) (hcap : syms.length ≤ c)
    (hcs2 : cs2.length = 16) (hb2 : ∀ x ∈ cs2, -9223372036854775808 ≤ x ∧ x ≤ 9223372036854775807) (hs2 : Seen w w.heap.size A2 (ints .i64 syms2)) (hn2 : syms2.length ≤ maxLen) (hcap2 : syms2.length ≤ c2)
    (hs3 : Seen w w.heap.size A3 (ints .u8 bs)) (hbw : ∀ x ∈ bs, (Lit.int .u8 x).wf = true) (hm : bs.length ≤ maxLen) (hbl : bs.length ≤ 1048576) (hnb : -9223372036854775808 ≤ n ∧ n ≤ 9223372036854775807) :
    Calls Try.prog 5 #[tabsV cs A syms.length c cs2 A2 syms2.length c2, .slice A3 bs.length c3, .int .i64 n] w fun e w' => e = .returned (.bool true) ∧ Below w.heap.size w w' := by
  have hby : Bytes bs := fun x hx => bounds_u8 (hbw x hx)
  clear hbw
  have h34 : (tabsCells cs A syms.length c cs2 A2 syms2.length c2).length = 34 := by unfold tabsCells; rw [List.length_append, tabCells_length hcs, tabCells_length hcs2]
  have H1 := veil (fun W h1 h2 h3 hG => segDecode_any cs syms A c cs2 syms2 A2 c2 w.heap.size bs A3 c3 n W hcs hn hb h1 hcs2 hn2 hb2 h2 h3 hby (by omega) hG)
  have H2 := veil (fun W h1 h2 h3 hG => refSegDecode_any cs syms A c cs2 syms2 A2 c2 w.heap.size bs A3 c3 n W hcs hn hcap hb h1 hcs2 hn2 hcap2 hb2 h2 h3 hby hbl hG)
  have HBd := veil badEnc_any
  have hb0 := below1 w (.cells (tabsCells cs A syms.length c cs2 A2 syms2.length c2).toArray 36)
  have hz0 : (w.alloc (.cells (tabsCells cs A syms.length c cs2 A2 syms2.length c2).toArray 36)).heap.size = w.heap.size + 1 := by simp
  have hr := range_new w (tabsCells cs A syms.length c cs2 A2 syms2.length c2) 36
  have Hs := veil hs; have Hs2 := veil hs2; have Hs3 := veil hs3
  have H34 := veil h34
  have HO64 : Hid ((∀ r ∈ oDec cs syms cs2 syms2 bs n, r.length = 64) ∧ (oDec cs syms cs2 syms2 bs n).length ≤ 1000000) := by
    show _ ∧ _
    by_cases h : eDec cs syms cs2 syms2 bs n = 0
    · obtain ⟨h1, h2, h3, _⟩ := again_ok hcs hcs2 hby h
      exact ⟨h1, by omega⟩
    · rw [oDec_err h]; exact ⟨by simp, by simp⟩
  clear h34 hcs hcs2 hb hb2 hm hbl hn hn2 hcap hcap2 hs hs2 hs3 hby
  obtain ⟨E, hE⟩ : ∃ E, E = eDec cs syms cs2 syms2 bs n := ⟨_, rfl⟩
  obtain ⟨O, hO⟩ : ∃ O, O = oDec cs syms cs2 syms2 bs n := ⟨_, rfl⟩
  rw [← hE, ← hO] at H1 H2
  rw [← hO] at HO64
  clear hE hO
  unfold tabsV at H1 H2 ⊢
  generalize tabsCells cs A syms.length c cs2 A2 syms2.length c2 = zs at *
  go_enter Try.func5, Try.ntmps5
  go_wp2_with (first
    | (refine wpList_load_mid rfl 36 (.tmp 3) rfl w.heap.size 0 rfl zs _ hr Try.underlying36 rfl (by rw [H34.out]; kernel_rfl) ?_)
    | fail)
  refine (H1.out _ (Hs.out.below hb0 (Nat.le_refl _)) (Hs2.out.below hb0 (Nat.le_refl _)) (Hs3.out.below hb0 (Nat.le_refl _)) (by omega)).mono ?_
  rintro e w1 ⟨v1, rfl, HO1, hb1⟩
  obtain ⟨A4, c4, hv4, hs4, hc4, hm4⟩ := HO1.seen (List.mem_cons_self ..)
  obtain rfl : v1 = .slice A4 O.length c4 := hv4
  have hr1 := range_below hr hb1 (by omega)
  have hbw1 := hb0.trans (hb1.mono (by omega))
  have hz1 := hb1.size
  rw [hz0] at hz1
  have Hs4 := veil hs4
  clear hr hb0 hb1 H1 HO1 hs4
  go_wp2_with (first
    | (refine wpList_load_mid rfl 36 (.tmp 3) rfl w.heap.size 0 rfl zs _ hr1 Try.underlying36 rfl (by rw [H34.out]; kernel_rfl) ?_)
    | fail)
  refine (H2.out _ (Hs.out.below hbw1 (Nat.le_refl _)) (Hs2.out.below hbw1 (Nat.le_refl _)) (Hs3.out.below hbw1 (Nat.le_refl _)) (by omega)).mono ?_
  rintro e w2 ⟨v2, rfl, HO2, hb2⟩
  obtain ⟨A5, c5, hv5, hs5, hc5, hm5⟩ := HO2.seen (List.mem_cons_self ..)
  obtain rfl : v2 = .slice A5 O.length c5 := hv5
  have hbw2 := hbw1.trans (hb2.mono (by omega))
  have hz2 := hb2.size
  have Hs4b := veil (Hs4.out.below hb2 (Nat.le_refl _))
  have Hs5 := veil hs5
  clear hr1 hbw1 hb2 H2 HO2 hs5 Hs4
  go_wp2_with fail
  refine (bad_any _).mono ?_
  rintro e w3 ⟨A7, rfl, hs7, hb3⟩
  have hz3 := hb3.size
  have hbw3 := hbw2.trans (hb3.mono (by omega))
  have hB7 := HBd.out A7 w3 hs7
  have Hs4c := veil (Hs4b.out.below hb3 hz2)
  have Hs5c := veil (Hs5.out.below hb3 (Nat.le_refl _))
  have Hb7 := veil hB7
  clear hB7 hs7 hb3 hbw2 Hs4b Hs5
  rw [bad_tab A7]
  rw [bad_tabs A7] at Hb7
  go_wp2_with fail
  refine (Hb7.out).mono ?_
  rintro e w6 ⟨A8, n8, c8, rfl, hb6⟩
  have hz6 := hb6.size
  have hbw6 := hbw3.trans (hb6.mono (by omega))
  have hEq := eqBlk A4 A5 c4 c5 w6.heap.size O O w6 ((Hs4c.out.below hb6 (by omega)).up (by omega)) ((Hs5c.out.below hb6 (by omega)).up (by omega)) HO64.out.1 HO64.out.1 (Nat.le_refl _) HO64.out.2 HO64.out.2
  rw [decide_eq_true (rfl : O = O)] at hEq
  have HEq := veil hEq
  clear hEq hb6 hbw3 Hs4c Hs5c Hb7
  go_wp2_with fail
  refine HEq.out.mono ?_
  rintro e w7 ⟨rfl, hb7⟩
  have hbw7 := hbw6.trans (hb7.mono hbw6.size)
  go_wp2
  go_ret
  exact ⟨rfl, hbw7⟩
end Go.Proofs.Ytbboakdfnjjddaa
