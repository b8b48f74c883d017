/- The law on Encode, walked. -/
import Derived.Test.YtbboakdfnjjddaaBd18
import Derived.Test.YtbboakdfnjjddaaBd14
import Derived.Test.YtbboakdfnjjddaaBd21
namespace Go.Proofs.Ytbboakdfnjjddaa
open Go.RowKit
set_option linter.unusedVariables false
set_option linter.unusedSimpArgs false
set_option maxRecDepth 100000

theorem SegOut.same {cs syms cs2 syms2 : List Int} {L : List (List Int)} {a b : List Int} (ha : SegOut cs syms cs2 syms2 L a) (hb : SegOut cs syms cs2 syms2 L b) : a = b := by
  by_cases h : eEnc cs syms cs2 syms2 L = 0
  · obtain ⟨ra, rfl, ba, p, hp, ea⟩ := ha.2 h
    obtain ⟨rb, rfl, bb, q, hq, eb⟩ := hb.2 h
    have h1 := congrArg List.length ea
    have h2 := congrArg List.length eb
    simp [unpack_length] at h1 h2
    have : p = q := by omega
    subst this
    rw [unpack_inj ba bb (ea.trans eb.symm)]
  · rw [ha.1 h, hb.1 h]
theorem bad_tab (A : Option Addr) : tabV cs0 A 1 1 = .agg #[.int .i64 0, .int .i64 0, .int .i64 0, .int .i64 0, .int .i64 0, .int .i64 0, .int .i64 0, .int .i64 0, .int .i64 0, .int .i64 0, .int .i64 0, .int .i64 0, .int .i64 0, .int .i64 0, .int .i64 0, .int .i64 0, .slice A 1 1] := rfl
theorem bad_tabs (A : Option Addr) : tabsV cs0 A 1 1 cs0 none 0 0 = .agg #[.int .i64 0, .int .i64 0, .int .i64 0, .int .i64 0, .int .i64 0, .int .i64 0, .int .i64 0, .int .i64 0, .int .i64 0, .int .i64 0, .int .i64 0, .int .i64 0, .int .i64 0, .int .i64 0, .int .i64 0, .int .i64 0, .slice A 1 1, .int .i64 0, .int .i64 0, .int .i64 0, .int .i64 0, .int .i64 0, .int .i64 0, .int .i64 0, .int .i64 0, .int .i64 0, .int .i64 0, .int .i64 0, .int .i64 0, .int .i64 0, .int .i64 0, .int .i64 0, .int .i64 0, .slice none 0 0] := rfl
/-- Encode under tables that may not be. -/
theorem bad_enc : eEnc cs0 [1] cs0 [] [] = 4 := by rw [eEnc_one (by rw [check0]; decide)]; exact check0
set_option maxRecDepth 100000 in
theorem badEnc_any (A : Option Addr) (w : World) (hs : Seen w w.heap.size A (ints .i64 [1])) :
    Calls Try.prog 13 #[tabsV cs0 A 1 1 cs0 none 0 0, .slice none 0 0] w fun e w' => ∃ A2 n2 c2, e = .returned (.tuple #[.slice A2 n2 c2, .int .i64 4]) ∧ Below w.heap.size w w' := by
  refine (segEncode_any cs0 [1] A 1 cs0 [] none 0 w.heap.size [] none 0 w rfl (by unfold maxLen; decide) cs0_b hs rfl (by unfold maxLen; decide) cs0_b (.inl rfl) (by intro r hr; cases hr) (by unfold maxLen; decide) (.inl rfl) (Nat.le_refl _)).mono ?_
  rintro e w' ⟨v, out, rfl, HO, _, hb⟩
  obtain ⟨A2, c2, hv, _⟩ := HO.seen (List.mem_cons_self ..)
  rw [bad_enc]
  exact ⟨A2, _, c2, by rw [show v = _ from hv], hb⟩

set_option maxRecDepth 100000 in
set_option maxHeartbeats 4000000 in
theorem segEncodes_walk (cs : List Int) (A : Option Addr) (c : Nat) (syms : List Int) (cs2 : List Int) (A2 : Option Addr) (c2 : Nat) (syms2 : List Int) (A3 : Option Addr) (c3 : Nat) (L : List (List Int)) (w : World)
    (hcs : cs.length = 16) (hb : ∀ x ∈ cs, -9223372036854775808 ≤ x ∧ x ≤ 9223372036854775807) (hs : Seen w w.heap.size A (ints .i64 syms)) (hn : syms.length ≤ maxLen) (hcap : syms.length ≤ c)
    (hcs2 : cs2.length = 16) (hb2 : ∀ x ∈ cs2, -9223372036854775808 ≤ x ∧ x ≤ 9223372036854775807) (hs2 : Seen w w.heap.size A2 (ints .i64 syms2)) (hn2 : syms2.length ≤ maxLen) (hcap2 : syms2.length ≤ c2)
    (hs3 : Seen w w.heap.size A3 (rowsC L)) (hl : ∀ r ∈ L, r.length = 64) (hm : L.length ≤ maxLen) :
    Calls Try.prog 4 #[tabsV cs A syms.length c cs2 A2 syms2.length c2, .slice A3 L.length c3] w fun e w' => e = .returned (.bool true) ∧ Below w.heap.size w w' := by
  have h34 : (tabsCells cs A syms.length c cs2 A2 syms2.length c2).length = 34 := by unfold tabsCells; rw [List.length_append, tabCells_length hcs, tabCells_length hcs2]
  have H1 := veil (fun W h1 h2 h3 hG => segEncode_any cs syms A c cs2 syms2 A2 c2 w.heap.size L A3 c3 W hcs hn hb h1 hcs2 hn2 hb2 h2 hl hm h3 hG)
  have H2 := veil (fun W h1 h2 h3 hG => refSegEncode_any cs syms A c cs2 syms2 A2 c2 w.heap.size L A3 c3 W hcs hn hcap hb h1 hcs2 hn2 hcap2 hb2 h2 hl hm h3 hG)
  have HBd := veil badEnc_any
  have hb0 := below1 w (.cells (tabsCells cs A syms.length c cs2 A2 syms2.length c2).toArray 36)
  have hz0 : (w.alloc (.cells (tabsCells cs A syms.length c cs2 A2 syms2.length c2).toArray 36)).heap.size = w.heap.size + 1 := by simp
  have hr := range_new w (tabsCells cs A syms.length c cs2 A2 syms2.length c2) 36
  have Hs := veil hs; have Hs2 := veil hs2; have Hs3 := veil hs3
  have H34 := veil h34
  clear h34 hcs hcs2 hb hb2 hl hm hn hn2 hcap hcap2 hs hs2 hs3
  obtain ⟨E, hE⟩ : ∃ E, E = eEnc cs syms cs2 syms2 L := ⟨_, rfl⟩
  rw [← hE] at H1 H2
  clear hE
  unfold tabsV at H1 H2 ⊢
  generalize tabsCells cs A syms.length c cs2 A2 syms2.length c2 = zs at *
  go_enter Try.func4, Try.ntmps4
  go_wp2_with (first
    | (refine wpList_load_mid rfl 36 (.tmp 2) rfl w.heap.size 0 rfl zs _ hr Try.underlying36 rfl (by rw [H34.out]; kernel_rfl) ?_)
    | fail)
  refine (H1.out _ (Hs.out.below hb0 (Nat.le_refl _)) (Hs2.out.below hb0 (Nat.le_refl _)) (Hs3.out.below hb0 (Nat.le_refl _)) (by omega)).mono ?_
  rintro e w1 ⟨v1, out1, rfl, HO1, hS1, hb1⟩
  obtain ⟨A4, c4, hv4, hs4, hc4, hm4⟩ := HO1.seen (List.mem_cons_self ..)
  obtain rfl : v1 = .slice A4 out1.length c4 := hv4
  have hr1 := range_below hr hb1 (by omega)
  have hbw1 := hb0.trans (hb1.mono (by omega))
  have hz1 := hb1.size
  rw [hz0] at hz1
  have HS1 := veil hS1
  have Hs4 := veil hs4
  clear hr hb0 hb1 H1 HO1 hS1 hs4
  go_wp2_with (first
    | (refine wpList_load_mid rfl 36 (.tmp 2) rfl w.heap.size 0 rfl zs _ hr1 Try.underlying36 rfl (by rw [H34.out]; kernel_rfl) ?_)
    | fail)
  refine (H2.out _ (Hs.out.below hbw1 (Nat.le_refl _)) (Hs2.out.below hbw1 (Nat.le_refl _)) (Hs3.out.below hbw1 (Nat.le_refl _)) (by omega)).mono ?_
  rintro e w2 ⟨v2, out2, rfl, HO2, hS2, hb2⟩
  obtain rfl := HS1.out.same hS2
  obtain ⟨A5, c5, hv5, hs5, hc5, hm5⟩ := HO2.seen (List.mem_cons_self ..)
  obtain rfl : v2 = .slice A5 out1.length c5 := hv5
  have hbw2 := hbw1.trans (hb2.mono (by omega))
  have hz2 := hb2.size
  have hs4b := (Hs4.out.below hb2 (Nat.le_refl _))
  have hl1 : out1.length ≤ maxLen := Nat.le_trans hc5 hm5
  have Hs4b := veil hs4b
  have Hs5 := veil hs5
  clear hr1 hbw1 hb2 H2 HO2 hs5 hs4b Hs4 HS1 hS2
  go_wp2_with fail
  refine (bad_any _).mono ?_
  rintro e w3 ⟨A7, rfl, hs7, hb3⟩
  have hz3 := hb3.size
  have hbw3 := hbw2.trans (hb3.mono (by omega))
  have hB7 := HBd.out A7 w3 hs7
  have Hs4c := veil (Hs4b.out.below hb3 hz2)
  have Hs5c := veil (Hs5.out.below hb3 (Nat.le_refl _))
  have Hb7 := veil hB7
  clear hB7 hs7 hb3 hbw2 Hs4b Hs5
  rw [bad_tab A7]
  rw [bad_tabs A7] at Hb7
  go_wp2_with fail
  refine (Hb7.out).mono ?_
  rintro e w6 ⟨A8, n8, c8, rfl, hb6⟩
  have hz6 := hb6.size
  have hbw6 := hbw3.trans (hb6.mono (by omega))
  have hEq := eqByte A4 A5 c4 c5 w3.heap.size out1 out1 w6 ((Hs4c.out.below hb6 (by omega)).up (by omega)) ((Hs5c.out.below hb6 (by omega)).up (by omega)) hl1 hl1
  rw [decide_eq_true (rfl : out1 = out1)] at hEq
  have HEq := veil hEq
  clear hEq hb6 hbw3 Hs4c Hs5c Hb7
  go_wp2_with fail
  refine HEq.out.mono ?_
  rintro e w7 ⟨rfl, rfl⟩
  go_wp2
  go_ret
  exact ⟨rfl, hbw6⟩
end Go.Proofs.Ytbboakdfnjjddaa
