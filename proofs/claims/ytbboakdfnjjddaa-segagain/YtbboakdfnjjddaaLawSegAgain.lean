/- The law on encoding again what was decoded, walked. -/
import Derived.Test.YtbboakdfnjjddaaBd14
import Derived.Test.YtbboakdfnjjddaaBd16
namespace Go.Proofs.Ytbboakdfnjjddaa
open Go.RowKit
set_option linter.unusedVariables false
set_option linter.unusedSimpArgs false
set_option maxRecDepth 100000

set_option maxRecDepth 100000 in
set_option maxHeartbeats 4000000 in
theorem segAgain_walk (cs : List Int) (A : Option Addr) (c : Nat) (syms : List Int) (cs2 : List Int) (A2 : Option Addr) (c2 : Nat) (syms2 : List Int) (A3 : Option Addr) (c3 : Nat) (bs : List Int) (n : Int) (w : World)
    (hcs : cs.length = 16) (hb : ∀ x ∈ cs, -9223372036854775808 ≤ x ∧ x ≤ 9223372036854775807) (hs : Seen w w.heap.size A (ints .i64 syms)) (hn : syms.length ≤ maxLen) (hcap : syms.length ≤ c)
    (hcs2 : cs2.length = 16) (hb2 : ∀ x ∈ cs2, -9223372036854775808 ≤ x ∧ x ≤ 9223372036854775807) (hs2 : Seen w w.heap.size A2 (ints .i64 syms2)) (hn2 : syms2.length ≤ maxLen) (hcap2 : syms2.length ≤ c2)
    (hs3 : Seen w w.heap.size A3 (ints .u8 bs)) (hbw : ∀ x ∈ bs, (Lit.int .u8 x).wf = true) (hm : bs.length ≤ maxLen) (hbl : bs.length ≤ 140737488355328) (hnb : -9223372036854775808 ≤ n ∧ n ≤ 9223372036854775807) :
    Calls Try.prog 7 #[tabsV cs A syms.length c cs2 A2 syms2.length c2, .slice A3 bs.length c3, .int .i64 n] w fun e w' => e = .returned (.bool true) ∧ Below w.heap.size w w' := by
  have hby : Bytes bs := fun x hx => bounds_u8 (hbw x hx)
  clear hbw
  have h34 : (tabsCells cs A syms.length c cs2 A2 syms2.length c2).length = 34 := by unfold tabsCells; rw [List.length_append, tabCells_length hcs, tabCells_length hcs2]
  have H1 := veil (fun W h1 h2 h3 hG => segDecode_any cs syms A c cs2 syms2 A2 c2 w.heap.size bs A3 c3 n W hcs hn hb h1 hcs2 hn2 hb2 h2 h3 hby hbl hG)
  have H2 := veil (fun L A4 c4 W h1 h2 h3 hG (hl : ∀ r ∈ L, r.length = 64) (hm : L.length ≤ maxLen) => segEncode_any cs syms A c cs2 syms2 A2 c2 W.heap.size L A4 c4 W hcs hn hb h1 hcs2 hn2 hb2 h2 hl hm h3 hG)
  have hb0 := below1 w (.cells (tabsCells cs A syms.length c cs2 A2 syms2.length c2).toArray 36)
  have hz0 : (w.alloc (.cells (tabsCells cs A syms.length c cs2 A2 syms2.length c2).toArray 36)).heap.size = w.heap.size + 1 := by simp
  have hr := range_new w (tabsCells cs A syms.length c cs2 A2 syms2.length c2) 36
  have Hs := veil hs; have Hs2 := veil hs2; have Hs3 := veil hs3
  have H34 := veil h34
  have HBl := veil blocked_any
  have HE1 := veil (fun (h : eDec cs syms cs2 syms2 bs n ≠ 0) => oDec_err h)
  have HE2 := veil (fun (h : eDec cs syms cs2 syms2 bs n = 0) => again_ok hcs hcs2 hby h)
  have Hm := veil hm
  clear h34 hcs hcs2 hb hb2 hm hbl hn hn2 hcap hcap2 hs hs2 hs3 hby
  obtain ⟨E, hE⟩ : ∃ E, E = eDec cs syms cs2 syms2 bs n := ⟨_, rfl⟩
  obtain ⟨O, hO⟩ : ∃ O, O = oDec cs syms cs2 syms2 bs n := ⟨_, rfl⟩
  rw [← hE, ← hO] at H1 HE1 HE2
  clear hE hO
  unfold tabsV at H1 H2 ⊢
  generalize tabsCells cs A syms.length c cs2 A2 syms2.length c2 = zs at *
  go_enter Try.func7, Try.ntmps7
  go_wp2_with fail
  refine (HBl.out _).mono ?_
  rintro e w0 ⟨rfl, hbB⟩
  have hr0 := range_below hr hbB (by omega)
  have hbw0 := hb0.trans (hbB.mono (by omega))
  have hzB := hbB.size
  rw [hz0] at hzB
  clear hr hb0 hbB HBl
  go_wp2_with (first
    | (refine wpList_load_mid rfl 36 (.tmp 3) rfl w.heap.size 0 rfl zs _ hr0 Try.underlying36 rfl (by rw [H34.out]; kernel_rfl) ?_)
    | fail)
  refine (H1.out _ (Hs.out.below hbw0 (Nat.le_refl _)) (Hs2.out.below hbw0 (Nat.le_refl _)) (Hs3.out.below hbw0 (Nat.le_refl _)) (by omega)).mono ?_
  rintro e w1 ⟨v1, rfl, HO1, hb1⟩
  obtain ⟨A4, c4, hv4, hs4, hc4, hm4⟩ := HO1.seen (List.mem_cons_self ..)
  obtain rfl : v1 = .slice A4 O.length c4 := hv4
  have hbw1 := hbw0.trans (hb1.mono (by omega))
  have hz1 := hb1.size
  by_cases h0 : E = 0
  · obtain ⟨ol, on, n4, oe, oo⟩ := HE2.out h0
    have hr1 := range_below hr0 hb1 (by omega)
    have HC := veil (H2.out O A4 c4 w1 ((Hs.out.below hbw1 (Nat.le_refl _)).up hbw1.size) ((Hs2.out.below hbw1 (Nat.le_refl _)).up hbw1.size) hs4 (Nat.le_refl _) ol (by unfold maxLen; omega))
    rw [oe] at HC
    have Hoo := veil oo
    have Hs3b := veil ((Hs3.out.below hbw1 (Nat.le_refl _)).up hbw1.size)
    have hzw1 := hbw1.size
    subst h0
    clear hr0 hbw0 hb1 H1 H2 HO1 HE1 HE2 ol oe oo hs4
    go_wp2_with (first
      | (refine wpList_load_mid rfl 36 (.tmp 3) rfl w.heap.size 0 rfl zs _ hr1 Try.underlying36 rfl (by rw [H34.out]; kernel_rfl) ?_)
      | fail)
    refine HC.out.mono ?_
    rintro e w2 ⟨v2, out, rfl, HO2, hS2, hb2⟩
    obtain rfl := Hoo.out out hS2
    obtain ⟨A5, c5, hv5, hs5, hc5, hm5⟩ := HO2.seen (List.mem_cons_self ..)
    obtain rfl : v2 = .slice A5 out.length c5 := hv5
    have hbw2 := hbw1.trans (hb2.mono hzw1)
    have hz2 := hb2.size
    have hEq := eqByte A3 A5 c3 c5 w2.heap.size out out w2 ((Hs3b.out.below hb2 (Nat.le_refl _)).up hz2) hs5 Hm.out Hm.out
    rw [decide_eq_true (rfl : out = out)] at hEq
    have HEq := veil hEq
    clear hEq hb2 hbw1 HO2 hS2 hs5 Hs3b HC Hoo hr1
    go_wp2_with fail
    refine HEq.out.mono ?_
    rintro e w3 ⟨rfl, rfl⟩
    go_wp2_with fail
    go_ret
    exact ⟨rfl, hbw2⟩
  · have ho := HE1.out h0
    subst ho
    have hne : (E != 0) = true := by simpa using h0
    clear hr0 hbw0 hb1 H1 H2 HO1 hs4 HE1 HE2 h0
    go_wp2_with fail
    go_ret
    exact ⟨rfl, hbw1⟩
end Go.Proofs.Ytbboakdfnjjddaa
