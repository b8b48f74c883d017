/- The law on files there and back, walked over the contracts. -/
import Derived.Test.YtmdjhbkpekepgaaBd3
import Derived.Deep.Cut
import Derived.Deep.DeepCutAuto
namespace Go.Proofs.Ytmdjhbkpekepgaa
open Go.RowKit
set_option linter.unusedVariables false
set_option linter.unusedSimpArgs false
set_option maxRecDepth 100000

theorem eParse_none {bs : List Int} (h : eParse bs ≠ 0) : oParse bs = noF := by unfold oParse; rw [if_neg h]
set_option maxRecDepth 100000 in
set_option maxHeartbeats 8000000 in
theorem fileBack_by (HK : FCheckSpec) (HP : FPackSpec) (HS : FParseSpec) (f : FileL) (A : Option Addr) (c : Nat) (A2 : Option Addr) (c2 : Nat) (A3 : Option Addr) (c3 : Nat) (B : Option Addr) (cb : Nat) (bs : List Int) (w : World) (hf : FileIn f A c A2 c2 A3 c3 w.heap.size w)
    (hs : Seen w w.heap.size B (ints .u8 bs)) (hby : Bytes bs) (hl : bs.length ≤ maxLen) (hcap : bs.length ≤ cb) :
    Calls Try.prog 6 #[fileV f A c A2 c2 A3 c3, .slice B bs.length cb] w fun e w' => e = .returned (.bool true) ∧ Below w.heap.size w w' := by
  have hzv := run_zero_file
  have hb0 := below1 w (.cells (fileCells f A c A2 c2 A3 c3).toArray 32)
  have hz0 : (w.alloc (.cells (fileCells f A c A2 c2 A3 c3).toArray 32)).heap.size = w.heap.size + 1 := by simp
  have hr := range_new w (fileCells f A c A2 c2 A3 c3) 32
  have Hlen := veil (fileCells_length hf.form A c A2 c2 A3 c3)
  have H1 := veil (fun W (h : FileIn f A c A2 c2 A3 c3 w.heap.size W) hG => HP f A c A2 c2 A3 c3 w.heap.size W h hG)
  have H2 := veil (fun W (h : FileIn f A c A2 c2 A3 c3 w.heap.size W) hG => HK f A c A2 c2 A3 c3 w.heap.size W h hG)
  have H3 := veil (fun O A c G W h1 h2 h3 h4 h5 => HS O A c G W h1 h2 h3 h4 h5)
  have H4 := veil (fun g A c A2 c2 A3 c3 G W h hG => HP g A c A2 c2 A3 c3 G W h hG)
  have HFd := veil (filed_any HP (w.alloc (.cells (fileCells f A c A2 c2 A3 c3).toArray 32)))
  have HEq := veil (fun g B d B2 d2 B3 d3 G W (h : FileIn f A c A2 c2 A3 c3 G W) h' hG => fileEq_any f A c A2 c2 A3 c3 g B d B2 d2 B3 d3 G W h h' hG)
  have HEn := veil (fun A c A2 c2 A3 c3 G W (h : FileIn noF A c A2 c2 A3 c3 G W) hG => fileEq_any noF A c A2 c2 A3 c3 noF none 0 none 0 none 0 G W h (noF_in W G) hG)
  have hnn : sameF noF noF = true := sameF_iff.2 rfl
  have hff : sameF f f = true := sameF_iff.2 rfl
  rw [hnn] at HEn
  have Hff := veil hff
  have Hf := veil hf; have Hs := veil hs; have Hby := veil hby; have Hl := veil hl; have Hcap := veil hcap
  obtain ⟨E, hE⟩ : ∃ E, E = eFile f := ⟨_, rfl⟩
  obtain ⟨O, hO⟩ : ∃ O, O = oPack f := ⟨_, rfl⟩
  have HO1 : Hid (E = 0 → O = packF f ∧ eParse O = 0 ∧ oParse O = f ∧ Bytes O ∧ O.length ≤ 91000) := by
    show _ → _
    intro h
    have h0 : eFile f = 0 := by rw [← hE]; exact h
    have e : O = packF f := by rw [hO]; exact if_pos h0
    obtain ⟨p1, p2⟩ := parse_pack hf.form h0
    rw [e]
    exact ⟨rfl, p1, p2, packF_bytes hf.form h0 hf.bytes, by have := pack_long hf.form h0; omega⟩
  rw [← hE] at H1 H2
  rw [← hO] at H1
  clear hf hE hO HP HK HS hs hby hl hcap hnn hff
  unfold fileV at H1 H2 HEq HEn ⊢
  have Hcn : Hid (fileCells noF none 0 none 0 none 0 = noCells) := rfl
  rw [Hcn.out] at HEn
  have Hcs : Hid (∀ u ∈ fileCells f A c A2 c2 A3 c3, u.oneCell' = true) := fileCells_one
  generalize fileCells f A c A2 c2 A3 c3 = zs at *
  go_enter Try.func6, Try.ntmps6
  go_wp2_with fail
  refine HFd.out.mono ?_
  rintro e w1 ⟨rfl, hb1⟩
  have hz1 := hb1.size
  rw [hz0] at hz1
  have hr1 := range_below hr hb1 (by omega)
  have hbw1 := hb0.trans (hb1.mono (by omega))
  clear hr hb0 hb1 HFd
  go_wp2_with (first
    | (refine wpList_load_mid rfl 32 (.tmp 2) rfl w.heap.size 0 rfl zs _ hr1 Try.underlying32 rfl (info_file Hlen.out) ?_)
    | fail)
  refine (H1.out _ (Hf.out.below hbw1 (Nat.le_refl _)) (by omega)).mono ?_
  rintro e w2 ⟨v1, rfl, HO, hb2⟩
  obtain ⟨A4, c4, hv4, hs4, hc4, _⟩ := HO.seen (List.mem_cons_self ..)
  obtain rfl : v1 = .slice A4 O.length c4 := hv4
  have hs4' : Seen w2 w2.heap.size A4 (ints .u8 O) := hs4
  have Hs4 := veil hs4'
  have Hc4 : Hid (O.length ≤ c4) := hc4
  have hr2 := range_below hr1 hb2 (by omega)
  have hbw2 := hbw1.trans (hb2.mono (by omega))
  have hz2 := hb2.size
  clear hr1 hb2 H1 HO hs4 hs4' hbw1 hc4
  go_wp2_with (first
    | (refine wpList_load_mid rfl 32 (.tmp 2) rfl w.heap.size 0 rfl zs _ hr2 Try.underlying32 rfl (info_file Hlen.out) ?_)
    | fail)
  refine (H2.out _ (Hf.out.below hbw2 (Nat.le_refl _)) (by omega)).mono ?_
  rintro e w3 ⟨rfl, hb3⟩
  have hz3 := hb3.size
  have hr3 := range_below hr2 hb3 (by omega)
  have hbw3 := hbw2.trans (hb3.mono (by omega))
  have Hs43 := veil (Hs4.out.below hb3 (Nat.le_refl _))
  clear hr2 hb3 hbw2 Hs4 H2
  go_upto_if 27 with fail
  go_cut [7, 8] (fun v7 v8 wx => Hid (Below w3.heap.size w3 wx))
  case first =>
    by_cases h0 : E = 0
    · subst h0
      obtain ⟨q1, q2, q3, q4, q5⟩ := HO1.out rfl
      have hP := H3.out O A4 c4 w3.heap.size w3 (Hs43.out.up (by omega)) q4 (by unfold maxLen; omega) Hc4.out (Nat.le_refl _)
      have HP := veil hP
      have Q2 := veil q2; have Q3 := veil q3
      clear hP q1 q2 q3 q4 q5 HO1 H3 H4 HEn
      go_wp2_with fail
      refine HP.out.mono ?_
      rintro e w4 ⟨B1, d1, B2, d2, B3, d3, rfl, hF4, hb4, _⟩
      rw [Q3.out] at hF4 ⊢
      rw [Q2.out]
      have hz4 := hb4.size
      have Hl2 := veil (fileCells_length hF4.form B1 d1 B2 d2 B3 d3)
      have Ho2 := veil (fileCells_one (f := f) (A := B1) (c := d1) (A2 := B2) (c2 := d2) (A3 := B3) (c3 := d3))
      have HEq2 := veil (fun G W h h' hG => HEq.out f B1 d1 B2 d2 B3 d3 G W h h' hG)
      have HF4 := veil hF4
      unfold fileV at HEq2 ⊢
      clear HEq hF4 HP
      generalize fileCells f B1 d1 B2 d2 B3 d3 = ys at *
      have hbc := below1 w4 (.cells ys.toArray 32)
      have hzc : (w4.alloc (.cells ys.toArray 32)).heap.size = w4.heap.size + 1 := by simp
      have hrc := range_new w4 ys 32
      have hr4 := range_below (range_below hr3 hb4 (by omega)) hbc (by omega)
      have hbwc := (hbw3.trans (hb4.mono (by omega))).trans (hbc.mono (by omega))
      have hb34 := hb4.trans (hbc.mono (by omega))
      have HQ := veil (HEq2.out w4.heap.size (w4.alloc (.cells ys.toArray 32)) ((Hf.out.below hbwc (Nat.le_refl _)).up (by omega)) (HF4.out.below hbc (Nat.le_refl _)) (by rw [hzc]; omega))
      rw [Hff.out] at HQ
      have Hb34 := veil hb34
      clear HEq2 hb4 hbc HF4 hbwc hb34
      go_wp2_with (first
        | (refine wpList_store_new w4 rfl 32 (.tmp 7) (.tmp 31) rfl noCells.toArray ys rfl rfl (info_file Hl2.out) (by rw [Hl2.out]; simp [noCells_length]) Ho2.out ?_)
        | (refine wpList_load_late 32 (.tmp 2) rfl (by kernel_rfl) w.heap.size 0 rfl zs _ hr4 Try.underlying32 rfl (info_file Hlen.out) ?_)
        | (refine wpList_load_late 32 (.tmp 7) rfl (by kernel_rfl) w4.heap.size 0 rfl ys _ hrc Try.underlying32 rfl (info_file Hl2.out) ?_)
        | fail)
      refine HQ.out.mono ?_
      rintro e w5 ⟨rfl, hb5⟩
      have hfin := veil (Hb34.out.trans (hb5.mono (by omega)))
      clear HQ hr4 hrc hb5
      go_wp2_with fail
      go_meet
      case rel => exact hfin
    · have hne : (E == 0) = false := by simpa using h0
      clear h0
      go_wp2_with fail
      go_meet
      case rel => exact veil (Below.refl _ _)
  case rest =>
    have hz4 := hcut.out.size
    have hbw4 := hbw3.trans (hcut.out.mono (by omega))
    have HP := veil (H3.out bs B cb w.heap.size wc (Hs.out.below hbw4 (Nat.le_refl _)) Hby.out Hl.out Hcap.out (by omega))
    obtain ⟨P, hP⟩ : ∃ P, P = eParse bs := ⟨_, rfl⟩
    obtain ⟨y, hy⟩ : ∃ y, y = oParse bs := ⟨_, rfl⟩
    have HPo : Hid (P = 0 → eFile y = 0 ∧ oPack y = bs) := by
      show _ → _
      intro h
      obtain ⟨p1, p2⟩ := parse_again (by rw [← hP]; exact h)
      rw [hy]
      exact ⟨p1, by unfold oPack; rw [if_pos p1]; exact p2⟩
    have HPn : Hid (P ≠ 0 → y = noF) := by
      show _ → _
      intro h; rw [hy]; exact eParse_none (by rw [← hP]; exact h)
    have HPe := veil hP
    have Hye := veil hy
    clear hP hy H3 HO1 Hs43 Hc4 HEq hr3 Hff Hcs
    go_wp2_with fail
    refine HP.out.mono ?_
    rintro e w5 ⟨B1, d1, B2, d2, B3, d3, rfl, hF5, hb5, _⟩
    rw [← Hye.out] at hF5 ⊢
    rw [← HPe.out]
    have hz5 := hb5.size
    have Hl2 := veil (fileCells_length hF5.form B1 d1 B2 d2 B3 d3)
    have Ho2 := veil (fileCells_one (f := y) (A := B1) (c := d1) (A2 := B2) (c2 := d2) (A3 := B3) (c3 := d3))
    have HF5 := veil hF5
    have H4y := veil (fun G W h hG => H4.out y B1 d1 B2 d2 B3 d3 G W h hG)
    have HEny : Hid (y = noF → ∀ G W, FileIn noF B1 d1 B2 d2 B3 d3 G W → G ≤ W.heap.size → Calls Try.prog 16 #[fileV y B1 d1 B2 d2 B3 d3, .agg noCells.toArray] W fun e w' => e = .returned (.bool true) ∧ Below W.heap.size W w') := by
      show _ → _
      intro hn G W h hG
      rw [hn]
      exact HEn.out B1 d1 B2 d2 B3 d3 G W h hG
    unfold fileV at H4y HEny ⊢
    clear H4 HEn hF5 HP
    generalize fileCells y B1 d1 B2 d2 B3 d3 = ys at *
    have hbc := below1 w5 (.cells ys.toArray 32)
    have hzc : (w5.alloc (.cells ys.toArray 32)).heap.size = w5.heap.size + 1 := by simp
    have hrc := range_new w5 ys 32
    have hbwc := (hbw4.trans (hb5.mono (by omega))).trans (hbc.mono (by omega))
    have HFc := veil (HF5.out.below hbc (Nat.le_refl _))
    have HPk := veil (H4y.out w5.heap.size (w5.alloc (.cells ys.toArray 32)) HFc.out (by rw [hzc]; omega))
    have Hbwc := veil hbwc
    clear H4y hb5 hbc HF5 hbwc hbw4 hcut
    go_wp2_with (first
      | (refine wpList_store_new w5 rfl 32 (.tmp 9) (.tmp 44) rfl noCells.toArray ys rfl rfl (info_file Hl2.out) (by rw [Hl2.out]; simp [noCells_length]) Ho2.out ?_)
      | (refine wpList_load_mid rfl 32 (.tmp 9) rfl w5.heap.size 0 rfl ys _ hrc Try.underlying32 rfl (info_file Hl2.out) ?_)
      | fail)
    refine HPk.out.mono ?_
    rintro e w6 ⟨v2, rfl, HO6, hb6⟩
    have hz6 := hb6.size
    rw [hzc] at hz6
    have hr6 := range_below hrc hb6 (by omega)
    have Hfin6 := veil (Hbwc.out.trans (hb6.mono (by omega)))
    have HF6 := veil (HFc.out.below hb6 (by omega))
    clear HPk hrc HFc Hbwc hb6
    by_cases h0 : P = 0
    · subst h0
      obtain ⟨p1, p2⟩ := HPo.out rfl
      rw [p2] at HO6
      rw [p1]
      obtain ⟨A7, c7, hv7, hs7, _, _⟩ := HO6.seen (List.mem_cons_self ..)
      obtain rfl : v2 = .slice A7 bs.length c7 := hv7
      have hs7' : Seen w6 w6.heap.size A7 (ints .u8 bs) := hs7
      have hq := eqByte A7 B c7 cb w6.heap.size bs bs w6 hs7' ((Hs.out.below Hfin6.out (Nat.le_refl _)).up (by omega)) Hl.out Hl.out
      rw [decide_eq_true (rfl : bs = bs)] at hq
      have HQ := veil hq
      clear hq hs7 hs7' HO6 HPo HPn p1 p2 HEny HF6 hr6
      go_wp2_with fail
      refine HQ.out.mono ?_
      rintro e w7 ⟨rfl, hw7⟩
      subst hw7
      go_wp2
      go_ret
      exact ⟨rfl, Hfin6.out⟩
    · have hn := HPn.out h0
      have hne : (P != 0) = true := by simpa using h0
      have HF6n : Hid (FileIn noF B1 d1 B2 d2 B3 d3 w5.heap.size w6) := by show FileIn _ _ _ _ _ _ _ _ _; rw [← hn]; exact HF6.out
      have HQ := veil (HEny.out hn w5.heap.size w6 HF6n.out (by omega))
      clear hn h0 HF6 HF6n HO6 HPo HPn HEny
      go_wp2_with (first
        | (refine wpList_load_late 32 (.tmp 9) rfl (by kernel_rfl) w5.heap.size 0 rfl ys _ hr6 Try.underlying32 rfl (info_file Hl2.out) ?_)
        | fail)
      refine HQ.out.mono ?_
      rintro e w7 ⟨rfl, hb7⟩
      have hfin := Hfin6.out.trans (hb7.mono (by omega))
      clear hb7 HQ hr6
      go_wp2
      go_ret
      exact ⟨rfl, hfin⟩
end Go.Proofs.Ytmdjhbkpekepgaa
