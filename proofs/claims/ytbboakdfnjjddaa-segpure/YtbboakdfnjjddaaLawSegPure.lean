/- The law on what Encode makes, walked: it has no markers, and Plain takes it. -/
import Derived.Test.YtbboakdfnjjddaaBd16
import Derived.Test.YtbboakdfnjjddaaBd18
import Derived.Test.YtbboakdfnjjddaaBd14
namespace Go.Proofs.Ytbboakdfnjjddaa
open Go.RowKit
set_option linter.unusedVariables false
set_option linter.unusedSimpArgs false
set_option maxRecDepth 100000

theorem stuff1_by {x : Int} (h : 0 ≤ x ∧ x ≤ 255) : ∀ y ∈ stuff1 x, 0 ≤ y ∧ y ≤ 255 := by
  intro y hy
  unfold stuff1 at hy
  split at hy
  · simp at hy; omega
  · simp at hy; omega
theorem stuffB_by {bs : List Int} (h : ∀ x ∈ bs, 0 ≤ x ∧ x ≤ 255) : ∀ y ∈ stuffB bs, 0 ≤ y ∧ y ≤ 255 := by
  intro y hy
  obtain ⟨x, hx, hy⟩ := List.mem_flatMap.1 hy
  exact stuff1_by (h x hx) y hy
theorem split_stuffed (raw : List Int) : splitErr (stuffB raw) = 0 ∧ splitM (stuffB raw) = [] := by
  have h := split_some (splitR_stuffB raw [])
  exact ⟨h.2.2, h.2.1⟩
theorem plain_stuffed (raw : List Int) : plainErr (stuffB raw) = 0 := (plain_some (plainR_stuffB raw)).2
theorem eEnc_none {cs syms cs2 syms2 : List Int} {L : List (List Int)} (h : eEnc cs syms cs2 syms2 L = 0) : checkErr cs syms = 0 ∧ checkErr cs2 syms2 = 0 ∧ eL L = 0 := by
  by_cases h1 : checkErr cs syms = 0
  · by_cases h2 : checkErr cs2 syms2 = 0
    · by_cases h3 : eL L = 0
      · exact ⟨h1, h2, h3⟩
      · rw [eEnc_blk h1 h2 h3] at h; exact absurd h h3
    · rw [eEnc_two h1 h2] at h; exact absurd h h2
  · rw [eEnc_one h1] at h; exact absurd h h1
theorem segOut_raw {cs syms cs2 syms2 out : List Int} {L : List (List Int)} (hcs : cs.length = 16) (hcs2 : cs2.length = 16) (hl : ∀ r ∈ L, r.length = 64) (h : SegOut cs syms cs2 syms2 L out) (h0 : eEnc cs syms cs2 syms2 L = 0) : ∃ raw, out = stuffB raw ∧ Bytes raw ∧ raw.length ≤ 125001 := by
  obtain ⟨h1, h2, h3⟩ := eEnc_none h0
  obtain ⟨raw, rfl, hb, p, hp, hu⟩ := h.2 h0
  refine ⟨raw, rfl, hb, ?_⟩
  obtain ⟨h400, hin⟩ := eL_zero h3
  have h5 := segBits_len (words_pf2 hcs h1) (words_pf2 hcs2 h2) (toksB 0 L) (toksB_good L 0 hl hin (by omega))
  have h6 := toksB_len L 0
  have h7 := congrArg List.length hu
  rw [unpack_length, List.length_append, List.length_replicate] at h7
  omega
set_option maxRecDepth 100000 in
set_option maxHeartbeats 4000000 in
theorem segPure_walk (cs : List Int) (A : Option Addr) (c : Nat) (syms : List Int) (cs2 : List Int) (A2 : Option Addr) (c2 : Nat) (syms2 : List Int) (A3 : Option Addr) (c3 : Nat) (L : List (List Int)) (w : World)
    (hcs : cs.length = 16) (hb : ∀ x ∈ cs, -9223372036854775808 ≤ x ∧ x ≤ 9223372036854775807) (hs : Seen w w.heap.size A (ints .i64 syms)) (hn : syms.length ≤ maxLen) (hcap : syms.length ≤ c)
    (hcs2 : cs2.length = 16) (hb2 : ∀ x ∈ cs2, -9223372036854775808 ≤ x ∧ x ≤ 9223372036854775807) (hs2 : Seen w w.heap.size A2 (ints .i64 syms2)) (hn2 : syms2.length ≤ maxLen) (hcap2 : syms2.length ≤ c2)
    (hs3 : Seen w w.heap.size A3 (rowsC L)) (hl : ∀ r ∈ L, r.length = 64) (hm : L.length ≤ maxLen) :
    Calls Try.prog 6 #[tabsV cs A syms.length c cs2 A2 syms2.length c2, .slice A3 L.length c3] w fun e w' => e = .returned (.bool true) ∧ Below w.heap.size w w' := by
  have h34 : (tabsCells cs A syms.length c cs2 A2 syms2.length c2).length = 34 := by unfold tabsCells; rw [List.length_append, tabCells_length hcs, tabCells_length hcs2]
  have H1 := veil (fun W h1 h2 h3 hG => segEncode_any cs syms A c cs2 syms2 A2 c2 w.heap.size L A3 c3 W hcs hn hb h1 hcs2 hn2 hb2 h2 hl hm h3 hG)
  have hb0 := below1 w (.cells (tabsCells cs A syms.length c cs2 A2 syms2.length c2).toArray 36)
  have hz0 : (w.alloc (.cells (tabsCells cs A syms.length c cs2 A2 syms2.length c2).toArray 36)).heap.size = w.heap.size + 1 := by simp
  have hr := range_new w (tabsCells cs A syms.length c cs2 A2 syms2.length c2) 36
  have Hs := veil hs; have Hs2 := veil hs2; have Hs3 := veil hs3
  have H34 := veil h34
  have HBl := veil blocked_any
  have HE1 := veil (fun out (h : SegOut cs syms cs2 syms2 L out) (h0 : eEnc cs syms cs2 syms2 L ≠ 0) => h.1 h0)
  have HE2 := veil (fun out (h : SegOut cs syms cs2 syms2 L out) (h0 : eEnc cs syms cs2 syms2 L = 0) => segOut_raw hcs hcs2 hl h h0)
  clear h34 hcs hcs2 hb hb2 hl hm hn hn2 hcap hcap2 hs hs2 hs3
  obtain ⟨E, hE⟩ : ∃ E, E = eEnc cs syms cs2 syms2 L := ⟨_, rfl⟩
  rw [← hE] at H1 HE1 HE2
  clear hE
  unfold tabsV at H1 ⊢
  generalize tabsCells cs A syms.length c cs2 A2 syms2.length c2 = zs at *
  go_enter Try.func6, Try.ntmps6
  go_wp2_with fail
  refine (HBl.out _).mono ?_
  rintro e w0 ⟨rfl, hbB⟩
  have hr0 := range_below hr hbB (by omega)
  have hbw0 := hb0.trans (hbB.mono (by omega))
  have hzB := hbB.size
  rw [hz0] at hzB
  clear hr hb0 hbB HBl
  go_wp2_with (first
    | (refine wpList_load_mid rfl 36 (.tmp 2) rfl w.heap.size 0 rfl zs _ hr0 Try.underlying36 rfl (by rw [H34.out]; kernel_rfl) ?_)
    | fail)
  refine (H1.out _ (Hs.out.below hbw0 (Nat.le_refl _)) (Hs2.out.below hbw0 (Nat.le_refl _)) (Hs3.out.below hbw0 (Nat.le_refl _)) (by omega)).mono ?_
  rintro e w1 ⟨v1, out, rfl, HO1, hS1, hb1⟩
  obtain ⟨A4, c4, hv4, hs4, hc4, hm4⟩ := HO1.seen (List.mem_cons_self ..)
  obtain rfl : v1 = .slice A4 out.length c4 := hv4
  have hbw1 := hbw0.trans (hb1.mono (by omega))
  have hz1 := hb1.size
  by_cases h0 : E = 0
  · obtain ⟨raw, hraw, hby, hrl⟩ := HE2.out out hS1 h0
    have hsl := stuffB_length_le raw
    have hol : out.length ≤ 250002 := by rw [hraw]; omega
    have hby2 : ∀ x ∈ out, 0 ≤ x ∧ x ≤ 255 := by rw [hraw]; exact stuffB_by hby
    have e1 : splitErr out = 0 ∧ splitM out = [] := by rw [hraw]; exact split_stuffed raw
    have e2 : plainErr out = 0 := by rw [hraw]; exact plain_stuffed raw
    have HSp := veil (split_any A4 c4 w1.heap.size out w1 hs4 (Nat.le_refl _) (by omega) hby2)
    rw [e1.1, e1.2] at HSp
    have HPl := veil (fun W h hG => plain_any A4 c4 w1.heap.size out W h hG (by omega))
    rw [e2] at HPl
    have Hs4 := veil hs4
    subst h0
    clear hr0 hbw0 hb1 H1 HO1 hS1 hs4 HE1 HE2 hraw e1 e2 hby2 hby
    go_wp2_with fail
    refine HSp.out.mono ?_
    rintro e w2 ⟨vs, v5, m5, rfl, _, HO2, hb2⟩
    obtain ⟨A6, c6, hv6, _, _, _⟩ := HO2.seen (List.mem_cons_of_mem _ (List.mem_cons_self ..))
    obtain rfl : m5 = .slice A6 0 c6 := hv6
    obtain ⟨A7, c7, hv7, _, _, _⟩ := HO2.seen (List.mem_cons_self ..)
    have hz2 := hb2.size
    have hbw2 := hbw1.trans (hb2.mono (by omega))
    have hP := HPl.out w2 (Hs4.out.below hb2 (Nat.le_refl _)) hz2
    have HP := veil hP
    clear HO2 hb2 hP HPl HSp Hs4 hbw1
    go_wp2_with fail
    refine HP.out.mono ?_
    rintro e w3 ⟨v8, rfl, _, hb3⟩
    have hbw3 := hbw2.trans (hb3.mono (by omega))
    clear hb3 hbw2
    go_wp2
    go_ret
    exact ⟨rfl, hbw3⟩
  · have ho := HE1.out out hS1 h0
    subst ho
    have hne : (E != 0) = true := by simpa using h0
    clear hr0 hbw0 hb1 H1 HO1 hS1 hs4 HE1 HE2 h0
    go_wp2_with fail
    go_ret
    exact ⟨rfl, hbw1⟩
end Go.Proofs.Ytbboakdfnjjddaa
