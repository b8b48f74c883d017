/- The law on what is mended, walked (over scan's contracts). -/
import Derived.Test.YtddkhkpdbjjboaaBd12
import Derived.Test.YtddkhkpdbjjboaaBd17
namespace Go.Proofs.Ytddkhkpdbjjboaa
open Go.RowKit
set_option linter.unusedVariables false
set_option linter.unusedSimpArgs false
set_option maxRecDepth 100000

set_option maxRecDepth 100000 in
set_option maxHeartbeats 4000000 in
theorem scanMended_by (HD : DecSpec) (HM : MendSpec) (cs : List Int) (A : Option Addr) (c : Nat) (syms : List Int) (cs2 : List Int) (A2 : Option Addr) (c2 : Nat) (syms2 : List Int) (A3 : Option Addr) (c3 : Nat) (bs : List Int) (n every : Int) (w : World)
    (hT : TabsIn cs syms A c cs2 syms2 A2 c2 w.heap.size w) (hs3 : Seen w w.heap.size A3 (ints .u8 bs)) (hby : Bytes bs) (hbl : bs.length ≤ 1048576) (hcap3 : bs.length ≤ c3) :
    Calls Try.prog 4 #[tabsV cs A syms.length c cs2 A2 syms2.length c2, .slice A3 bs.length c3, .int .i64 n, .int .i64 every] w fun e w' => e = .returned (.bool true) ∧ Below w.heap.size w w' := by
  have h34 := tabs34 (syms := syms) (A := A) (c := c) (syms2 := syms2) (A2 := A2) (c2 := c2) hT.len hT.len2
  have H1 := veil (fun W (t : TabsIn cs syms A c cs2 syms2 A2 c2 w.heap.size W) h3 hG => HD cs syms A c cs2 syms2 A2 c2 w.heap.size bs A3 c3 n every W t hby hbl hcap3 h3 hG)
  have H2 := veil (fun W (t : TabsIn cs syms A c cs2 syms2 A2 c2 w.heap.size W) h3 hG => HM cs syms A c cs2 syms2 A2 c2 w.heap.size bs A3 c3 n every W t hby hbl hcap3 h3 hG)
  have HBl := veil blocked_any
  have hb0 := below1 w (.cells (tabsCells cs A syms.length c cs2 A2 syms2.length c2).toArray 27)
  have hz0 : (w.alloc (.cells (tabsCells cs A syms.length c cs2 A2 syms2.length c2).toArray 27)).heap.size = w.heap.size + 1 := by simp
  have hr := range_new w (tabsCells cs A syms.length c cs2 A2 syms2.length c2) 27
  have HO64 : Hid ((∀ r ∈ oMend cs syms cs2 syms2 bs n every, r.length = 64) ∧ (oMend cs syms cs2 syms2 bs n every).length ≤ 1000000 ∧ (bMend cs syms cs2 syms2 bs n every).length ≤ 1000000) := oMend_rows hT.len hT.len2 hby n every
  have HQ1 := veil (fun (h : eHead cs syms cs2 syms2 bs n every ≠ 0) => eScD_head h)
  have HQ2 := veil (fun (h : eHead cs syms cs2 syms2 bs n every ≠ 0) => oMend_err h)
  have HQ3 := veil (fun (h0 : eHead cs syms cs2 syms2 bs n every = 0) h => mended_ok (cs := cs) (syms := syms) (cs2 := cs2) (syms2 := syms2) (bs := bs) h0 h)
  have HQ4 := veil (fun (h0 : eHead cs syms cs2 syms2 bs n every = 0) h => mended_bad (cs := cs) (syms := syms) (cs2 := cs2) (syms2 := syms2) (bs := bs) h0 h)
  have HT := veil hT; have Hs3 := veil hs3
  have H34 := veil h34
  obtain ⟨E, hE⟩ : ∃ E, E = eScD cs syms cs2 syms2 bs n every := ⟨_, rfl⟩
  obtain ⟨O, hO⟩ : ∃ O, O = oScD cs syms cs2 syms2 bs n every := ⟨_, rfl⟩
  obtain ⟨F, hF⟩ : ∃ F, F = eHead cs syms cs2 syms2 bs n every := ⟨_, rfl⟩
  obtain ⟨M, hM⟩ : ∃ M, M = oMend cs syms cs2 syms2 bs n every := ⟨_, rfl⟩
  obtain ⟨Bd, hBd⟩ : ∃ Bd, Bd = bMend cs syms cs2 syms2 bs n every := ⟨_, rfl⟩
  rw [← hE, ← hO] at H1
  rw [← hF, ← hM, ← hBd] at H2
  rw [← hM, ← hBd] at HO64
  rw [← hE, ← hF] at HQ1
  rw [← hF, ← hM, ← hBd] at HQ2
  rw [← hF, ← hE, ← hM, ← hBd, ← hO] at HQ3
  rw [← hF, ← hE, ← hBd] at HQ4
  clear h34 hT hs3 hby hbl hcap3 hE hO hF hM hBd HD HM
  unfold tabsV at H1 H2 ⊢
  generalize tabsCells cs A syms.length c cs2 A2 syms2.length c2 = zs at *
  go_enter Try.func4, Try.ntmps4
  go_wp2_with fail
  refine (HBl.out _).mono ?_
  rintro e w0 ⟨rfl, hbB⟩
  have hr0 := range_below hr hbB (by omega)
  have hbw0 := hb0.trans (hbB.mono (by omega))
  have hzB := hbB.size
  rw [hz0] at hzB
  clear hr hb0 hbB HBl
  go_wp2_with (first
    | (refine wpList_load_mid rfl 27 (.tmp 4) rfl w.heap.size 0 rfl zs _ hr0 Try.underlying27 rfl (by rw [H34.out]; kernel_rfl) ?_)
    | fail)
  refine (H1.out _ (HT.out.below hbw0 (Nat.le_refl _)) (Hs3.out.below hbw0 (Nat.le_refl _)) (by omega)).mono ?_
  rintro e w1 ⟨v1, rfl, HO1, hb1⟩
  obtain ⟨A4, c4, hv4, hs4, hc4, hm4⟩ := HO1.seen (List.mem_cons_self ..)
  obtain rfl : v1 = .slice A4 O.length c4 := hv4
  have hs4' : Seen w1 w1.heap.size A4 (rowsC O) := hs4
  have hr1 := range_below hr0 hb1 (by omega)
  have hbw1 := hbw0.trans (hb1.mono (by omega))
  have hz1 := hb1.size
  have Hs4 := veil hs4'
  clear hr0 hbw0 hb1 H1 HO1 hs4 hs4'
  go_wp2_with (first
    | (refine wpList_load_mid rfl 27 (.tmp 4) rfl w.heap.size 0 rfl zs _ hr1 Try.underlying27 rfl (by rw [H34.out]; kernel_rfl) ?_)
    | fail)
  refine (H2.out _ (HT.out.below hbw1 (Nat.le_refl _)) (Hs3.out.below hbw1 (Nat.le_refl _)) (by omega)).mono ?_
  rintro e w2 ⟨v2, u2, rfl, HO2, hb2⟩
  obtain ⟨A5, c5, hv5, hs5, hc5, hm5⟩ := HO2.seen (List.mem_cons_self ..)
  obtain rfl : v2 = .slice A5 M.length c5 := hv5
  obtain ⟨A7, c7, hv7, hs7, _, _⟩ := HO2.seen (List.mem_cons_of_mem _ (List.mem_cons_self ..))
  obtain rfl : u2 = .slice A7 Bd.length c7 := hv7
  have hs5' : Seen w2 w2.heap.size A5 (rowsC M) := hs5
  have hbw2 := hbw1.trans (hb2.mono (by omega))
  have hz2 := hb2.size
  have hs4b := (Hs4.out.below hb2 (Nat.le_refl _)).up hz2
  clear hr1 hb2 H2 HO2 hs5 hs7 Hs4 hbw1
  by_cases hf : F = 0
  · subst hf
    by_cases he : E = 0
    · obtain ⟨rfl, rfl⟩ := HQ3.out rfl he
      subst he
      have hEq := eqBlk A4 A5 c4 c5 w2.heap.size M M w2 hs4b hs5' HO64.out.1 HO64.out.1 (Nat.le_refl _) HO64.out.2.1 HO64.out.2.1
      rw [decide_eq_true (rfl : M = M)] at hEq
      have HEq := veil hEq
      clear hEq hs4b hs5' HQ1 HQ2 HQ3 HQ4
      go_wp2_with fail
      refine HEq.out.mono ?_
      rintro e w7 ⟨rfl, hb7⟩
      have hbw7 := hbw2.trans (hb7.mono hbw2.size)
      go_wp2
      go_ret
      exact ⟨rfl, hbw7⟩
    · have hq := HQ4.out rfl he
      have hbe : (E == 0) = false := by simpa using he
      clear hs4b hs5' HQ1 HQ2 HQ3 HQ4
      by_cases hbp : 0 < Bd.length
      · have hbz : (0 : Int) < (Bd.length : Int) := by omega
        clear hq he
        go_wp2_with fail
        all_goals (go_ret; exact ⟨rfl, hbw2⟩)
      · have hbz : ¬ (0 : Int) < (Bd.length : Int) := by omega
        rcases hq with h | h | h
        · exact absurd h hbp
        · subst h
          clear he
          go_wp2_with fail
          all_goals (go_ret; exact ⟨rfl, hbw2⟩)
        · subst h
          clear he
          go_wp2_with fail
          all_goals (go_ret; exact ⟨rfl, hbw2⟩)
  · obtain ⟨rfl, rfl⟩ := HQ2.out hf
    obtain rfl := HQ1.out hf
    have hne : (E != 0) = true := by simpa using hf
    clear hs4b hs5' HQ1 HQ2 HQ3 HQ4 hf
    go_wp2_with fail
    go_ret
    exact ⟨rfl, hbw2⟩
end Go.Proofs.Ytddkhkpdbjjboaa
