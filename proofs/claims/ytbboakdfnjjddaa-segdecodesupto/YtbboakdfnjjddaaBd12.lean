/- Texts shared by the claims of this seat, in one. -/
import Derived.Test.YtbboakdfnjjddaaBd5
import Derived.Test.YtbboakdfnjjddaaBd7
import Derived.Test.YtbboakdfnjjddaaBd4
import Derived.Test.YtbboakdfnjjddaaBd8
import Derived.Test.YtbboakdfnjjddaaBd11
import Derived.Test.YtbboakdfnjjddaaBd1
import Derived.Test.YtbboakdfnjjddaaBd3
import Derived.Test.YtbboakdfnjjddaaBd2
import Derived.StillTailTactics
import Derived.Deep.Cut
/- The reference's SegDecode: its contract. -/
namespace Go.Proofs.Ytbboakdfnjjddaa
open Go.RowKit
set_option linter.unusedVariables false
set_option linter.unusedSimpArgs false
set_option maxRecDepth 100000

theorem eTs_parts {cs syms cs2 syms2 : List Int} (h : eTs cs syms cs2 syms2 = 0) : checkErr cs syms = 0 ∧ checkErr cs2 syms2 = 0 := by
  by_cases h1 : checkErr cs syms = 0
  · exact ⟨h1, by rw [eTs_two h1] at h; exact h⟩
  · rw [eTs_one h1] at h; exact absurd h h1
theorem enters_seg : Enters Try.prog 47 := Enters.of (Try.func47) (by decide) rfl
theorem fillB_eq (s : List Bool) : fillB s = !(decide (7 < s.length) || !(s.all id)) := by
  unfold fillB
  by_cases h : s.length < 8
  · rw [decide_eq_true h, decide_eq_false (by omega)]; simp
  · rw [decide_eq_false h, decide_eq_true (by omega)]; simp
set_option maxRecDepth 100000 in
set_option maxHeartbeats 2000000 in
theorem refSegDecode_any (cs syms : List Int) (A : Option Addr) (c : Nat) (cs2 syms2 : List Int) (A2 : Option Addr) (c2 G : Nat) (bs : List Int) (A3 : Option Addr) (c3 : Nat) (n : Int) (w : World)
    (hcs : cs.length = 16) (hn : syms.length ≤ maxLen) (hcap : syms.length ≤ c) (hb : ∀ x ∈ cs, -9223372036854775808 ≤ x ∧ x ≤ 9223372036854775807) (hs : Seen w G A (ints .i64 syms))
    (hcs2 : cs2.length = 16) (hn2 : syms2.length ≤ maxLen) (hcap2 : syms2.length ≤ c2) (hb2 : ∀ x ∈ cs2, -9223372036854775808 ≤ x ∧ x ≤ 9223372036854775807) (hs2 : Seen w G A2 (ints .i64 syms2))
    (hs3 : Seen w G A3 (ints .u8 bs)) (hby : Bytes bs) (hl : bs.length ≤ 1048576) (hG : G ≤ w.heap.size) :
    Calls Try.prog 18 #[tabsV cs A syms.length c cs2 A2 syms2.length c2, .slice A3 bs.length c3, .int .i64 n] w fun e w' => ∃ v, e = .returned (.tuple #[v, .int .i64 (eDec cs syms cs2 syms2 bs n)]) ∧ Owns w.heap.size [blkRow v (oDec cs syms cs2 syms2 bs n)] w' ∧ Below w.heap.size w w' := by
  have h17 : (tabCells cs A syms.length c).length = 17 := tabCells_length hcs
  have h17b : (tabCells cs2 A2 syms2.length c2).length = 17 := tabCells_length hcs2
  have h34 : (tabsCells cs A syms.length c cs2 A2 syms2.length c2).length = 34 := by unfold tabsCells; rw [List.length_append, h17, h17b]
  have HCk := veil (fun W h1 h2 hG => tablesCheck_any cs syms A c cs2 syms2 A2 c2 G W hcs hn hcap hb h1 hcs2 hn2 hcap2 hb2 h2 hG)
  have HPl := veil (fun W h hG => refPlain_any A3 c3 G bs W h hG (by omega))
  have hb0 := below1 w (.cells (tabsCells cs A syms.length c cs2 A2 syms2.length c2).toArray 36)
  have hz0 : (w.alloc (.cells (tabsCells cs A syms.length c cs2 A2 syms2.length c2).toArray 36)).heap.size = w.heap.size + 1 := by simp
  have hTB := Blk.new w (tabsCells cs A syms.length c cs2 A2 syms2.length c2) 36
  have hr := hTB.range
  obtain ⟨E, hE⟩ : ∃ E, E = eDec cs syms cs2 syms2 bs n := ⟨_, rfl⟩
  obtain ⟨O, hO⟩ : ∃ O, O = oDec cs syms cs2 syms2 bs n := ⟨_, rfl⟩
  rw [← hE, ← hO]
  have HOe : Hid (E ≠ 0 → O = []) := by show _ → _; intro h; rw [hO]; exact oDec_err (by rw [← hE]; exact h)
  have HE := veil hE
  have HO := veil hO
  have H34 := veil h34
  have Hby := veil hby; have Hl := veil hl; have Hcs := veil hcs; have Hcs2 := veil hcs2
  have HBk := veil (fun (N T g M : Nat) (fw rw_ : List (Int × Nat × Nat)) (hfw : fw = outWords cs syms) (hrw : rw_ = outWords cs2 syms2) (h1 : checkErr cs syms = 0) (h2 : checkErr cs2 syms2 = 0) (hM : M ≤ 140737488355328) (hTg : T < g) (hGT : G ≤ T) (before : Int) (s : List Bool) (W : World) (hb : -2047 ≤ before ∧ before ≤ 2047) (hg : g < W.heap.size) (hS : SrcD cs syms A c cs2 syms2 A2 c2 G T g M W s) =>
    refBlockOf_any (stepS fw rw_) (SrcD cs syms A c cs2 syms2 A2 c2 G T g M) 47 #[.pointer (some ⟨T, 0, none⟩), .pointer (some ⟨g, 0, none⟩)] g before s W enters_seg hb hg hS (fun W1 W2 s h hb => h.below hb (by omega) (by omega) (by omega)) (fun _ _ _ h => stepS_ne h)
      (fun first s W1 hW1 h => by
        subst hfw hrw
        cases first with
        | true => exact segNext_first cs syms A c cs2 syms2 A2 c2 G T g M s W1 hcs hcs2 h1 h2 hM (by omega) (by omega) hGT (by omega) h
        | false => exact segNext_rest cs syms A c cs2 syms2 A2 c2 G T g M s W1 hcs hcs2 h1 h2 hM (by omega) (by omega) hGT (by omega) h))
  have HSrc := veil (fun (T g M : Nat) (W : World) (s : List Bool) (a1 : Blk W T (tabsCells cs A syms.length c cs2 A2 syms2.length c2) 36) (a2 : Blk W g [.string (txt s)] 9) (a3 : Seen W G A (ints .i64 syms)) (a4 : Seen W G A2 (ints .i64 syms2)) (a5 : s.length ≤ M) => (⟨a1, a2, a3, a4, a5⟩ : SrcD cs syms A c cs2 syms2 A2 c2 G T g M W s))
  have HSb := veil (fun (T g M B : Nat) (W W' : World) (s : List Bool) (h : SrcD cs syms A c cs2 syms2 A2 c2 G T g M W s) (hb : Below B W W') (hT : T < B) (hg : g < B) (hG : G ≤ B) => h.below hb hT hg hG)
  have HSt := veil (fun (T g M : Nat) (W : World) (s : List Bool) (h : SrcD cs syms A c cs2 syms2 A2 c2 G T g M W s) => (⟨h.text, h.few⟩ : Blk W g [.string (txt s)] 9 ∧ s.length ≤ M))
  obtain ⟨R, hR⟩ : ∃ R : Nat → Nat → Nat → World → List Bool → Prop, R = fun T g M => SrcD cs syms A c cs2 syms2 A2 c2 G T g M := ⟨_, rfl⟩
  have hR' : ∀ T g M, SrcD cs syms A c cs2 syms2 A2 c2 G T g M = R T g M := fun T g M => by rw [hR]
  simp only [hR'] at HBk HSrc HSb HSt
  clear hcs hcs2 hb hb2 hby hE hO hl h17 h17b h34 hR hR' hn hn2 hcap hcap2
  unfold tabsV at HCk ⊢
  generalize tabsCells cs A syms.length c cs2 A2 syms2.length c2 = zs at *
  go_enter Try.func18, Try.ntmps18
  go_wp2_with (first
    | (refine wpList_load_mid rfl 36 (.tmp 3) rfl w.heap.size 0 rfl zs _ hr Try.underlying36 rfl (by rw [H34.out]; kernel_rfl) ?_)
    | fail)
  refine (HCk.out _ (hs.below hb0 hG) (hs2.below hb0 hG) (by rw [hz0]; omega)).mono ?_
  rintro e w1 ⟨rfl, hb1⟩
  have hTB1 := hTB.below hb1 (by rw [hz0]; omega)
  have hbw1 := hb0.trans (hb1.mono (by rw [hz0]; omega))
  have hz1 := hb1.size
  rw [hz0] at hz1
  clear hr hb0 HCk hb1 hTB
  by_cases h0 : eTs cs syms cs2 syms2 = 0
  · rw [h0]
    have HT0 : Hid (eTs cs syms cs2 syms2 = 0) := h0
    clear h0
    by_cases hrg : n < 0 ∨ 400 < n
    · have hE1 := eDec_n (bs := bs) HT0.out hrg
      rw [← HE.out] at hE1
      have hO1 := HOe.out (by rw [hE1]; decide)
      have HE1 := veil hE1
      have HO1 := veil hO1
      have HOu := veil (out_yes n 0 400 (by omega) w1)
      clear hE1 hO1 hrg
      go_wp2_with fail
      refine HOu.out.mono ?_
      rintro e w2 ⟨rfl, rfl⟩
      go_wp2
      go_ret2
      exact ⟨_, ret_two rfl (by rw [HE1.out]; rfl), by rw [HO1.out]; exact (Owns.nil hbw1.size).fresh _ _, hbw1⟩
    · have Hrg := veil hrg
      obtain ⟨N, hN, hN400⟩ : ∃ N : Nat, n = (N : Int) ∧ N ≤ 400 := ⟨n.toNat, by omega, by omega⟩
      subst hN
      have HOu := veil (out_no (N : Int) 0 400 (by omega) w1)
      have HPl1 := veil (HPl.out w1 (hs3.below hbw1 hG) (by omega))
      clear hrg HPl
      go_wp2_with fail
      refine HOu.out.mono ?_
      rintro e w2 ⟨rfl, rfl⟩
      go_wp2_with fail
      refine HPl1.out.mono ?_
      rintro e w3 ⟨v3, rfl, HO3, hb3⟩
      have hz3 := hb3.size
      have hbw3 := hbw1.trans (hb3.mono hbw1.size)
      have hTB3 := hTB1.below hb3 (by omega)
      clear HPl1 HOu hTB1
      by_cases hp : plainErr bs = 0
      · rw [hp]
        obtain ⟨P, hP, hPby, hPl⟩ : ∃ P, P = plainOut bs ∧ Bytes P ∧ P.length ≤ 1048576 := ⟨_, rfl, plain_bytes Hby.out, by
          have := plain_length bs
          have := Hl.out
          omega⟩
        rw [← hP] at HO3
        obtain ⟨Ap, cp, e3, hsp, hcp, hmp⟩ := HO3.seen (List.mem_cons_self ..)
        simp only [byteRow, intRow] at e3 hsp hcp
        subst e3
        have HDg := veil (digitsOf_any Ap cp w3.heap.size P w3 hsp hPby (Nat.le_refl _) hPl)
        obtain ⟨fw, hfw⟩ : ∃ fw, fw = outWords cs syms := ⟨_, rfl⟩
        obtain ⟨rw_, hrw⟩ : ∃ rw_, rw_ = outWords cs2 syms2 := ⟨_, rfl⟩
        have hSD : segD cs syms cs2 syms2 bs N = decS fw rw_ N 0 (unpack P) := by unfold segD; rw [hfw, hrw, hP]
        have HED : Hid ((segD cs syms cs2 syms2 bs N).1 ≠ 0 → E = (segD cs syms cs2 syms2 bs N).1) := fun h => HE.out.trans (eDec_dec HT0.out Hrg.out hp (by rw [Int.toNat_natCast]; exact h))
        have HEF : Hid ((segD cs syms cs2 syms2 bs N).1 = 0 → E = if fillB (segD cs syms cs2 syms2 bs N).2.2 = true then 0 else 4) := fun h => HE.out.trans (by rw [eDec_fill HT0.out Hrg.out hp (by rw [Int.toNat_natCast]; exact h), Int.toNat_natCast])
        have HOO : Hid (E = 0 → O = (segD cs syms cs2 syms2 bs N).2.1) := fun h => HO.out.trans (by unfold oDec; rw [if_pos (by rw [← HE.out]; exact h), Int.toNat_natCast])
        rw [hSD] at HED HEF HOO
        have HBk2 := veil (fun T g hTg hGT before s W hb hg hS => HBk.out N T g 8388608 fw rw_ hfw hrw (eTs_parts HT0.out).1 (eTs_parts HT0.out).2 (by omega) hTg hGT before s W hb hg hS)
        have HDS0 := veil (DS.start fw rw_ N (unpack P))
        have hPn := veil (show (unpack P).length ≤ 8388608 by rw [unpack_length]; omega)
        have hTB3 := veil hTB3
        clear HO3 hsp hfw hrw hSD hP hPby hp HBk HE HO
        go_wp2_with fail
        refine HDg.out.mono ?_
        rintro e w4 ⟨rfl, hb4⟩
        have hz4 := hb4.size
        have hbw4 := hbw3.trans (hb4.mono hbw3.size)
        have hTB4 := hTB3.out.below hb4 (by omega)
        have hbX := below1 w4 (.cells #[.string (txt (unpack P))] 9)
        have hXB := Blk.new w4 [.string (txt (unpack P))] 9
        have hR0 := HSrc.out w.heap.size w4.heap.size 8388608 _ (unpack P) (hTB4.below hbX (by omega)) hXB ((hs.below hbw4 hG).below hbX (by omega)) ((hs2.below hbw4 hG).below hbX (by omega)) hPn.out
        have hbw5 := hbw4.trans (hbX.mono hbw4.size)
        have HR0 := veil hR0
        obtain ⟨tx, htx⟩ : ∃ tx, tx = txt (unpack P) := ⟨_, rfl⟩
        rw [← htx] at HR0 hbw5 ⊢
        clear hR0 hXB hbX hTB4 hTB3 HDg hb4 htx hb3 hs hs2 hs3 hbw3 hbw1
        obtain ⟨g, hg⟩ : ∃ g, g = w4.heap.size := ⟨_, rfl⟩
        obtain ⟨W5, hW5⟩ : ∃ W5, W5 = w4.alloc (.cells #[.string tx] 9) := ⟨_, rfl⟩
        have hz5 : W5.heap.size = g + 1 := by rw [hW5, hg]; simp
        rw [← hW5, ← hg] at HR0
        rw [← hW5] at hbw5
        have HW5 := veil hW5; have Hg := veil hg
        have hgw : w.heap.size < g := by omega
        clear hW5 hg
        go_upto_region 10 with fail
        rw [← HW5.out, ← Hg.out]
        have hrow0 : Owns (g + 1) [blkRow (.slice none 0 0) []] W5 := (Owns.nil (by omega)).fresh _ _
        clear HW5 Hg
        go_wp2_with fail
        go_loopg [12, 13, 14, 15, 16, 35] N (fun gk v12 v13 v14 v15 v16 iv wr => ∃ (k : Nat) (acc : List (List Int)) (before : Int) (s : List Bool), gk = N - k ∧ k ≤ N ∧ iv = .int .i64 (k : Int) ∧ v13 = .int .i64 before ∧ Hid (DS fw rw_ N (unpack P) k acc before s) ∧ Hid (R w.heap.size g 8388608 wr s) ∧ Owns (g + 1) [blkRow v12 acc] wr ∧ Below w.heap.size w wr)
        case atStart => exact ⟨0, [], 0, unpack P, rfl, Nat.zero_le _, rfl, rfl, HDS0, HR0, hrow0, hbw5⟩
        case round =>
          obtain ⟨k, acc, before, s, rfl, hk, rfl, rfl, HDS, HTR, hO, hbw⟩ := hrel
          obtain ⟨Wr, hWr⟩ : ∃ Wr, Wr = wr := ⟨_, rfl⟩
          subst hWr
          have hTz := (HSt.out _ _ _ _ _ HTR.out).1.lt
          clear HDS0 hrow0 hbw5 HR0
          by_cases hlt : k < N
          · have hltz : (k : Int) < (N : Int) := by omega
            have HB := veil (HBk2.out w.heap.size g hgw hG before s Wr HDS.out.2.1 hTz HTR.out)
            go_wp2_with fail
            refine HB.out.mono ?_
            rintro e w6 ⟨rfl, hg6, hs6⟩
            have hosl := outBk_length (step := stepS fw rw_) before s
            obtain ⟨D, hD⟩ : ∃ D, D = gB (stepS fw rw_) before s := ⟨_, rfl⟩
            have HD := veil hD
            rw [← hD] at hs6 hosl ⊢
            have hob : outG D = outBk D := rfl
            rw [hob]
            obtain ⟨er, her⟩ : ∃ er, er = D.1 := ⟨_, rfl⟩
            obtain ⟨os, hos⟩ : ∃ os, os = outBk D := ⟨_, rfl⟩
            have Her := veil her
            have Hos := veil hos
            rw [← her, ← hos]
            rw [← hos] at hosl
            have Hosl : Hid ((ints .i64 os).length = 64) := by show _ = _; rw [ints_length, hosl]
            have hone := ints_one (k := .i64) (l := os)
            have hz6 := hg6.size
            have hO6 := hO.kept hg6 (by omega)
            have hbw6 := hbw.grown hg6 hbw.size (fun j hj => by injection hj with hj; omega)
            have hown := fun j hj => ((hO6.head).lt j hj).2
            have hB7 := Blk.new w6 (ints .i64 os) 47
            have hb7 := below1 w6 (.cells (ints .i64 os).toArray 47)
            have hO7 := hO6.alloc (.cells (ints .i64 os).toArray 47)
            have hbw7 := hbw6.trans (hb7.mono hbw6.size)
            obtain ⟨zs7, hys⟩ : ∃ zs7, zs7 = ints .i64 os := ⟨_, rfl⟩
            have Hys := veil hys
            have hz0' : zs7[0]? = some (.int .i64 (os.headD 0)) := by
              rw [hys]
              match os, hosl with
              | o :: os, _ => rfl
            have Hz0 := veil hz0'
            unfold blkV
            rw [← hys] at hB7 hb7 hO7 hbw7 Hosl hone ⊢
            have hacl : D.2.2.1.length ≤ 64 ∨ True := .inr trivial
            generalize (D.2.2.1.length : Int) = dl at *
            clear hD her hos hys HB hO hbw hz0' hacl hob
            by_cases he : er = 0
            · have he' : (gB (stepS fw rw_) before s).1 = 0 := by rw [← HD.out, ← Her.out]; exact he
              obtain ⟨_, _, ⟨s', hs'⟩, _⟩ := gB_in (fun _ _ _ h => stepS_ne h) he'
              have hnext := HDS.out.next hlt he' hs'
              rw [← HD.out, ← Hos.out] at hnext
              rw [← HD.out] at hs'
              have hTR6 := hs6 s' hs'
              have hTR7 := HSb.out _ _ _ _ _ _ _ hTR6 hb7 (by omega) (by omega) (by omega)
              have Hnext := veil hnext
              have HTR7 := veil hTR7
              have hacc : acc.length + 1 ≤ 1000000 := by have := HDS.out.1; omega
              have Hacc := veil hacc
              subst he
              clear he' hs' hs6 hnext hTR6 hTR7 HDS HTR hacc
              go_upto_region 17 with (first
                | (refine wpList_store_new w6 rfl 47 (.tmp 14) (.tmp 41) rfl zeroB.toArray zs7 rfl rfl (info_blkn Hosl.out) (by rw [Hosl.out]; rfl) hone ?_)
                | fail)
              obtain ⟨W7, hW7⟩ : ∃ W7, W7 = w6.alloc (.cells zs7.toArray 47) := ⟨_, rfl⟩
              have hz7 : W7.heap.size = w6.heap.size + 1 := by rw [hW7]; simp
              rw [← hW7] at hB7 hb7 hO7 hbw7 HTR7 ⊢
              clear hW7
              refine wp_region_held_drew (S := fun w' => Blk w' w6.heap.size zs7 47) (by kernel_rfl) hB7 (fun hHeld0 => ?_)
              refine take_pure 0 47 u12 _ rfl rfl (by kernel_rfl) (by kernel_rfl) (by kernel_rfl) (fun _ _ _ h => h) rfl (fun w' hS => by go_simp) hHeld0 rfl ?_
              refine take_load 1 48 47 (.tmp 14) w6.heap.size 0 zs7 _ rfl rfl (by kernel_rfl) (by kernel_rfl) (by kernel_rfl) (fun _ _ _ h => h) rfl rfl rfl (fun w' h => h.range) Try.underlying47 rfl (info_blkn Hosl.out) hHeld0 rfl ?_
              refine take_pure 4 51 (.pointer (some ⟨w6.heap.size, 0, none⟩)) _ rfl rfl (by kernel_rfl) (by kernel_rfl) (by kernel_rfl) (fun _ _ _ h => h) rfl (fun w' hS => by go_simp) hHeld0 rfl ?_
              refine take_pure 5 52 (.int .i64 (os.headD 0)) _ rfl rfl (by kernel_rfl) (by kernel_rfl) (by kernel_rfl) (fun _ _ _ h => h) rfl (fun w' hS => by have hc := hS.cell Hz0.out; go_simp) hHeld0 rfl ?_
              refine wpAnyH_ready (rs := [2]) (by kernel_rfl) (by simp) ?_
              refine AllReadyH.cons rfl (fun K hK => ?_) AllReadyH.nil
              refine step_buildBlk rfl (.tmp 48) rfl zs7 rfl Hosl.out ?_
              refine hK.out _ _ (hHeld0.below (below1 _ _) hHeld0.lt) (fun hHeld1 => ?_)
              clear hK K
              refine wpAnyH_ready (rs := [3]) (by kernel_rfl) (by simp) ?_
              refine AllReadyH.cons rfl (fun K hK => ?_) AllReadyH.nil
              refine step_ownB W7.drew rfl (.tmp 47) (.tmp 49) rfl (g + 1) u12 acc [] rfl hO7.drew os zs7 Hys.out hosl rfl Hacc.out ?_
              intro v' w8 hO8 hg8 hb8 hs8
              have hne8 : some w6.heap.size ≠ u12.ownBlock := fun e => by have := hown _ e.symm; omega
              refine hK.out _ _ (hHeld1.kept hg8 hne8) (fun hHeld2 => ?_)
              clear hK K
              refine take_pure 6 12 v' _ rfl rfl (by kernel_rfl) (by kernel_rfl) (by kernel_rfl) (fun _ _ _ h => h) rfl (fun w' hS => by go_simp) hHeld2 rfl ?_
              refine take_pure 7 13 (.int .i64 (os.headD 0)) _ rfl rfl (by kernel_rfl) (by kernel_rfl) (by kernel_rfl) (fun _ _ _ h => h) rfl (fun w' hS => by go_simp) hHeld2 rfl ?_
              refine wpAnyH_done (by kernel_rfl) ?_ _
              have hb78 : Below (g + 1) W7 w8 := below_of_drew hb8
              have HTR8 := veil (HSb.out _ _ _ _ _ _ _ HTR7.out hb78 (by omega) (by omega) (by omega))
              have hbw8 := hbw7.trans (hb78.mono (by omega))
              clear hg8 hb8 hO7 hbw7 hB7 hb7 HTR7 hO6 hbw6 hg6 hHeld0 hHeld1 hHeld2
              go_wp2_with fail
              go_roundg (N - (k + 1))
              case rel => exact ⟨k + 1, acc ++ [os], os.headD 0, s', rfl, by omega, by go_num, by rw [List.headD_eq_head?_getD], Hnext, HTR8, hO8, hbw8⟩
              case measure => omega
            · have he' : (gB (stepS fw rw_) before s).1 ≠ 0 := by rw [← HD.out, ← Her.out]; exact he
              have hq := HDS.out.err hlt he'
              rw [← HD.out, ← Her.out] at hq
              have hE1 : E = er := by rw [HED.out (by rw [hq]; exact he), hq]
              have hO1 := HOe.out (by rw [hE1]; exact he)
              have HE1 := veil hE1
              have HO1 := veil hO1
              have hbe : (er != 0) = true := by simpa using he
              clear he he' hq hE1 hO1 hs6
              go_wp2_with (first
                | (refine wpList_store_new w6 rfl 47 (.tmp 14) (.tmp 41) rfl zeroB.toArray zs7 rfl rfl (info_blkn Hosl.out) (by rw [Hosl.out]; rfl) hone ?_)
                | fail)
              go_ret2
              exact ⟨_, ret_two rfl (by rw [HE1.out]; rfl), by rw [HO1.out]; exact (Owns.nil hbw7.size).fresh _ _, hbw7⟩
          · obtain rfl : k = N := by omega
            have hq := HDS.out.done
            obtain ⟨hX, hXl⟩ := HSt.out _ _ _ _ _ HTR.out
            have hXc := hX.cell (i := 0) (v := .string (txt s)) rfl
            have hE1 : E = if fillB s = true then 0 else 4 := by rw [HEF.out (by rw [hq]), hq]
            have hsz : (txt s).size = s.length := txt_size s
            have HZ := veil (hasZero_any s Wr)
            have HQ := veil hq
            have hfe := fillB_eq s
            have hOe : fillB s = true → O = acc := fun h => by rw [HOO.out (by rw [hE1, if_pos h]), HQ.out]
            by_cases h7 : 7 < s.length
            · rw [decide_eq_true h7] at hfe
              simp only [Bool.true_or, Bool.not_true] at hfe
              rw [hfe, if_neg (by decide)] at hE1
              have hO1 := HOe.out (by rw [hE1]; decide)
              have HE1 := veil hE1
              have HO1 := veil hO1
              have h7z : (7 : Int) < (s.length : Int) := by omega
              clear hE1 hO1 hfe hOe hq HZ
              generalize txt s = tx2 at *
              go_wp2_with fail
              go_ret2
              exact ⟨_, ret_two rfl (by rw [HE1.out]; rfl), by rw [HO1.out]; exact (Owns.nil hbw.size).fresh _ _, hbw⟩
            · rw [decide_eq_false h7] at hfe
              have h7z : ¬ (7 : Int) < (s.length : Int) := by omega
              simp only [Bool.false_or, Bool.not_not] at hfe
              rw [← hfe] at HZ
              cases hfl : fillB s with
              | true =>
                rw [hfl] at HZ
                rw [hfl, if_pos rfl] at hE1
                have hO1 := hOe hfl
                have HE1 := veil hE1
                have HO1 := veil hO1
                clear hE1 hO1 hfe hOe hq hfl
                generalize txt s = tx2 at *
                go_wp2_with fail
                refine HZ.out.mono ?_
                rintro e w8 ⟨rfl, rfl⟩
                go_wp2_with fail
                go_ret2
                exact ⟨_, ret_two rfl (by rw [HE1.out]; rfl), by rw [HO1.out]; exact hO.down (by omega), hbw⟩
              | false =>
                rw [hfl] at HZ
                rw [hfl, if_neg (by decide)] at hE1
                have hO1 := HOe.out (by rw [hE1]; decide)
                have HE1 := veil hE1
                have HO1 := veil hO1
                clear hE1 hO1 hfe hOe hq hfl
                generalize txt s = tx2 at *
                go_wp2_with fail
                refine HZ.out.mono ?_
                rintro e w8 ⟨rfl, rfl⟩
                go_wp2_with fail
                go_ret2
                exact ⟨_, ret_two rfl (by rw [HE1.out]; rfl), by rw [HO1.out]; exact (Owns.nil hbw.size).fresh _ _, hbw⟩
      · have hE1 := eDec_plain (bs := bs) HT0.out Hrg.out hp
        rw [← HE.out] at hE1
        have hO1 := HOe.out (by rw [hE1]; exact hp)
        have HE1 := veil hE1
        have HO1 := veil hO1
        have hne : (plainErr bs != 0) = true := by simpa using hp
        obtain ⟨er, her⟩ : ∃ er, er = plainErr bs := ⟨_, rfl⟩
        rw [← her] at HE1 hne ⊢
        clear hE1 hO1 hp her
        go_wp2_with fail
        go_ret2
        exact ⟨_, ret_two rfl (by rw [HE1.out]; rfl), by rw [HO1.out]; exact (Owns.nil hbw3.size).fresh _ _, hbw3⟩
  · have hE1 := eDec_tab (bs := bs) (n := n) h0
    rw [← HE.out] at hE1
    have hO1 := HOe.out (by rw [hE1]; exact h0)
    have HE1 := veil hE1
    have HO1 := veil hO1
    have hne : (eTs cs syms cs2 syms2 != 0) = true := by simpa using h0
    obtain ⟨er, her⟩ : ∃ er, er = eTs cs syms cs2 syms2 := ⟨_, rfl⟩
    rw [← her] at HE1 hne ⊢
    clear hE1 hO1 h0 her
    go_wp2_with fail
    go_ret2
    exact ⟨_, ret_two rfl (by rw [HE1.out]; rfl), by rw [HO1.out]; exact (Owns.nil hbw1.size).fresh _ _, hbw1⟩
end Go.Proofs.Ytbboakdfnjjddaa

/- Appends onto rows of the call's own: which block the new slice lies in. No program is named here. -/
namespace Go.Proofs.Ytbboakdfnjjddaa
open Go.RowKit
set_option linter.unusedVariables false
set_option linter.unusedSimpArgs false
set_option maxRecDepth 100000

/-- append of what is seen onto the first of the rows. -/
theorem run_ownV2 {P : Program} (w : World) (B : Nat) (t ty e : TypeId) (size bytes : Nat) (he : ElemOf P t e size bytes)
    (v : Value) (n : Nat) (xs : List Value) (rs : List Row) (HO : Owns B (⟨e, size, v, n, xs⟩ :: rs) w) (G : Nat) (A : Option Addr) (m c : Nat) (news : List Value) (hsee : Seen w G A news) (hl : news.length = m * size) (h1 : ∀ u ∈ news, u.oneCell' = true)
    (h63 : n + m ≤ maxLen) (hbytes : (n + m) * bytes ≤ 140737488355328) :
    ∃ v' w', (Builtin.append_ #[t, t] ty #[v, .slice A m c]).run P w = .ok v' w' ∧ Owns B (⟨e, size, v', n + m, xs ++ news⟩ :: rs) w' ∧ w.grownBy w' v.ownBlock ∧ Below B w w' ∧ (v'.ownBlock = v.ownBlock ∨ v'.ownBlock = some w.heap.size) := by
  have hown := HO.head
  have hB := HO.base
  have hap := (List.pairwise_cons.1 HO.apart).1
  obtain ⟨ht, hp, i, z, hi, hz0, hz1, hz2, hzs⟩ := he
  have fin : ∀ v' w', w'.ownsRow B e size v' (n + m) (xs ++ news) → w.grownBy w' v.ownBlock → (v'.ownBlock = v.ownBlock ∨ v'.ownBlock = some w.heap.size) → Owns B (⟨e, size, v', n + m, xs ++ news⟩ :: rs) w' ∧ w.grownBy w' v.ownBlock ∧ Below B w w' ∧ (v'.ownBlock = v.ownBlock ∨ v'.ownBlock = some w.heap.size) := by
    intro v' w' h2 h3 h4
    refine ⟨⟨Nat.le_trans hB h3.size, fun x hx => ?_, List.pairwise_cons.2 ⟨fun s hs g hg => ?_, HO.tail.apart⟩⟩, h3, (Below.refl _ _).grown h3 hB fun k hk => (hown.lt k hk).1, h4⟩
    · rcases List.mem_cons.1 hx with rfl | hx
      · exact h2
      · refine (HO.tail.each x hx).kept h3 ?_
        cases hv : x.v.ownBlock with
        | none => exact .inl rfl
        | some g => exact .inr fun e => hap x hx g e.symm hv
    · simp only at hg
      rcases h4 with h4 | h4
      · exact hap s hs g (h4.symm.trans hg)
      · rw [h4] at hg
        injection hg with hg
        intro hsg
        have := ((HO.tail.each s hs).lt g hsg).2
        omega
  rcases A with _ | ad
  · have hnews : news = [] := by
      rcases hsee with h | ⟨g, o, h, _⟩
      · exact h
      · cases h
    subst hnews
    have hm : m = 0 := by
      rcases Nat.eq_zero_or_pos m with h | h
      · exact h
      · have : 0 < m * size := Nat.mul_pos h hp
        simp at hl; omega
    subst hm
    refine ⟨v, w, ?_, fin v w (by simpa using hown) (World.grownBy.refl w _) (.inl rfl)⟩
    rcases hown.2 with ⟨h5, h6⟩ | ⟨g, cap, cur, h5, _, _, hnc, _⟩
    · simp only at h5 h6
      subst h5 h6
      simp [Builtin.append_, run_underlying ht, sizeOf, typeInfo, hi, Builtin.lenOf, Builtin.firstCells]
    · simp only at h5 hnc
      subst h5
      simp [Builtin.append_, run_underlying ht, sizeOf, typeInfo, hi, Builtin.lenOf, Builtin.firstCells, hnc, storeCells]
  · have hc : ∀ j u, news[j]? = some u → w.cell? (ad.add j) = some u := by
      rcases hsee with h | ⟨g, o, h, _, hc⟩
      · subst h; intro j u hu; simp at hu
      · injection h with h
        subst h
        intro j u hu
        rw [addr_add]
        exact hc j u hu
    obtain ⟨v', w', hr, h2, h3, _, h4⟩ := run_append_own_at (P := P) w B t ty e i z size bytes ht hi hz0 hz1 hz2 hzs hp v n xs hown ad m c news hl hc h1 h63 hbytes hB
    exact ⟨v', w', hr, fin v' w' h2 h3 h4⟩
theorem wp_ownV2 {P : Program} {o : Oper} {a : Act} {K : Act → World → Prop} {Q : Exit → Act → World → Prop} (w : World) (s x : Operand) (t : TypeId)
    (ho : o.op = .call { callee := .builtin .append, args := #[s, x], argTypes := #[t, t] })
    (B : Nat) (e : TypeId) (size bytes : Nat) (he : ElemOf P t e size bytes)
    (v : Value) (n : Nat) (xs : List Value) (rs : List Row) (hs : a.eval s = v) (HO : Owns B (⟨e, size, v, n, xs⟩ :: rs) w) (G : Nat) (A : Option Addr) (m c : Nat) (news : List Value) (hx : a.eval x = .slice A m c) (hsee : Seen w G A news) (hl : news.length = m * size) (h1 : ∀ u ∈ news, u.oneCell' = true)
    (h63 : n + m ≤ maxLen) (hbytes : (n + m) * bytes ≤ 140737488355328)
    (h : ∀ v' w', Owns B (⟨e, size, v', n + m, xs ++ news⟩ :: rs) w' → w.grownBy w' v.ownBlock → Below B w w' → (v'.ownBlock = v.ownBlock ∨ v'.ownBlock = some w.heap.size) → K (a.put o.dst v') w') : o.wp P a w K Q := by
  obtain ⟨v', w', hr, h2, h3, h4, h5⟩ := run_ownV2 (P := P) w B t o.type e size bytes he v n xs rs HO G A m c news hsee hl h1 h63 hbytes
  unfold Oper.wp execOp
  simp only [ho, resolve, invoke, builtin, Sem.run_bind, Sem.run_pure, Result.andThen_ok, List.map_toArray, List.map_cons, List.map_nil, hs, hx, hr]
  exact h v' w' h2 h3 h4 h5
/-- In a region: append of what is seen. -/
theorem step_ownV2 {P : Program} {ops : Array Oper} {o : Oper} {a : Act} {K : Act → World → Prop} {Q : Exit → Act → World → Prop} {E : Prop} (w : World) (hgd : Region.wanted o (yielded ops a.tmps) = true) (s x : Operand) (t : TypeId)
    (ho : o.op = .call { callee := .builtin .append, args := #[s, x], argTypes := #[t, t] })
    (B : Nat) (e : TypeId) (size bytes : Nat) (he : ElemOf P t e size bytes)
    (v : Value) (n : Nat) (xs : List Value) (rs : List Row) (hs : a.eval s = v) (HO : Owns B (⟨e, size, v, n, xs⟩ :: rs) w) (G : Nat) (A : Option Addr) (m c : Nat) (news : List Value) (hx : a.eval x = .slice A m c) (hsee : Seen w G A news) (hl : news.length = m * size) (h1 : ∀ u ∈ news, u.oneCell' = true)
    (h63 : n + m ≤ maxLen) (hbytes : (n + m) * bytes ≤ 140737488355328)
    (h : ∀ v' w', Owns B (⟨e, size, v', n + m, xs ++ news⟩ :: rs) w' → w.grownBy w' v.ownBlock → Below B w w' → (v'.ownBlock = v.ownBlock ∨ v'.ownBlock = some w.heap.size) → K (a.put o.dst v') w') :
    if Region.wanted o (yielded ops a.tmps) = true then Oper.wp P o a w K Q else E := by
  rw [if_pos hgd]
  exact wp_ownV2 w s x t ho B e size bytes he v n xs rs hs HO G A m c news hx hsee hl h1 h63 hbytes h
end Go.Proofs.Ytbboakdfnjjddaa

/- What only some blocks of those that were there may see changed. No program is named here. -/
namespace Go.Proofs.Ytbboakdfnjjddaa
open Go.RowKit
set_option linter.unusedVariables false
set_option linter.unusedSimpArgs false
set_option maxRecDepth 100000

/-- Of the blocks that were there only those of F may have changed. -/
structure Only (F : Nat → Prop) (w w' : World) : Prop where
  os : w'.os = w.os
  tape : w'.tape = w.tape
  output : w'.output = w.output
  size : w.heap.size ≤ w'.heap.size
  block : ∀ k, k < w.heap.size → ¬ F k → w'.heap[k]? = w.heap[k]?
section
variable {F F' : Nat → Prop} {w w1 w2 : World}
theorem Only.refl (F : Nat → Prop) (w : World) : Only F w w := ⟨rfl, rfl, rfl, Nat.le_refl _, fun _ _ _ => rfl⟩
theorem Only.trans (h : Only F w w1) (h2 : Only F' w1 w2) (hF : ∀ q, F' q → F q ∨ w.heap.size ≤ q) : Only F w w2 :=
  ⟨h2.os.trans h.os, h2.tape.trans h.tape, h2.output.trans h.output, Nat.le_trans h.size h2.size, fun k hk hn => (h2.block k (by have := h.size; omega) (fun hf => by rcases hF k hf with h | h; exact hn h; omega)).trans (h.block k hk hn)⟩
theorem Only.of_below {B : Nat} (h : Below B w w1) (hB : w.heap.size ≤ B) : Only F w w1 := ⟨h.os, h.tape, h.output, h.size, fun k hk _ => h.block k (by omega)⟩
theorem Only.of_grown {r : Option Nat} (h : w.grownBy w1 r) (hr : ∀ g, r = some g → F g ∨ w.heap.size ≤ g) : Only F w w1 :=
  ⟨h.os, h.tape, h.output, h.size, fun k hk hn => h.block k hk (fun e => by rcases hr k e.symm with h | h; exact hn h; omega)⟩
theorem Only.mono (h : Only F w w1) (hF : ∀ q, F q → F' q ∨ w.heap.size ≤ q) : Only F' w w1 := ⟨h.os, h.tape, h.output, h.size, fun k hk hn => h.block k hk (fun hf => by rcases hF k hf with h | h; exact hn h; omega)⟩
theorem Only.below (h : Only F w w1) {B : Nat} (hB : B ≤ w.heap.size) (hF : ∀ q, F q → B ≤ q) : Below B w w1 :=
  ⟨h.os, h.tape, h.output, h.size, fun k hk => h.block k (by omega) (fun hf => by have := hF k hf; omega)⟩
theorem Only.blk (h : Only F w w1) {b : Nat} {xs : List Value} {t : TypeId} (hb : Blk w b xs t) (hn : ¬ F b) : Blk w1 b xs t := by
  have := hb.lt
  unfold Blk at hb ⊢
  rw [h.block b this hn]; exact hb
theorem Only.cell (h : Only F w w1) {a : Addr} (ha : a.block < w.heap.size) (hn : ¬ F a.block) : w1.cell? a = w.cell? a := World.cell?_of_block (h.block a.block ha hn)
theorem Seen.only {G : Nat} {A : Option Addr} {xs : List Value} (h : Seen w G A xs) (hb : Only F w w1) (hG : G ≤ w.heap.size) (hF : ∀ q, F q → G ≤ q) : Seen w1 G A xs := h.below (hb.below hG hF) (Nat.le_refl _)
theorem Owns.only {B : Nat} {rs : List Row} (h : Owns B rs w) (hb : Only F w w1) (hF : ∀ r ∈ rs, ∀ g, r.v.ownBlock = some g → ¬ F g) : Owns B rs w1 := by
  refine ⟨Nat.le_trans h.base hb.size, fun r hr => ?_, h.apart⟩
  have hlt := fun g hg => ((h.each r hr).lt g hg).2
  obtain ⟨h1, h2⟩ := h.each r hr
  refine ⟨h1, ?_⟩
  rcases h2 with h2 | ⟨g, cap, cur, hv, hg, hh, r2⟩
  · exact .inl h2
  · have ho : r.v.ownBlock = some g := by rw [hv]; rfl
    exact .inr ⟨g, cap, cur, hv, hg, by rw [hb.block g (hlt g ho) (hF r hr g ho)]; exact hh, r2⟩
end
end Go.Proofs.Ytbboakdfnjjddaa

/- seg's writer: its state in numbers and in memory. -/
namespace Go.Proofs.Ytbboakdfnjjddaa
open Go.RowKit
set_option linter.unusedVariables false
set_option linter.unusedSimpArgs false
set_option maxRecDepth 100000

abbrev fieldRow (v : Value) (l : List (Int × Int)) : Row := ⟨69, 2, v, l.length, pairCells l⟩
theorem fieldRow_append (v : Value) (l m : List (Int × Int)) : (⟨69, 2, v, l.length + m.length, pairCells l ++ pairCells m⟩ : Row) = fieldRow v (l ++ m) := by simp [fieldRow, pairCells]
/-- Block g is a writer: bytes that are done, fields that are not. -/
structure Wr (B g : Nat) (D : List Int) (P : List (Int × Int)) (vd vp : Value) (w : World) : Prop where
  blk : Blk w g [vd, vp, .int .i64 ((fieldBits P).length : Int)] 67
  own : Owns B [byteRow vd D, fieldRow vp P] w
  low : g < B
  byt : Bytes D
  ok : ∀ f ∈ P, okF f
  few : P.length ≤ 20000
/-- The blocks that it may write. -/
def wrF (g : Nat) (vd vp : Value) (q : Nat) : Prop := q = g ∨ vd.ownBlock = some q ∨ vp.ownBlock = some q
section
variable {B g : Nat} {D : List Int} {P : List (Int × Int)} {vd vp : Value} {w w' : World}
theorem Wr.below (h : Wr B g D P vd vp w) (hb : Below w.heap.size w w') : Wr B g D P vd vp w' := ⟨h.blk.below hb h.blk.lt, h.own.below hb, h.low, h.byt, h.ok, h.few⟩
theorem Wr.only {F : Nat → Prop} (h : Wr B g D P vd vp w) (hb : Only F w w') (hF : ∀ q, wrF g vd vp q → ¬ F q) : Wr B g D P vd vp w' :=
  ⟨hb.blk h.blk (hF g (.inl rfl)), h.own.only hb (fun r hr q hq => hF q (by
    rcases List.mem_cons.1 hr with rfl | hr
    · exact .inr (.inl hq)
    · rw [List.mem_singleton.1 hr] at hq; exact .inr (.inr hq))), h.low, h.byt, h.ok, h.few⟩
theorem Wr.foot (h : Wr B g D P vd vp w) {q : Nat} (hq : wrF g vd vp q) : q < w.heap.size ∧ g ≤ q := by
  rcases hq with rfl | hq | hq
  · exact ⟨h.blk.lt, Nat.le_refl _⟩
  · have := h.own.head.lt q hq; have := h.low; omega
  · have := h.own.tail.head.lt q hq; have := h.low; omega
end
theorem fieldBits_len_le (P : List (Int × Int)) (h : ∀ f ∈ P, okF f) : (fieldBits P).length ≤ 24 * P.length := fieldBits_le P h
theorem bits_take_done {P : List (Int × Int)} {out : List Int} {p : Nat} (h : unpack out = fieldBits P ++ List.replicate p true) (hp : p < 8) :
    8 * ((fieldBits P).length / 8) ≤ (fieldBits P).length ∧ (fieldBits P).length / 8 ≤ out.length ∧ unpack (out.take ((fieldBits P).length / 8)) = (fieldBits P).take (8 * ((fieldBits P).length / 8)) := by
  have hl := congrArg List.length h
  rw [unpack_length, List.length_append, List.length_replicate] at hl
  refine ⟨by omega, by omega, ?_⟩
  rw [unpack_take, h, List.take_append_of_le_length (by omega)]
/-- The bits behind the last full byte. -/
theorem bits_left {P : List (Int × Int)} {out : List Int} {p : Nat} (hby : Bytes out) (h : unpack out = fieldBits P ++ List.replicate p true) (hp : p < 8) (ho : 0 < (fieldBits P).length % 8) :
    ∃ x : Nat, out[(fieldBits P).length / 8]? = some (x : Int) ∧ x < 256 ∧ bitsN ((fieldBits P).length % 8) (x / 2 ^ (8 - (fieldBits P).length % 8)) = (fieldBits P).drop (8 * ((fieldBits P).length / 8)) ∧ x / 2 ^ (8 - (fieldBits P).length % 8) < 2 ^ ((fieldBits P).length % 8) := by
  have hl := congrArg List.length h
  rw [unpack_length, List.length_append, List.length_replicate] at hl
  obtain ⟨n, hn⟩ : ∃ n, n = (fieldBits P).length := ⟨_, rfl⟩
  rw [← hn] at hl ho ⊢
  obtain ⟨y, hy⟩ := some_at (xs := out) (j := n / 8) (by omega)
  have hyb := hby y (List.mem_of_getElem? hy)
  obtain ⟨x, rfl⟩ := Int.eq_ofNat_of_zero_le hyb.1
  have hx : x < 256 := by omega
  have e1 : bitsN 8 x = ((unpack out).drop (8 * (n / 8))).take 8 := by
    have e := unpack_drop out (n / 8)
    rw [← e]
    obtain ⟨hk, hk2⟩ := List.getElem?_eq_some_iff.1 hy
    rw [List.drop_eq_getElem_cons hk, hk2, unpack_cons, List.take_append_of_le_length (by rw [bitsN_length]; exact Nat.le_refl _), List.take_of_length_le (by rw [bitsN_length]; exact Nat.le_refl _), Int.toNat_natCast]
  have hd : 8 = n % 8 + (8 - n % 8) := by omega
  have e2 := bitsN_add (n % 8) (8 - n % 8) x
  rw [← hd, e1] at e2
  have e3 := congrArg (List.take (n % 8)) e2
  rw [List.take_left' (bitsN_length _ _), List.take_take, Nat.min_eq_left (by omega), h, List.drop_append_of_le_length (by omega), List.take_append_of_le_length (by rw [List.length_drop]; omega), List.take_of_length_le (by rw [List.length_drop]; omega)] at e3
  refine ⟨x, hy, hx, e3.symm, ?_⟩
  rw [Nat.div_lt_iff_lt_mul (Nat.two_pow_pos _), ← Nat.pow_add, ← hd]
  exact hx
end Go.Proofs.Ytbboakdfnjjddaa

/- seg's writer: add, its contract. -/
namespace Go.Proofs.Ytbboakdfnjjddaa
open Go.RowKit
set_option linter.unusedVariables false
set_option linter.unusedSimpArgs false
set_option maxRecDepth 100000

set_option maxRecDepth 100000 in
set_option maxHeartbeats 4000000 in
theorem add_small (B g : Nat) (D : List Int) (P : List (Int × Int)) (vd vp : Value) (f1 f2 : Int) (w : World) (h : Wr B g D P vd vp w) (hf : okF (f1, f2)) (hP : P.length < 20000) :
    Calls Try.prog 30 #[.pointer (some ⟨g, 0, none⟩), .agg #[.int .i64 f1, .int .i64 f2]] w fun e w' => e = .returned (.tuple #[]) ∧ ∃ vp', Wr B g D (P ++ [(f1, f2)]) vd vp' w' ∧ Only (wrF g vd vp) w w' ∧ ∀ q, wrF g vd vp' q → wrF g vd vp q ∨ w.heap.size ≤ q := by
  have hgl := h.blk.lt
  have hlow := h.low
  have hb0 := below1 w (.cells #[.int .i64 f1, .int .i64 f2] 69)
  have hW := h.below hb0
  have HB : Blk (w.alloc (.cells #[.int .i64 f1, .int .i64 f2] 69)) w.heap.size [.int .i64 f1, .int .i64 f2] 69 := Blk.new w [.int .i64 f1, .int .i64 f2] 69
  obtain ⟨Av, cv, hv, _, hcv, hmv⟩ := h.own.seen (List.mem_cons_of_mem _ (List.mem_cons_self ..))
  simp only [fieldRow] at hv hcv
  have hneb : ((P.length : Int) == 20000) = false := by simp; omega
  have hne : ¬ ((P.length : Int) = 20000) := by omega
  have hvn : ∀ q, vp.ownBlock = some q → q < w.heap.size := fun q hq => (h.own.tail.head.lt q hq).2
  subst hv
  have k1 := hW.blk.cell (i := 1) (v := .slice Av P.length cv) rfl
  have Hh := veil h
  have Hf := veil hf
  have HW := veil hW
  have HBv := veil HB
  have Hvn := veil hvn
  have Hb0 := veil hb0
  clear h hf hW HB hvn hb0
  go_enter Try.func30, Try.ntmps30
  go_upto_region 3 with fail
  obtain ⟨W0, hW0⟩ : ∃ W0, W0 = w.alloc (.cells #[.int .i64 f1, .int .i64 f2] 69) := ⟨_, rfl⟩
  rw [← hW0] at HW HBv Hb0 k1 ⊢
  have hz0 : W0.heap.size = w.heap.size + 1 := by rw [hW0]; simp
  have e0 := HBv.out.cell (i := 0) (v := .int .i64 f1) rfl
  have e1 := HBv.out.cell (i := 1) (v := .int .i64 f2) rfl
  clear hW0 e0 e1
  have hnf : some w.heap.size ≠ (Value.slice Av P.length cv).ownBlock := fun e => by have := Hvn.out _ e.symm; omega
  have Hnf := veil hnf
  have hP1 : P.length + 1 ≤ 1000000 := by omega
  clear k1 hnf
  refine wp_region_held_drew (S := fun w' => Blk w' w.heap.size [.int .i64 f1, .int .i64 f2] 69) (by kernel_rfl) (show Blk W0.drew w.heap.size _ _ from HBv.out) (fun hHeld0 => ?_)
  refine take_pure 0 12 (Value.pointer (some ⟨g, 0, none⟩)) _ rfl rfl (by kernel_rfl) (by kernel_rfl) (by kernel_rfl) (fun _ _ _ h => h) rfl (fun w' hS => by go_simp) hHeld0 rfl ?_
  refine take_pure 1 13 (Value.pointer (some ⟨g, 0, none⟩)) _ rfl rfl (by kernel_rfl) (by kernel_rfl) (by kernel_rfl) (fun _ _ _ h => h) rfl (fun w' hS => by go_simp) hHeld0 rfl ?_
  refine take_pure 2 14 (Value.pointer (some ⟨g, 0, none⟩)) _ rfl rfl (by kernel_rfl) (by kernel_rfl) (by kernel_rfl) (fun _ _ _ h => h) rfl (fun w' hS => by go_simp) hHeld0 rfl ?_
  refine take_pure 3 15 (Value.pointer (some ⟨g, 1, none⟩)) _ rfl rfl (by kernel_rfl) (by kernel_rfl) (by kernel_rfl) (fun _ _ _ h => h) rfl (fun w' hS => by go_simp) hHeld0 rfl ?_
  refine take_pure 5 17 (Value.agg #[.int .i64 f1, .int .i64 f2]) _ rfl rfl (by kernel_rfl) (by kernel_rfl) (by kernel_rfl) (fun _ _ _ h => h) rfl (fun w' hS => by have q0 := hS.cell (i := 0) rfl; have q1 := hS.cell (i := 1) rfl; go_simp) hHeld0 rfl ?_
  refine wpAnyH_ready (rs := [4, 6]) (by kernel_rfl) (by simp) ?_
  have kA : W0.drew.cell? ⟨g, 1, none⟩ = some (.slice Av P.length cv) := HW.out.blk.cell (i := 1) rfl
  have hb1 := below1 W0 (.cells #[.int .i64 f1, .int .i64 f2] 69)
  have hB1 : Blk (W0.alloc (.cells #[.int .i64 f1, .int .i64 f2] 69)).drew g [vd, .slice Av P.length cv, .int .i64 ((fieldBits P).length : Int)] 67 := HW.out.blk.below hb1.drew (by omega)
  have hF1 : Blk (W0.alloc (.cells #[.int .i64 f1, .int .i64 f2] 69)).drew w.heap.size [.int .i64 f1, .int .i64 f2] 69 := HBv.out.below hb1.drew (by omega)
  have hO1 : Owns B [fieldRow (.slice Av P.length cv) P, byteRow vd D] (W0.alloc (.cells #[.int .i64 f1, .int .i64 f2] 69)).drew := (HW.out.own.swap.below hb1).drew
  have hsn : Seen (W0.alloc (.cells #[.int .i64 f1, .int .i64 f2] 69)).drew (W0.heap.size + 1) (some ⟨w.heap.size + 1, 0, none⟩) (pairCells [(f1, f2)]) := by
    have h9 : Seen (W0.alloc (.cells #[.int .i64 f1, .int .i64 f2] 69)).drew (W0.heap.size + 1) (some ⟨W0.heap.size, 0, none⟩) (pairCells [(f1, f2)]) := Seen.new W0 (pairCells [(f1, f2)]) _ _ (Nat.lt_succ_self _)
    rw [hz0] at h9
    rw [hz0]
    exact h9
  have hzW : (W0.alloc (.cells #[.int .i64 f1, .int .i64 f2] 69)).drew.heap.size = W0.heap.size + 1 := by show (W0.alloc _).heap.size = _; simp
  have kB := hB1.cell (i := 1) (v := .slice Av P.length cv) rfl
  have hoW : Only (fun _ => False) w (W0.alloc (.cells #[.int .i64 f1, .int .i64 f2] 69)).drew := (Only.of_below Hb0.out (Nat.le_refl _) : Only (fun _ => False) w W0).trans (Only.of_below hb1.drew (Nat.le_refl _) : Only (fun _ => False) _ _) (fun q h => h.elim)
  refine AllReadyH.cons rfl (fun K hK => ?_) (AllReadyH.cons rfl (fun K hK => ?_) AllReadyH.nil)
  · go_simp
    refine hK.out _ _ hHeld0 (fun hHeld1 => ?_)
    clear hK K
    refine wpAnyH_ready (rs := [6]) (by kernel_rfl) (by simp) ?_
    refine AllReadyH.cons rfl (fun K hK => ?_) AllReadyH.nil
    go_simp
    refine hK.out _ _ hF1 (fun hHeld2 => ?_)
    clear hK K
    refine wpAnyH_ready (rs := [7]) (by kernel_rfl) (by simp) ?_
    refine AllReadyH.cons rfl (fun K hK => ?_) AllReadyH.nil
    refine step_ownV2 _ rfl (.tmp 16) (.tmp 18) 65 rfl B 69 2 16 elem_field (.slice Av P.length cv) P.length (pairCells P) [byteRow vd D] rfl hO1 (W0.heap.size + 1) (some ⟨w.heap.size + 1, 0, none⟩) 1 1 (pairCells [(f1, f2)]) rfl hsn (by simp [pairCells]) (by intro u hu; simp [pairCells] at hu; rcases hu with rfl | rfl <;> rfl) (by unfold maxLen; omega) (by omega) ?_
    intro vp' w3 hO3 hg3 hb3 hw3
    obtain ⟨A', c', hv', _, _, _⟩ := hO3.seen (List.mem_cons_self ..)
    simp only at hv'
    subst hv'
    rw [hzW] at hw3
    have hB3 := hB1.below hb3 hlow
    have hF3 := hF1.kept hg3 Hnf.out
    refine hK.out _ _ hF3 (fun hHeld3 => ?_)
    clear hK K hHeld2 hHeld1
    refine take_pure 8 20 (Value.pointer (some ⟨g, 0, none⟩)) _ rfl rfl (by kernel_rfl) (by kernel_rfl) (by kernel_rfl) (fun _ _ _ h => h) rfl (fun w' hS => by go_simp) hHeld3 rfl ?_
    refine take_pure 9 21 (Value.pointer (some ⟨g, 1, none⟩)) _ rfl rfl (by kernel_rfl) (by kernel_rfl) (by kernel_rfl) (fun _ _ _ h => h) rfl (fun w' hS => by go_simp) hHeld3 rfl ?_
    refine wpAnyH_ready (rs := [10]) (by kernel_rfl) (by simp) ?_
    refine AllReadyH.cons rfl (fun K hK => ?_) AllReadyH.nil
    have k3 := hB3.cell (i := 1) (v := .slice Av P.length cv) rfl
    have z3 := hB3.frozen 1
    have hg4 := grown_setCell w3 g 1 (.slice A' (P.length + 1) c')
    have hB4 : Blk (w3.setCell ⟨g, 1, none⟩ (.slice A' (P.length + 1) c')) g [vd, .slice A' (P.length + 1) c', .int .i64 ((fieldBits P).length : Int)] 67 := hB3.set 1 (.slice A' (P.length + 1) c')
    have hF4 := hF3.kept hg4 (by simp; omega)
    have hO4 : Owns B [fieldRow (.slice A' (P.length + 1) c') (P ++ [(f1, f2)]), byteRow vd D] (w3.setCell ⟨g, 1, none⟩ (.slice A' (P.length + 1) c')) := by rw [← fieldRow_append]; exact hO3.setCell (a := ⟨g, 1, none⟩) hlow _
    have hon1 : Only (wrF g vd (.slice Av P.length cv)) w (w3.setCell ⟨g, 1, none⟩ (.slice A' (P.length + 1) c')) := (((hoW.mono (fun q h => h.elim) : Only (wrF g vd (.slice Av P.length cv)) w _).trans (Only.of_grown hg3 (F := wrF g vd (.slice Av P.length cv)) (fun q e => .inl (.inr (.inr e)))) (fun q h => .inl h) : Only (wrF g vd (.slice Av P.length cv)) w w3)).trans (Only.of_grown hg4 (F := wrF g vd (.slice Av P.length cv)) (fun q e => by injection e with e; exact .inl (.inl e.symm))) (fun q h => .inl h)
    go_simp
    refine hK.out _ _ hF4 (fun hHeld4 => ?_)
    clear hK K hHeld3
    refine wpAnyH_done (by kernel_rfl) ?_ _
    clear hHeld4 hHeld0 kA kB hb1 hB1 hF1 hO1 hsn hzW hoW hB3 hF3 k3 z3 hg4 hO3 hg3 hb3
    rw [hz0] at hw3
    clear hz0
    have hzz := hon1.size
    obtain ⟨W4, hW4⟩ : ∃ W4, W4 = w3.setCell ⟨g, 1, none⟩ (.slice A' (P.length + 1) c') := ⟨_, rfl⟩
    rw [← hW4] at hB4 hF4 hO4 hon1 hzz ⊢
    have hB4' := hB4
    clear hB4 hW4
    have hlen : (fieldBits (P ++ [(f1, f2)])).length = (fieldBits P).length + f1.toNat := by rw [fieldBits_snoc, List.length_append, bitsN_length]
    have hf0 := Hf.out.1
    simp only at hf0
    have hfb := fieldBits_len_le P Hh.out.ok
    have hsum : IntKind.i64.wrap (((fieldBits P).length : Int) + f1) = ((fieldBits (P ++ [(f1, f2)])).length : Int) := by rw [IntKind.wrap_i64, hlen]; omega
    have c2 := hB4'.cell (i := 2) (v := .int .i64 ((fieldBits P).length : Int)) rfl
    have z2 := hB4'.frozen 2
    have d0 := hF4.cell (i := 0) (v := .int .i64 f1) rfl
    obtain ⟨N2, hN2⟩ : ∃ N2 : Int, N2 = ((fieldBits (P ++ [(f1, f2)])).length : Int) := ⟨_, rfl⟩
    have HN2 := veil hN2
    rw [← hN2] at hsum
    have HB4 := veil hB4'
    have HO4 := veil hO4
    have Hon1 := veil hon1
    have hP2 : (P ++ [(f1, f2)]).length ≤ 20000 := by rw [List.length_append]; simp; omega
    clear hlen hN2 hB4' hO4 hon1 hF4
    go_upto_region 4 with fail
    go_still_tail 9, (by kernel_rfl)
    repeat still_step
    try refine wpStill_nil ?_
    change wpList _ _ _ _ _ W4.drew
    go_wp2_with fail
    go_end0
    refine ⟨rfl, .slice A' (P.length + 1) c', ⟨?_, ?_, hlow, Hh.out.byt, ?_, hP2⟩, ?_, ?_⟩
    · rw [← HN2.out]; exact HB4.out.set 2 (.int .i64 N2)
    · exact (HO4.out.setCell (a := ⟨g, 2, none⟩) hlow _).swap.drew
    · intro f hf
      rcases List.mem_append.1 hf with hf | hf
      · exact Hh.out.ok f hf
      · rw [List.mem_singleton.1 hf]; exact Hf.out
    · exact (Hon1.out.trans (Only.of_grown (grown_setCell W4 g 2 (.int .i64 N2)) (F := wrF g vd (.slice Av P.length cv)) (fun q e => by injection e with e; exact .inl (.inl e.symm))) (fun q h => .inl h)).trans (Only.of_below ((Below.refl _ _).drew) (Nat.le_refl _) : Only (fun _ => False) _ _) (fun q h => h.elim)
    · intro q hq
      rcases hq with h | h | h
      · exact .inl (.inl h)
      · exact .inl (.inr (.inl h))
      · rcases hw3 with h2 | h2
        · rw [h2] at h; exact .inl (.inr (.inr h))
        · rw [h2] at h; injection h with h; right; omega
  · go_simp
    refine hK.out _ _ hF1 (fun hHeld1 => ?_)
    clear hK K
    refine wpAnyH_ready (rs := [4]) (by kernel_rfl) (by simp) ?_
    refine AllReadyH.cons rfl (fun K hK => ?_) AllReadyH.nil
    go_simp
    refine hK.out _ _ hF1 (fun hHeld2 => ?_)
    clear hK K
    refine wpAnyH_ready (rs := [7]) (by kernel_rfl) (by simp) ?_
    refine AllReadyH.cons rfl (fun K hK => ?_) AllReadyH.nil
    refine step_ownV2 _ rfl (.tmp 16) (.tmp 18) 65 rfl B 69 2 16 elem_field (.slice Av P.length cv) P.length (pairCells P) [byteRow vd D] rfl hO1 (W0.heap.size + 1) (some ⟨w.heap.size + 1, 0, none⟩) 1 1 (pairCells [(f1, f2)]) rfl hsn (by simp [pairCells]) (by intro u hu; simp [pairCells] at hu; rcases hu with rfl | rfl <;> rfl) (by unfold maxLen; omega) (by omega) ?_
    intro vp' w3 hO3 hg3 hb3 hw3
    obtain ⟨A', c', hv', _, _, _⟩ := hO3.seen (List.mem_cons_self ..)
    simp only at hv'
    subst hv'
    rw [hzW] at hw3
    have hB3 := hB1.below hb3 hlow
    have hF3 := hF1.kept hg3 Hnf.out
    refine hK.out _ _ hF3 (fun hHeld3 => ?_)
    clear hK K hHeld2 hHeld1
    refine take_pure 8 20 (Value.pointer (some ⟨g, 0, none⟩)) _ rfl rfl (by kernel_rfl) (by kernel_rfl) (by kernel_rfl) (fun _ _ _ h => h) rfl (fun w' hS => by go_simp) hHeld3 rfl ?_
    refine take_pure 9 21 (Value.pointer (some ⟨g, 1, none⟩)) _ rfl rfl (by kernel_rfl) (by kernel_rfl) (by kernel_rfl) (fun _ _ _ h => h) rfl (fun w' hS => by go_simp) hHeld3 rfl ?_
    refine wpAnyH_ready (rs := [10]) (by kernel_rfl) (by simp) ?_
    refine AllReadyH.cons rfl (fun K hK => ?_) AllReadyH.nil
    have k3 := hB3.cell (i := 1) (v := .slice Av P.length cv) rfl
    have z3 := hB3.frozen 1
    have hg4 := grown_setCell w3 g 1 (.slice A' (P.length + 1) c')
    have hB4 : Blk (w3.setCell ⟨g, 1, none⟩ (.slice A' (P.length + 1) c')) g [vd, .slice A' (P.length + 1) c', .int .i64 ((fieldBits P).length : Int)] 67 := hB3.set 1 (.slice A' (P.length + 1) c')
    have hF4 := hF3.kept hg4 (by simp; omega)
    have hO4 : Owns B [fieldRow (.slice A' (P.length + 1) c') (P ++ [(f1, f2)]), byteRow vd D] (w3.setCell ⟨g, 1, none⟩ (.slice A' (P.length + 1) c')) := by rw [← fieldRow_append]; exact hO3.setCell (a := ⟨g, 1, none⟩) hlow _
    have hon1 : Only (wrF g vd (.slice Av P.length cv)) w (w3.setCell ⟨g, 1, none⟩ (.slice A' (P.length + 1) c')) := (((hoW.mono (fun q h => h.elim) : Only (wrF g vd (.slice Av P.length cv)) w _).trans (Only.of_grown hg3 (F := wrF g vd (.slice Av P.length cv)) (fun q e => .inl (.inr (.inr e)))) (fun q h => .inl h) : Only (wrF g vd (.slice Av P.length cv)) w w3)).trans (Only.of_grown hg4 (F := wrF g vd (.slice Av P.length cv)) (fun q e => by injection e with e; exact .inl (.inl e.symm))) (fun q h => .inl h)
    go_simp
    refine hK.out _ _ hF4 (fun hHeld4 => ?_)
    clear hK K hHeld3
    refine wpAnyH_done (by kernel_rfl) ?_ _
    clear hHeld4 hHeld0 kA kB hb1 hB1 hF1 hO1 hsn hzW hoW hB3 hF3 k3 z3 hg4 hO3 hg3 hb3
    rw [hz0] at hw3
    clear hz0
    have hzz := hon1.size
    obtain ⟨W4, hW4⟩ : ∃ W4, W4 = w3.setCell ⟨g, 1, none⟩ (.slice A' (P.length + 1) c') := ⟨_, rfl⟩
    rw [← hW4] at hB4 hF4 hO4 hon1 hzz ⊢
    have hB4' := hB4
    clear hB4 hW4
    have hlen : (fieldBits (P ++ [(f1, f2)])).length = (fieldBits P).length + f1.toNat := by rw [fieldBits_snoc, List.length_append, bitsN_length]
    have hf0 := Hf.out.1
    simp only at hf0
    have hfb := fieldBits_len_le P Hh.out.ok
    have hsum : IntKind.i64.wrap (((fieldBits P).length : Int) + f1) = ((fieldBits (P ++ [(f1, f2)])).length : Int) := by rw [IntKind.wrap_i64, hlen]; omega
    have c2 := hB4'.cell (i := 2) (v := .int .i64 ((fieldBits P).length : Int)) rfl
    have z2 := hB4'.frozen 2
    have d0 := hF4.cell (i := 0) (v := .int .i64 f1) rfl
    obtain ⟨N2, hN2⟩ : ∃ N2 : Int, N2 = ((fieldBits (P ++ [(f1, f2)])).length : Int) := ⟨_, rfl⟩
    have HN2 := veil hN2
    rw [← hN2] at hsum
    have HB4 := veil hB4'
    have HO4 := veil hO4
    have Hon1 := veil hon1
    have hP2 : (P ++ [(f1, f2)]).length ≤ 20000 := by rw [List.length_append]; simp; omega
    clear hlen hN2 hB4' hO4 hon1 hF4
    go_upto_region 4 with fail
    go_still_tail 9, (by kernel_rfl)
    repeat still_step
    try refine wpStill_nil ?_
    change wpList _ _ _ _ _ W4.drew
    go_wp2_with fail
    go_end0
    refine ⟨rfl, .slice A' (P.length + 1) c', ⟨?_, ?_, hlow, Hh.out.byt, ?_, hP2⟩, ?_, ?_⟩
    · rw [← HN2.out]; exact HB4.out.set 2 (.int .i64 N2)
    · exact (HO4.out.setCell (a := ⟨g, 2, none⟩) hlow _).swap.drew
    · intro f hf
      rcases List.mem_append.1 hf with hf | hf
      · exact Hh.out.ok f hf
      · rw [List.mem_singleton.1 hf]; exact Hf.out
    · exact (Hon1.out.trans (Only.of_grown (grown_setCell W4 g 2 (.int .i64 N2)) (F := wrF g vd (.slice Av P.length cv)) (fun q e => by injection e with e; exact .inl (.inl e.symm))) (fun q h => .inl h)).trans (Only.of_below ((Below.refl _ _).drew) (Nat.le_refl _) : Only (fun _ => False) _ _) (fun q h => h.elim)
    · intro q hq
      rcases hq with h | h | h
      · exact .inl (.inl h)
      · exact .inl (.inr (.inl h))
      · rcases hw3 with h2 | h2
        · rw [h2] at h; exact .inl (.inr (.inr h))
        · rw [h2] at h; injection h with h; right; omega
end Go.Proofs.Ytbboakdfnjjddaa

/- seg's writer: flush, its contract. -/
namespace Go.Proofs.Ytbboakdfnjjddaa
open Go.RowKit
set_option linter.unusedVariables false
set_option linter.unusedSimpArgs false
set_option maxRecDepth 100000

set_option maxRecDepth 100000 in
set_option maxHeartbeats 4000000 in
theorem flush_any (B g : Nat) (D : List Int) (P : List (Int × Int)) (vd vp : Value) (w : World) (h : Wr B g D P vd vp w) (hD : D.length ≤ 1000000) :
    Calls Try.prog 57 #[.pointer (some ⟨g, 0, none⟩)] w fun e w' => e = .returned (.tuple #[]) ∧ ∃ D' P' vd' vp', Wr B g D' P' vd' vp' w' ∧ unpack D' ++ fieldBits P' = unpack D ++ fieldBits P ∧ P'.length ≤ 1 ∧ Only (wrF g vd vp) w w' ∧ ∀ q, wrF g vd' vp' q → wrF g vd vp q ∨ w.heap.size ≤ q := by
  have hgl := h.blk.lt
  have hlow := h.low
  have hbase := h.own.base
  obtain ⟨Av, cv, hv, hsv, hcv, hmv⟩ := h.own.seen (List.mem_cons_of_mem _ (List.mem_cons_self ..))
  simp only [fieldRow] at hv hcv hsv
  obtain ⟨Ad, cd, hvd, _, _, _⟩ := h.own.seen (List.mem_cons_self ..)
  simp only [byteRow, intRow] at hvd
  subst hv
  subst hvd
  have hw0 : writeErr P = 0 := by unfold writeErr; rw [if_neg (by have := h.few; omega), if_pos h.ok]
  have HC := veil (write_any Av cv w.heap.size P w hsv (Nat.le_refl _) (by have := h.few; unfold maxLen; omega))
  have k1 := h.blk.cell (i := 1) (v := .slice Av P.length cv) rfl
  have Hh := veil h
  rw [hw0] at HC
  have hfb := fieldBits_len_le P h.ok
  have hfew := h.few
  clear h hsv hcv hmv
  go_enter Try.func57, Try.ntmps57
  go_wp2_with fail
  refine HC.out.mono ?_
  rintro e w2 ⟨v2, out, rfl, hown2, hW2, hb2⟩
  obtain ⟨hby, p, hp, hunp⟩ := hW2.2 hw0
  obtain ⟨hq8, hql, htk⟩ := bits_take_done hunp hp
  obtain ⟨A2, c2, hv2, hs2, hc2, hm2⟩ := own_form' hown2
  subst hv2
  have HOut := veil (Owns.one (r := byteRow (.slice A2 out.length c2) out) hb2.size hown2)
  have hvdl := fun q hq => (Hh.out.own.head.lt q hq).2
  have Hvdl := veil hvdl
  clear hvdl
  have hB2 := Hh.out.blk.below hb2 hgl
  have hO2 := Hh.out.own.below hb2
  have hon2 : Only (fun _ => False) w w2 := Only.of_below hb2 (Nat.le_refl _)
  have hz2 := hb2.size
  have hunp' := hunp
  obtain ⟨N, hN⟩ : ∃ N, N = (fieldBits P).length := ⟨_, rfl⟩
  rw [← hN] at hB2 hq8 hql htk hfb
  obtain ⟨q, r, hNq, hr8⟩ : ∃ q r, N = 8 * q + r ∧ r < 8 := ⟨N / 8, N % 8, by omega, by omega⟩
  have hq : N / 8 = q := by omega
  have hr : N % 8 = r := by omega
  rw [hq] at hq8 hql htk
  have e1 : (N : Int) / 8 = (q : Int) := by omega
  have e2 : (N : Int) % 8 = (r : Int) := by omega
  have e3 : (N : Int).tmod 8 = (r : Int) := by rw [Int.tmod_eq_emod_of_nonneg (by omega)]; omega
  have e4 : (N : Int).tdiv 8 = (q : Int) := by rw [Int.tdiv_eq_ediv_of_nonneg (by omega)]; omega
  have e5 : IntKind.i64.wrap (q : Int) = (q : Int) := by rw [IntKind.wrap_i64]; omega
  have k2 := hB2.cell (i := 2) (v := .int .i64 (N : Int)) rfl
  have HB2 := veil hB2; have HO2 := veil hO2; have Hon2 := veil hon2; have Hunp := veil hunp; have Hby := veil hby; have Htk := veil htk; have Hs2 := veil hs2; have HN := veil hN; have HNq := veil hNq
  clear HC hown2 hW2 hb2 hB2 hO2 hon2 hunp hunp' hby htk hs2 k1 hN hNq hw0 hq hr
  go_wp2_with fail
  go_quiet (fail)
  have k0 := HB2.out.cell (i := 0) (v := .slice Ad D.length cd) rfl
  have hcut := fun u => run_cutB_to A2 out.length c2 q (by omega) u
  have hW3 : Blk (w2.drewN nq) g [.slice Ad D.length cd, .slice Av P.length cv, .int .i64 (N : Int)] 67 := HB2.out
  obtain ⟨w3, hw3⟩ : ∃ w3, w3 = w2.drewN nq := ⟨_, rfl⟩
  rw [← hw3] at hW3 ⊢
  have hO3 : Owns B [byteRow (.slice Ad D.length cd) D, fieldRow (.slice Av P.length cv) P] w3 := by rw [hw3]; exact HO2.out.drewN _
  have hs3 : Seen w3 w2.heap.size A2 (ints .u8 (out.take q)) := by rw [hw3]; exact (Hs2.out.takeInts q)
  have hon3 : Only (fun _ => False) w w3 := by rw [hw3]; exact Hon2.out.trans (Only.of_below ((Below.refl _ _).drewN nq) (Nat.le_refl _) : Only (fun _ => False) _ _) (fun q h => h.elim)
  have k0 := hW3.cell (i := 0) (v := .slice Ad D.length cd) rfl
  have hs4 : Seen w2 w2.heap.size A2 (ints .u8 out) := Hs2.out
  have hs5 : Seen w3 w2.heap.size A2 (ints .u8 out) := by rw [hw3]; exact hs4
  have hz3 : w3.heap.size = w2.heap.size := by rw [hw3]; rfl
  have HoutX : Owns w.heap.size [byteRow (.slice A2 out.length c2) out] w3.drew := by rw [hw3]; exact (HOut.out.drewN _).drew
  clear hw3 HB2 HO2 Hon2 Hs2 k2 hs4
  go_upto_region 2 with fail
  refine wp_region_held_drew (S := fun _ => True) (by kernel_rfl) trivial (fun hHeld0 => ?_)
  refine take_pure 0 24 (Value.pointer (some ⟨g, 0, none⟩)) _ rfl rfl (by kernel_rfl) (by kernel_rfl) (by kernel_rfl) (fun _ _ _ h => h) rfl (fun w' hS => by go_simp) hHeld0 rfl ?_
  refine take_pure 1 25 (Value.pointer (some ⟨g, 0, none⟩)) _ rfl rfl (by kernel_rfl) (by kernel_rfl) (by kernel_rfl) (fun _ _ _ h => h) rfl (fun w' hS => by go_simp) hHeld0 rfl ?_
  refine take_pure 2 26 (Value.pointer (some ⟨g, 0, none⟩)) _ rfl rfl (by kernel_rfl) (by kernel_rfl) (by kernel_rfl) (fun _ _ _ h => h) rfl (fun w' hS => by go_simp) hHeld0 rfl ?_
  refine take_pure 3 27 (Value.pointer (some ⟨g, 0, none⟩)) _ rfl rfl (by kernel_rfl) (by kernel_rfl) (by kernel_rfl) (fun _ _ _ h => h) rfl (fun w' hS => by go_simp) hHeld0 rfl ?_
  refine take_pure 5 29 (Value.slice A2 out.length c2) _ rfl rfl (by kernel_rfl) (by kernel_rfl) (by kernel_rfl) (fun _ _ _ h => h) rfl (fun w' hS => by go_simp) hHeld0 rfl ?_
  refine take_pure 6 30 (Value.int .i64 (q : Int)) _ rfl rfl (by kernel_rfl) (by kernel_rfl) (by kernel_rfl) (fun _ _ _ h => h) rfl (fun w' hS => by go_simp) hHeld0 rfl ?_
  refine take_pure 7 31 (Value.slice A2 q c2) _ rfl rfl (by kernel_rfl) (by kernel_rfl) (by kernel_rfl) (fun _ _ _ h => h) rfl (fun w' hS => by have := hcut w'; go_simp) hHeld0 rfl ?_
  refine wpAnyH_ready (rs := [4]) (by kernel_rfl) (by simp) ?_
  refine AllReadyH.cons rfl (fun K hK => ?_) AllReadyH.nil
  have k0' : w3.drew.cell? ⟨g, 0, none⟩ = some (.slice Ad D.length cd) := k0
  go_simp
  refine hK.out _ _ trivial (fun hHeld1 => ?_)
  clear hK K
  refine wpAnyH_ready (rs := [8]) (by kernel_rfl) (by simp) ?_
  refine AllReadyH.cons rfl (fun K hK => ?_) AllReadyH.nil
  obtain ⟨w4, hw4⟩ : ∃ w4, w4 = w3.drew := ⟨_, rfl⟩
  have hW4 : Blk w4 g [.slice Ad D.length cd, .slice Av P.length cv, .int .i64 (N : Int)] 67 := by rw [hw4]; exact hW3
  have hO4 : Owns B [byteRow (.slice Ad D.length cd) D, fieldRow (.slice Av P.length cv) P] w4 := by rw [hw4]; exact hO3.drew
  have hs4 : Seen w4 w2.heap.size A2 (ints .u8 (out.take q)) := by rw [hw4]; exact hs3
  have hs6 : Seen w4 w2.heap.size A2 (ints .u8 out) := by rw [hw4]; exact hs5
  have hon4 : Only (fun _ => False) w w4 := by rw [hw4]; exact hon3.trans (Only.of_below ((Below.refl _ _).drew) (Nat.le_refl _) : Only (fun _ => False) _ _) (fun q h => h.elim)
  have hz4 : w4.heap.size = w2.heap.size := by rw [hw4]; exact hz3
  have Hw4 := veil hw4
  have HOut4 : Hid (Owns w.heap.size [byteRow (.slice A2 out.length c2) out] w4) := by show Owns _ _ _; rw [hw4]; exact HoutX
  have hlt : (ints .u8 (out.take q)).length = q * 1 := by rw [ints_length, List.length_take]; omega
  have hm1 : D.length + q ≤ maxLen := by unfold maxLen; omega
  have hm2 : (D.length + q) * 1 ≤ 140737488355328 := by omega
  have HW4 := veil hW4; have Hon4 := veil hon4; have Hs6 := veil hs6
  have Hlt := veil hlt
  clear hw4 hW3 hO3 hs3 hs5 hon3 hz3 k0 hW4 hon4 hs6 hlt
  refine step_ownV2 _ rfl (.tmp 28) (.tmp 31) 37 rfl B 5 1 1 elem_byte (.slice Ad D.length cd) D.length (ints .u8 D) [fieldRow (.slice Av P.length cv) P] rfl (by rw [← Hw4.out]; exact hO4) w2.heap.size A2 q c2 (ints .u8 (out.take q)) rfl (by rw [← Hw4.out]; exact hs4) Hlt.out ints_one hm1 hm2 ?_
  intro vd' w5 hO5 hg5 hb5 hw5
  rw [← Hw4.out] at hg5 hb5 hw5
  obtain ⟨Ad', cd', hv5, _, _, _⟩ := hO5.seen (List.mem_cons_self ..)
  simp only at hv5
  subst hv5
  have hB5 := HW4.out.below hb5 hlow
  refine hK.out _ _ trivial (fun hHeld2 => ?_)
  clear hK K hHeld1 hHeld0
  refine take_pure 9 33 (Value.pointer (some ⟨g, 0, none⟩)) _ rfl rfl (by kernel_rfl) (by kernel_rfl) (by kernel_rfl) (fun _ _ _ h => h) rfl (fun w' hS => by go_simp) hHeld2 rfl ?_
  refine take_pure 10 34 (Value.pointer (some ⟨g, 0, none⟩)) _ rfl rfl (by kernel_rfl) (by kernel_rfl) (by kernel_rfl) (fun _ _ _ h => h) rfl (fun w' hS => by go_simp) hHeld2 rfl ?_
  refine wpAnyH_ready (rs := [11]) (by kernel_rfl) (by simp) ?_
  refine AllReadyH.cons rfl (fun K hK => ?_) AllReadyH.nil
  have k5 := hB5.cell (i := 0) (v := .slice Ad D.length cd) rfl
  have z5 := hB5.frozen 0
  go_simp
  refine hK.out _ _ trivial (fun hHeld3 => ?_)
  clear hK K hHeld2
  refine wpAnyH_done (by kernel_rfl) ?_ _
  have hg6 := grown_setCell w5 g 0 (.slice Ad' (D.length + q) cd')
  have hB6 : Blk (w5.setCell ⟨g, 0, none⟩ (.slice Ad' (D.length + q) cd')) g [.slice Ad' (D.length + q) cd', .slice Av P.length cv, .int .i64 (N : Int)] 67 := hB5.set 0 _
  have hO6 : Owns B [byteRow (.slice Ad' (D.length + q) cd') (D ++ out.take q), fieldRow (.slice Av P.length cv) P] (w5.setCell ⟨g, 0, none⟩ (.slice Ad' (D.length + q) cd')) := by
    have e : byteRow (.slice Ad' (D.length + q) cd') (D ++ out.take q) = ⟨5, 1, .slice Ad' (D.length + q) cd', D.length + q, ints .u8 D ++ ints .u8 (out.take q)⟩ := by
      simp only [byteRow, intRow, ints_append]
      congr 1
      rw [List.length_append, List.length_take]; omega
    rw [e]
    exact hO5.setCell (a := ⟨g, 0, none⟩) hlow _
  have hO7 : Owns w.heap.size [byteRow (.slice A2 out.length c2) out] (w5.setCell ⟨g, 0, none⟩ (.slice Ad' (D.length + q) cd')) :=
    (HOut4.out.only (Only.of_grown hg5 (F := fun x => (Value.slice Ad D.length cd).ownBlock = some x) (fun x e => .inl e)) (fun r hr x hx hFx => by
      rw [List.mem_singleton.1 hr] at hx
      have h1 := Hvdl.out x hFx
      have h2 := (HOut4.out.head.lt x hx).1
      omega)).setCell (a := ⟨g, 0, none⟩) hgl _
  have hon6 : Only (wrF g (.slice Ad D.length cd) (.slice Av P.length cv)) w (w5.setCell ⟨g, 0, none⟩ (.slice Ad' (D.length + q) cd')) :=
    (((Hon4.out.mono (fun q h => h.elim) : Only (wrF g (.slice Ad D.length cd) (.slice Av P.length cv)) w w4).trans (Only.of_grown hg5 (F := wrF g (.slice Ad D.length cd) (.slice Av P.length cv)) (fun q e => .inl (.inr (.inl e)))) (fun q h => .inl h) : Only (wrF g (.slice Ad D.length cd) (.slice Av P.length cv)) w w5)).trans (Only.of_grown hg6 (F := wrF g (.slice Ad D.length cd) (.slice Av P.length cv)) (fun q e => by injection e with e; exact .inl (.inl e.symm))) (fun q h => .inl h)
  clear hHeld3 hO5 hg5 hb5 hB5 k5 z5 hg6 hO4 hs4 HW4 Hon4 Hs6 Hw4 HOut4 HoutX k0 k0' HOut
  rw [hz4] at hw5
  obtain ⟨w6, hw6⟩ : ∃ w6, w6 = w5.setCell ⟨g, 0, none⟩ (.slice Ad' (D.length + q) cd') := ⟨_, rfl⟩
  rw [← hw6] at hB6 hO6 hO7 hon6 ⊢
  clear hw6
  have m1 := hB6.cell (i := 1) (v := .slice Av P.length cv) rfl
  have m2 := hB6.cell (i := 2) (v := .int .i64 (N : Int)) rfl
  have y1 := hB6.frozen 1
  have y2 := hB6.frozen 2
  have hB8 : Blk ((w6.setCell ⟨g, 1, none⟩ (.slice none 0 0)).setCell ⟨g, 2, none⟩ (.int .i64 0)) g [.slice Ad' (D.length + q) cd', .slice none 0 0, .int .i64 0] 67 := (hB6.set 1 _).set 2 _
  have hg8 : w6.grownBy ((w6.setCell ⟨g, 1, none⟩ (.slice none 0 0)).setCell ⟨g, 2, none⟩ (.int .i64 0)) (some g) := (grown_setCell w6 g 1 _).trans (grown_setCell _ g 2 _)
  have HB8 := veil hB8; have Hg8 := veil hg8; have HO6 := veil hO6; have HO7 := veil hO7; have Hon6 := veil hon6
  clear hB8 hg8 hO6 hO7 hon6 hB6
  go_upto_region 4 with fail
  clear m1 m2 y1 y2
  obtain ⟨w8, hw8⟩ : ∃ w8, w8 = (w6.setCell ⟨g, 1, none⟩ (.slice none 0 0)).setCell ⟨g, 2, none⟩ (.int .i64 0) := ⟨_, rfl⟩
  rw [← hw8] at HB8 Hg8 ⊢
  clear hw8
  have hO8 := HO6.out.kept Hg8.out hlow
  have hOut8 := HO7.out.kept Hg8.out hgl
  have hon8 : Only (wrF g (.slice Ad D.length cd) (.slice Av P.length cv)) w w8 := Hon6.out.trans (Only.of_grown Hg8.out (F := wrF g (.slice Ad D.length cd) (.slice Av P.length cv)) (fun q e => by injection e with e; exact .inl (.inl e.symm))) (fun q h => .inl h)
  have hWr8 : Wr B g (D ++ out.take q) [] (.slice Ad' (D.length + q) cd') (.slice none 0 0) w8 :=
    ⟨HB8.out, (hO8.swap.tail.fresh 69 2).swap, hlow, by
      intro x hx
      rcases List.mem_append.1 hx with hx | hx
      · exact Hh.out.byt x hx
      · exact Hby.out x (List.mem_of_mem_take hx), by simp, by simp⟩
  have hsub8 : ∀ x, wrF g (.slice Ad' (D.length + q) cd') (.slice none 0 0) x → wrF g (.slice Ad D.length cd) (.slice Av P.length cv) x ∨ w.heap.size ≤ x := by
    intro x hx
    rcases hx with h | h | h
    · exact .inl (.inl h)
    · rcases hw5 with h2 | h2
      · rw [h2] at h; exact .inl (.inr (.inl h))
      · rw [h2] at h; injection h with h; right; omega
    · cases h
  have HWr8 := veil hWr8; have Hsub8 := veil hsub8; have Hon8 := veil hon8
  have hz8 := hon8.size
  obtain ⟨A9, c9, hv9, hs9, _, _⟩ := hOut8.seen (List.mem_cons_self ..)
  simp only [byteRow, intRow] at hv9 hs9
  obtain ⟨rfl, rfl⟩ : A2 = A9 ∧ c2 = c9 := by simpa using hv9
  clear hO8 hOut8 hon8 hWr8 hsub8 HO6 HO7 Hon6 HB8 Hg8 hv9 hw5
  have Hs9 := veil hs9
  clear hs9
  by_cases hr0 : r = 0
  · have hrz : ¬ (0 : Int) < (r : Int) := by omega
    have hall : (fieldBits P).take (8 * q) = fieldBits P := List.take_of_length_le (by rw [← HN.out, HNq.out]; omega)
    have hbits : unpack (D ++ out.take q) ++ fieldBits [] = unpack D ++ fieldBits P := by rw [unpack_append, Htk.out, hall]; simp [fieldBits]
    have Hbits := veil hbits
    clear hall hbits hr0
    go_wp2_with fail
    go_end0
    exact ⟨rfl, _, _, _, _, HWr8.out, Hbits.out, by simp, Hon8.out, Hsub8.out⟩
  · have hrz : (0 : Int) < (r : Int) := by omega
    have hN8 : (fieldBits P).length / 8 = q := by rw [← HN.out, HNq.out]; omega
    have hN9 : (fieldBits P).length % 8 = r := by rw [← HN.out, HNq.out]; omega
    obtain ⟨x, hx, hx256, hxb, hxl⟩ := bits_left Hby.out Hunp.out hp (by rw [hN9]; omega)
    rw [hN8, hN9] at hxb
    rw [hN9] at hxl
    rw [hN8] at hx
    obtain ⟨g9, o9, x9, rfl, hg9, hx9, hc9⟩ := Hs9.out.int (k := q) (by have := (List.getElem?_eq_some_iff.1 hx).1; exact this)
    obtain rfl : x9 = (x : Int) := by rw [hx] at hx9; injection hx9 with h; exact h.symm
    obtain ⟨X, hX⟩ : ∃ X, X = x / 2 ^ (8 - r) := ⟨_, rfl⟩
    rw [← hX] at hxb hxl
    have hfit : okF ((r : Int), (X : Int)) := (okF_nat r X).2 ⟨by omega, hxl⟩
    have HA := veil (add_small B g (D ++ out.take q) [] (.slice Ad' (D.length + q) cd') (.slice none 0 0) (r : Int) (X : Int) w8 HWr8.out hfit (by simp))
    have hbits : unpack (D ++ out.take q) ++ fieldBits ([] ++ [((r : Int), (X : Int))]) = unpack D ++ fieldBits P := by
      rw [List.nil_append, unpack_append, Htk.out, List.append_assoc]
      congr 1
      simp only [fieldBits, List.flatMap_cons, List.flatMap_nil, List.append_nil, Int.toNat_natCast]
      rw [hxb]
      exact List.take_append_drop _ _
    have Hbits := veil hbits
    have HX := veil hX
    have hXl : X < 256 := by rw [hX]; exact Nat.lt_of_le_of_lt (Nat.div_le_self _ _) hx256
    have hql2 : q < out.length := (List.getElem?_eq_some_iff.1 hx).1
    clear hbits hfit hxb hx hx9 hN8 hN9 hX hcut
    go_wp2_with fail
    rw [show (x : Int) / 2 ^ (8 - r) = (X : Int) by rw [HX.out]; simp]
    refine HA.out.mono ?_
    rintro e w9 ⟨rfl, vp9, hW9, hon9, hsub9⟩
    have hon10 : Only (wrF g (.slice Ad D.length cd) (.slice Av P.length cv)) w w9 := Hon8.out.trans hon9 (fun q hq => Hsub8.out q hq)
    have hsub10 : ∀ x, wrF g (.slice Ad' (D.length + q) cd') vp9 x → wrF g (.slice Ad D.length cd) (.slice Av P.length cv) x ∨ w.heap.size ≤ x := fun x hx => by
      rcases hsub9 x hx with h | h
      · exact Hsub8.out x h
      · right; omega
    have HW9 := veil hW9; have Hon10 := veil hon10; have Hsub10 := veil hsub10
    clear hW9 hon9 hsub9 hon10 hsub10 HA HX
    go_wp2_with fail
    go_end0
    exact ⟨rfl, _, _, _, _, HW9.out, Hbits.out, by simp, Hon10.out, Hsub10.out⟩
end Go.Proofs.Ytbboakdfnjjddaa
