/- Texts shared by the claims of this seat, in one. -/
import Derived.Test.YtddkhkpdbjjboaaGreatBd14
import Derived.Test.YtddkhkpdbjjboaaGreatBd15
import Derived.Test.YtddkhkpdbjjboaaGreatBd13
import Derived.Test.YtddkhkpdbjjboaaGreatBd12
import Derived.Test.YtddkhkpdbjjboaaGreatBd9
import Derived.Test.YtddkhkpdbjjboaaGreatBd2
import Derived.Test.YtddkhkpdbjjboaaGreatBd5
import Derived.Deep.Cut
import Derived.Test.YtddkhkpdbjjboaaGreatBd1
import Derived.Test.YtddkhkpdbjjboaaGreatRows
import Derived.Test.YtddkhkpdbjjboaaGreatBd3
/- The reference's SegDecode: its contract. -/
namespace Go.Proofs.YtddkhkpdbjjboaaGreat
open Go.RowKit
set_option linter.unusedVariables false
set_option linter.unusedSimpArgs false
set_option maxRecDepth 100000

theorem eTs_parts {cs syms cs2 syms2 : List Int} (h : eTs cs syms cs2 syms2 = 0) : checkErr cs syms = 0 ∧ checkErr cs2 syms2 = 0 := by
  by_cases h1 : checkErr cs syms = 0
  · exact ⟨h1, by rw [eTs_two h1] at h; exact h⟩
  · rw [eTs_one h1] at h; exact absurd h h1
theorem enters_seg : Enters Tryz.prog 35 := Enters.of (Tryz.func35) (by decide) rfl
theorem fillB_eq (s : List Bool) : fillB s = !(decide (7 < s.length) || !(s.all id)) := by
  unfold fillB
  by_cases h : s.length < 8
  · rw [decide_eq_true h, decide_eq_false (by omega)]; simp
  · rw [decide_eq_false h, decide_eq_true (by omega)]; simp
set_option maxRecDepth 100000 in
set_option maxHeartbeats 2000000 in
theorem refSegDecode_any (cs syms : List Int) (A : Option Addr) (c : Nat) (cs2 syms2 : List Int) (A2 : Option Addr) (c2 G : Nat) (bs : List Int) (A3 : Option Addr) (c3 : Nat) (n : Int) (w : World)
    (hcs : cs.length = 16) (hn : syms.length ≤ maxLen) (hcap : syms.length ≤ c) (hb : ∀ x ∈ cs, -9223372036854775808 ≤ x ∧ x ≤ 9223372036854775807) (hs : Seen w G A (ints .i64 syms))
    (hcs2 : cs2.length = 16) (hn2 : syms2.length ≤ maxLen) (hcap2 : syms2.length ≤ c2) (hb2 : ∀ x ∈ cs2, -9223372036854775808 ≤ x ∧ x ≤ 9223372036854775807) (hs2 : Seen w G A2 (ints .i64 syms2))
    (hs3 : Seen w G A3 (ints .u8 bs)) (hby : Bytes bs) (hl : bs.length ≤ 1048576) (hG : G ≤ w.heap.size) :
    Calls Tryz.prog 18 #[tabsV cs A syms.length c cs2 A2 syms2.length c2, .slice A3 bs.length c3, .int .i64 n] w fun e w' => ∃ v, e = .returned (.tuple #[v, .int .i64 (eDec cs syms cs2 syms2 bs n)]) ∧ Owns w.heap.size [blkRow v (oDec cs syms cs2 syms2 bs n)] w' ∧ Below w.heap.size w w' := by
  have h17 : (tabCells cs A syms.length c).length = 17 := tabCells_length hcs
  have h17b : (tabCells cs2 A2 syms2.length c2).length = 17 := tabCells_length hcs2
  have h34 : (tabsCells cs A syms.length c cs2 A2 syms2.length c2).length = 34 := by unfold tabsCells; rw [List.length_append, h17, h17b]
  have HCk := veil (fun W h1 h2 hG => tablesCheck_any cs syms A c cs2 syms2 A2 c2 G W hcs hn hcap hb h1 hcs2 hn2 hcap2 hb2 h2 hG)
  have HPl := veil (fun W h hG => refPlain_any A3 c3 G bs W h hG (by omega))
  have hb0 := below1 w (.cells (tabsCells cs A syms.length c cs2 A2 syms2.length c2).toArray 27)
  have hz0 : (w.alloc (.cells (tabsCells cs A syms.length c cs2 A2 syms2.length c2).toArray 27)).heap.size = w.heap.size + 1 := by simp
  have hTB := Blk.new w (tabsCells cs A syms.length c cs2 A2 syms2.length c2) 27
  have hr := hTB.range
  obtain ⟨E, hE⟩ : ∃ E, E = eDec cs syms cs2 syms2 bs n := ⟨_, rfl⟩
  obtain ⟨O, hO⟩ : ∃ O, O = oDec cs syms cs2 syms2 bs n := ⟨_, rfl⟩
  rw [← hE, ← hO]
  have HOe : Hid (E ≠ 0 → O = []) := by show _ → _; intro h; rw [hO]; exact oDec_err (by rw [← hE]; exact h)
  have HE := veil hE
  have HO := veil hO
  have H34 := veil h34
  have Hby := veil hby; have Hl := veil hl; have Hcs := veil hcs; have Hcs2 := veil hcs2
  have HBk := veil (fun (N T g M : Nat) (fw rw_ : List (Int × Nat × Nat)) (hfw : fw = outWords cs syms) (hrw : rw_ = outWords cs2 syms2) (h1 : checkErr cs syms = 0) (h2 : checkErr cs2 syms2 = 0) (hM : M ≤ 140737488355328) (hTg : T < g) (hGT : G ≤ T) (before : Int) (s : List Bool) (W : World) (hb : -2047 ≤ before ∧ before ≤ 2047) (hg : g < W.heap.size) (hS : SrcD cs syms A c cs2 syms2 A2 c2 G T g M W s) =>
    refBlockOf_any (stepS fw rw_) (SrcD cs syms A c cs2 syms2 A2 c2 G T g M) 35 #[.pointer (some ⟨T, 0, none⟩), .pointer (some ⟨g, 0, none⟩)] g before s W enters_seg hb hg hS (fun W1 W2 s h hb => h.below hb (by omega) (by omega) (by omega)) (fun _ _ _ h => stepS_ne h)
      (fun first s W1 hW1 h => by
        subst hfw hrw
        cases first with
        | true => exact segNext_first cs syms A c cs2 syms2 A2 c2 G T g M s W1 hcs hcs2 h1 h2 hM (by omega) (by omega) hGT (by omega) h
        | false => exact segNext_rest cs syms A c cs2 syms2 A2 c2 G T g M s W1 hcs hcs2 h1 h2 hM (by omega) (by omega) hGT (by omega) h))
  have HSrc := veil (fun (T g M : Nat) (W : World) (s : List Bool) (a1 : Blk W T (tabsCells cs A syms.length c cs2 A2 syms2.length c2) 27) (a2 : Blk W g [.string (txt s)] 9) (a3 : Seen W G A (ints .i64 syms)) (a4 : Seen W G A2 (ints .i64 syms2)) (a5 : s.length ≤ M) => (⟨a1, a2, a3, a4, a5⟩ : SrcD cs syms A c cs2 syms2 A2 c2 G T g M W s))
  have HSb := veil (fun (T g M B : Nat) (W W' : World) (s : List Bool) (h : SrcD cs syms A c cs2 syms2 A2 c2 G T g M W s) (hb : Below B W W') (hT : T < B) (hg : g < B) (hG : G ≤ B) => h.below hb hT hg hG)
  have HSt := veil (fun (T g M : Nat) (W : World) (s : List Bool) (h : SrcD cs syms A c cs2 syms2 A2 c2 G T g M W s) => (⟨h.text, h.few⟩ : Blk W g [.string (txt s)] 9 ∧ s.length ≤ M))
  obtain ⟨R, hR⟩ : ∃ R : Nat → Nat → Nat → World → List Bool → Prop, R = fun T g M => SrcD cs syms A c cs2 syms2 A2 c2 G T g M := ⟨_, rfl⟩
  have hR' : ∀ T g M, SrcD cs syms A c cs2 syms2 A2 c2 G T g M = R T g M := fun T g M => by rw [hR]
  simp only [hR'] at HBk HSrc HSb HSt
  clear hcs hcs2 hb hb2 hby hE hO hl h17 h17b h34 hR hR' hn hn2 hcap hcap2
  unfold tabsV at HCk ⊢
  generalize tabsCells cs A syms.length c cs2 A2 syms2.length c2 = zs at *
  go_enter Tryz.func18, Tryz.ntmps18
  go_wp2_with (first
    | (refine wpList_load_mid rfl 27 (.tmp 3) rfl w.heap.size 0 rfl zs _ hr Tryz.underlying27 rfl (by rw [H34.out]; kernel_rfl) ?_)
    | fail)
  refine (HCk.out _ (hs.below hb0 hG) (hs2.below hb0 hG) (by rw [hz0]; omega)).mono ?_
  rintro e w1 ⟨rfl, hb1⟩
  have hTB1 := hTB.below hb1 (by rw [hz0]; omega)
  have hbw1 := hb0.trans (hb1.mono (by rw [hz0]; omega))
  have hz1 := hb1.size
  rw [hz0] at hz1
  clear hr hb0 HCk hb1 hTB
  by_cases h0 : eTs cs syms cs2 syms2 = 0
  · rw [h0]
    have HT0 : Hid (eTs cs syms cs2 syms2 = 0) := h0
    clear h0
    by_cases hrg : n < 0 ∨ 400 < n
    · have hE1 := eDec_n (bs := bs) HT0.out hrg
      rw [← HE.out] at hE1
      have hO1 := HOe.out (by rw [hE1]; decide)
      have HE1 := veil hE1
      have HO1 := veil hO1
      have HOu := veil (out_yes n 0 400 (by omega) w1)
      clear hE1 hO1 hrg
      go_wp2_with fail
      refine HOu.out.mono ?_
      rintro e w2 ⟨rfl, rfl⟩
      go_wp2
      go_ret2
      exact ⟨_, ret_two rfl (by rw [HE1.out]; rfl), by rw [HO1.out]; exact (Owns.nil hbw1.size).fresh _ _, hbw1⟩
    · have Hrg := veil hrg
      obtain ⟨N, hN, hN400⟩ : ∃ N : Nat, n = (N : Int) ∧ N ≤ 400 := ⟨n.toNat, by omega, by omega⟩
      subst hN
      have HOu := veil (out_no (N : Int) 0 400 (by omega) w1)
      have HPl1 := veil (HPl.out w1 (hs3.below hbw1 hG) (by omega))
      clear hrg HPl
      go_wp2_with fail
      refine HOu.out.mono ?_
      rintro e w2 ⟨rfl, rfl⟩
      go_wp2_with fail
      refine HPl1.out.mono ?_
      rintro e w3 ⟨v3, rfl, HO3, hb3⟩
      have hz3 := hb3.size
      have hbw3 := hbw1.trans (hb3.mono hbw1.size)
      have hTB3 := hTB1.below hb3 (by omega)
      clear HPl1 HOu hTB1
      by_cases hp : plainErr bs = 0
      · rw [hp]
        obtain ⟨P, hP, hPby, hPl⟩ : ∃ P, P = plainOut bs ∧ Bytes P ∧ P.length ≤ 1048576 := ⟨_, rfl, plain_bytes Hby.out, by
          have := plain_length bs
          have := Hl.out
          omega⟩
        rw [← hP] at HO3
        obtain ⟨Ap, cp, e3, hsp, hcp, hmp⟩ := HO3.seen (List.mem_cons_self ..)
        simp only [byteRow, intRow] at e3 hsp hcp
        subst e3
        have HDg := veil (digitsOf_any Ap cp w3.heap.size P w3 hsp hPby (Nat.le_refl _) hPl)
        obtain ⟨fw, hfw⟩ : ∃ fw, fw = outWords cs syms := ⟨_, rfl⟩
        obtain ⟨rw_, hrw⟩ : ∃ rw_, rw_ = outWords cs2 syms2 := ⟨_, rfl⟩
        have hSD : segD cs syms cs2 syms2 bs N = decS fw rw_ N 0 (unpack P) := by unfold segD; rw [hfw, hrw, hP]
        have HED : Hid ((segD cs syms cs2 syms2 bs N).1 ≠ 0 → E = (segD cs syms cs2 syms2 bs N).1) := fun h => HE.out.trans (eDec_dec HT0.out Hrg.out hp (by rw [Int.toNat_natCast]; exact h))
        have HEF : Hid ((segD cs syms cs2 syms2 bs N).1 = 0 → E = if fillB (segD cs syms cs2 syms2 bs N).2.2 = true then 0 else 4) := fun h => HE.out.trans (by rw [eDec_fill HT0.out Hrg.out hp (by rw [Int.toNat_natCast]; exact h), Int.toNat_natCast])
        have HOO : Hid (E = 0 → O = (segD cs syms cs2 syms2 bs N).2.1) := fun h => HO.out.trans (by unfold oDec; rw [if_pos (by rw [← HE.out]; exact h), Int.toNat_natCast])
        rw [hSD] at HED HEF HOO
        have HBk2 := veil (fun T g hTg hGT before s W hb hg hS => HBk.out N T g 8388608 fw rw_ hfw hrw (eTs_parts HT0.out).1 (eTs_parts HT0.out).2 (by omega) hTg hGT before s W hb hg hS)
        have HDS0 := veil (DS.start fw rw_ N (unpack P))
        have hPn := veil (show (unpack P).length ≤ 8388608 by rw [unpack_length]; omega)
        have hTB3 := veil hTB3
        clear HO3 hsp hfw hrw hSD hP hPby hp HBk HE HO
        go_wp2_with fail
        refine HDg.out.mono ?_
        rintro e w4 ⟨rfl, hb4⟩
        have hz4 := hb4.size
        have hbw4 := hbw3.trans (hb4.mono hbw3.size)
        have hTB4 := hTB3.out.below hb4 (by omega)
        have hbX := below1 w4 (.cells #[.string (txt (unpack P))] 9)
        have hXB := Blk.new w4 [.string (txt (unpack P))] 9
        have hR0 := HSrc.out w.heap.size w4.heap.size 8388608 _ (unpack P) (hTB4.below hbX (by omega)) hXB ((hs.below hbw4 hG).below hbX (by omega)) ((hs2.below hbw4 hG).below hbX (by omega)) hPn.out
        have hbw5 := hbw4.trans (hbX.mono hbw4.size)
        have HR0 := veil hR0
        obtain ⟨tx, htx⟩ : ∃ tx, tx = txt (unpack P) := ⟨_, rfl⟩
        rw [← htx] at HR0 hbw5 ⊢
        clear hR0 hXB hbX hTB4 hTB3 HDg hb4 htx hb3 hs hs2 hs3 hbw3 hbw1
        obtain ⟨g, hg⟩ : ∃ g, g = w4.heap.size := ⟨_, rfl⟩
        obtain ⟨W5, hW5⟩ : ∃ W5, W5 = w4.alloc (.cells #[.string tx] 9) := ⟨_, rfl⟩
        have hz5 : W5.heap.size = g + 1 := by rw [hW5, hg]; simp
        rw [← hW5, ← hg] at HR0
        rw [← hW5] at hbw5
        have HW5 := veil hW5; have Hg := veil hg
        have hgw : w.heap.size < g := by omega
        clear hW5 hg
        go_upto_region 10 with fail
        rw [← HW5.out, ← Hg.out]
        have hrow0 : Owns (g + 1) [blkRow (.slice none 0 0) []] W5 := (Owns.nil (by omega)).fresh _ _
        clear HW5 Hg
        go_wp2_with fail
        go_loopg [12, 13, 14, 15, 16, 35] N (fun gk v12 v13 v14 v15 v16 iv wr => ∃ (k : Nat) (acc : List (List Int)) (before : Int) (s : List Bool), gk = N - k ∧ k ≤ N ∧ iv = .int .i64 (k : Int) ∧ v13 = .int .i64 before ∧ Hid (DS fw rw_ N (unpack P) k acc before s) ∧ Hid (R w.heap.size g 8388608 wr s) ∧ Owns (g + 1) [blkRow v12 acc] wr ∧ Below w.heap.size w wr)
        case atStart => exact ⟨0, [], 0, unpack P, rfl, Nat.zero_le _, rfl, rfl, HDS0, HR0, hrow0, hbw5⟩
        case round =>
          obtain ⟨k, acc, before, s, rfl, hk, rfl, rfl, HDS, HTR, hO, hbw⟩ := hrel
          obtain ⟨Wr, hWr⟩ : ∃ Wr, Wr = wr := ⟨_, rfl⟩
          subst hWr
          have hTz := (HSt.out _ _ _ _ _ HTR.out).1.lt
          clear HDS0 hrow0 hbw5 HR0
          by_cases hlt : k < N
          · have hltz : (k : Int) < (N : Int) := by omega
            have HB := veil (HBk2.out w.heap.size g hgw hG before s Wr HDS.out.2.1 hTz HTR.out)
            go_wp2_with fail
            refine HB.out.mono ?_
            rintro e w6 ⟨rfl, hg6, hs6⟩
            have hosl := outBk_length (step := stepS fw rw_) before s
            obtain ⟨D, hD⟩ : ∃ D, D = gB (stepS fw rw_) before s := ⟨_, rfl⟩
            have HD := veil hD
            rw [← hD] at hs6 hosl ⊢
            have hob : outG D = outBk D := rfl
            rw [hob]
            obtain ⟨er, her⟩ : ∃ er, er = D.1 := ⟨_, rfl⟩
            obtain ⟨os, hos⟩ : ∃ os, os = outBk D := ⟨_, rfl⟩
            have Her := veil her
            have Hos := veil hos
            rw [← her, ← hos]
            rw [← hos] at hosl
            have Hosl : Hid ((ints .i64 os).length = 64) := by show _ = _; rw [ints_length, hosl]
            have hone := ints_one (k := .i64) (l := os)
            have hz6 := hg6.size
            have hO6 := hO.kept hg6 (by omega)
            have hbw6 := hbw.grown hg6 hbw.size (fun j hj => by injection hj with hj; omega)
            have hown := fun j hj => ((hO6.head).lt j hj).2
            have hB7 := Blk.new w6 (ints .i64 os) 37
            have hb7 := below1 w6 (.cells (ints .i64 os).toArray 37)
            have hO7 := hO6.alloc (.cells (ints .i64 os).toArray 37)
            have hbw7 := hbw6.trans (hb7.mono hbw6.size)
            obtain ⟨zs7, hys⟩ : ∃ zs7, zs7 = ints .i64 os := ⟨_, rfl⟩
            have Hys := veil hys
            have hz0' : zs7[0]? = some (.int .i64 (os.headD 0)) := by
              rw [hys]
              match os, hosl with
              | o :: os, _ => rfl
            have Hz0 := veil hz0'
            unfold blkV
            rw [← hys] at hB7 hb7 hO7 hbw7 Hosl hone ⊢
            have hacl : D.2.2.1.length ≤ 64 ∨ True := .inr trivial
            generalize (D.2.2.1.length : Int) = dl at *
            clear hD her hos hys HB hO hbw hz0' hacl hob
            by_cases he : er = 0
            · have he' : (gB (stepS fw rw_) before s).1 = 0 := by rw [← HD.out, ← Her.out]; exact he
              obtain ⟨_, _, ⟨s', hs'⟩, _⟩ := gB_in (fun _ _ _ h => stepS_ne h) he'
              have hnext := HDS.out.next hlt he' hs'
              rw [← HD.out, ← Hos.out] at hnext
              rw [← HD.out] at hs'
              have hTR6 := hs6 s' hs'
              have hTR7 := HSb.out _ _ _ _ _ _ _ hTR6 hb7 (by omega) (by omega) (by omega)
              have Hnext := veil hnext
              have HTR7 := veil hTR7
              have hacc : acc.length + 1 ≤ 1000000 := by have := HDS.out.1; omega
              have Hacc := veil hacc
              subst he
              clear he' hs' hs6 hnext hTR6 hTR7 HDS HTR hacc
              go_upto_region 17 with (first
                | (refine wpList_store_new w6 rfl 37 (.tmp 14) (.tmp 41) rfl zeroB.toArray zs7 rfl rfl (info_blkn Hosl.out) (by rw [Hosl.out]; rfl) hone ?_)
                | fail)
              obtain ⟨W7, hW7⟩ : ∃ W7, W7 = w6.alloc (.cells zs7.toArray 37) := ⟨_, rfl⟩
              have hz7 : W7.heap.size = w6.heap.size + 1 := by rw [hW7]; simp
              rw [← hW7] at hB7 hb7 hO7 hbw7 HTR7 ⊢
              clear hW7
              refine wp_region_held_drew (S := fun w' => Blk w' w6.heap.size zs7 37) (by kernel_rfl) hB7 (fun hHeld0 => ?_)
              refine take_pure 0 47 u12 _ rfl rfl (by kernel_rfl) (by kernel_rfl) (by kernel_rfl) (fun _ _ _ h => h) rfl (fun w' hS => by go_simp) hHeld0 rfl ?_
              refine take_load 1 48 37 (.tmp 14) w6.heap.size 0 zs7 _ rfl rfl (by kernel_rfl) (by kernel_rfl) (by kernel_rfl) (fun _ _ _ h => h) rfl rfl rfl (fun w' h => h.range) Tryz.underlying37 rfl (info_blkn Hosl.out) hHeld0 rfl ?_
              refine take_pure 4 51 (.pointer (some ⟨w6.heap.size, 0, none⟩)) _ rfl rfl (by kernel_rfl) (by kernel_rfl) (by kernel_rfl) (fun _ _ _ h => h) rfl (fun w' hS => by go_simp) hHeld0 rfl ?_
              refine take_pure 5 52 (.int .i64 (os.headD 0)) _ rfl rfl (by kernel_rfl) (by kernel_rfl) (by kernel_rfl) (fun _ _ _ h => h) rfl (fun w' hS => by have hc := hS.cell Hz0.out; go_simp) hHeld0 rfl ?_
              refine wpAnyH_ready (rs := [2]) (by kernel_rfl) (by simp) ?_
              refine AllReadyH.cons rfl (fun K hK => ?_) AllReadyH.nil
              refine step_buildBlk rfl (.tmp 48) rfl zs7 rfl Hosl.out ?_
              refine hK.out _ _ (hHeld0.below (below1 _ _) hHeld0.lt) (fun hHeld1 => ?_)
              clear hK K
              refine wpAnyH_ready (rs := [3]) (by kernel_rfl) (by simp) ?_
              refine AllReadyH.cons rfl (fun K hK => ?_) AllReadyH.nil
              refine step_ownB W7.drew rfl (.tmp 47) (.tmp 49) rfl (g + 1) u12 acc [] rfl hO7.drew os zs7 Hys.out hosl rfl Hacc.out ?_
              intro v' w8 hO8 hg8 hb8 hs8
              have hne8 : some w6.heap.size ≠ u12.ownBlock := fun e => by have := hown _ e.symm; omega
              refine hK.out _ _ (hHeld1.kept hg8 hne8) (fun hHeld2 => ?_)
              clear hK K
              refine take_pure 6 12 v' _ rfl rfl (by kernel_rfl) (by kernel_rfl) (by kernel_rfl) (fun _ _ _ h => h) rfl (fun w' hS => by go_simp) hHeld2 rfl ?_
              refine take_pure 7 13 (.int .i64 (os.headD 0)) _ rfl rfl (by kernel_rfl) (by kernel_rfl) (by kernel_rfl) (fun _ _ _ h => h) rfl (fun w' hS => by go_simp) hHeld2 rfl ?_
              refine wpAnyH_done (by kernel_rfl) ?_ _
              have hb78 : Below (g + 1) W7 w8 := below_of_drew hb8
              have HTR8 := veil (HSb.out _ _ _ _ _ _ _ HTR7.out hb78 (by omega) (by omega) (by omega))
              have hbw8 := hbw7.trans (hb78.mono (by omega))
              clear hg8 hb8 hO7 hbw7 hB7 hb7 HTR7 hO6 hbw6 hg6 hHeld0 hHeld1 hHeld2
              go_wp2_with fail
              go_roundg (N - (k + 1))
              case rel => exact ⟨k + 1, acc ++ [os], os.headD 0, s', rfl, by omega, by go_num, by rw [List.headD_eq_head?_getD], Hnext, HTR8, hO8, hbw8⟩
              case measure => omega
            · have he' : (gB (stepS fw rw_) before s).1 ≠ 0 := by rw [← HD.out, ← Her.out]; exact he
              have hq := HDS.out.err hlt he'
              rw [← HD.out, ← Her.out] at hq
              have hE1 : E = er := by rw [HED.out (by rw [hq]; exact he), hq]
              have hO1 := HOe.out (by rw [hE1]; exact he)
              have HE1 := veil hE1
              have HO1 := veil hO1
              have hbe : (er != 0) = true := by simpa using he
              clear he he' hq hE1 hO1 hs6
              go_wp2_with (first
                | (refine wpList_store_new w6 rfl 37 (.tmp 14) (.tmp 41) rfl zeroB.toArray zs7 rfl rfl (info_blkn Hosl.out) (by rw [Hosl.out]; rfl) hone ?_)
                | fail)
              go_ret2
              exact ⟨_, ret_two rfl (by rw [HE1.out]; rfl), by rw [HO1.out]; exact (Owns.nil hbw7.size).fresh _ _, hbw7⟩
          · obtain rfl : k = N := by omega
            have hq := HDS.out.done
            obtain ⟨hX, hXl⟩ := HSt.out _ _ _ _ _ HTR.out
            have hXc := hX.cell (i := 0) (v := .string (txt s)) rfl
            have hE1 : E = if fillB s = true then 0 else 4 := by rw [HEF.out (by rw [hq]), hq]
            have hsz : (txt s).size = s.length := txt_size s
            have HZ := veil (hasZero_any s Wr)
            have HQ := veil hq
            have hfe := fillB_eq s
            have hOe : fillB s = true → O = acc := fun h => by rw [HOO.out (by rw [hE1, if_pos h]), HQ.out]
            by_cases h7 : 7 < s.length
            · rw [decide_eq_true h7] at hfe
              simp only [Bool.true_or, Bool.not_true] at hfe
              rw [hfe, if_neg (by decide)] at hE1
              have hO1 := HOe.out (by rw [hE1]; decide)
              have HE1 := veil hE1
              have HO1 := veil hO1
              have h7z : (7 : Int) < (s.length : Int) := by omega
              clear hE1 hO1 hfe hOe hq HZ
              generalize txt s = tx2 at *
              go_wp2_with fail
              go_ret2
              exact ⟨_, ret_two rfl (by rw [HE1.out]; rfl), by rw [HO1.out]; exact (Owns.nil hbw.size).fresh _ _, hbw⟩
            · rw [decide_eq_false h7] at hfe
              have h7z : ¬ (7 : Int) < (s.length : Int) := by omega
              simp only [Bool.false_or, Bool.not_not] at hfe
              rw [← hfe] at HZ
              cases hfl : fillB s with
              | true =>
                rw [hfl] at HZ
                rw [hfl, if_pos rfl] at hE1
                have hO1 := hOe hfl
                have HE1 := veil hE1
                have HO1 := veil hO1
                clear hE1 hO1 hfe hOe hq hfl
                generalize txt s = tx2 at *
                go_wp2_with fail
                refine HZ.out.mono ?_
                rintro e w8 ⟨rfl, rfl⟩
                go_wp2_with fail
                go_ret2
                exact ⟨_, ret_two rfl (by rw [HE1.out]; rfl), by rw [HO1.out]; exact hO.down (by omega), hbw⟩
              | false =>
                rw [hfl] at HZ
                rw [hfl, if_neg (by decide)] at hE1
                have hO1 := HOe.out (by rw [hE1]; decide)
                have HE1 := veil hE1
                have HO1 := veil hO1
                clear hE1 hO1 hfe hOe hq hfl
                generalize txt s = tx2 at *
                go_wp2_with fail
                refine HZ.out.mono ?_
                rintro e w8 ⟨rfl, rfl⟩
                go_wp2_with fail
                go_ret2
                exact ⟨_, ret_two rfl (by rw [HE1.out]; rfl), by rw [HO1.out]; exact (Owns.nil hbw.size).fresh _ _, hbw⟩
      · have hE1 := eDec_plain (bs := bs) HT0.out Hrg.out hp
        rw [← HE.out] at hE1
        have hO1 := HOe.out (by rw [hE1]; exact hp)
        have HE1 := veil hE1
        have HO1 := veil hO1
        have hne : (plainErr bs != 0) = true := by simpa using hp
        obtain ⟨er, her⟩ : ∃ er, er = plainErr bs := ⟨_, rfl⟩
        rw [← her] at HE1 hne ⊢
        clear hE1 hO1 hp her
        go_wp2_with fail
        go_ret2
        exact ⟨_, ret_two rfl (by rw [HE1.out]; rfl), by rw [HO1.out]; exact (Owns.nil hbw3.size).fresh _ _, hbw3⟩
  · have hE1 := eDec_tab (bs := bs) (n := n) h0
    rw [← HE.out] at hE1
    have hO1 := HOe.out (by rw [hE1]; exact h0)
    have HE1 := veil hE1
    have HO1 := veil hO1
    have hne : (eTs cs syms cs2 syms2 != 0) = true := by simpa using h0
    obtain ⟨er, her⟩ : ∃ er, er = eTs cs syms cs2 syms2 := ⟨_, rfl⟩
    rw [← her] at HE1 hne ⊢
    clear hE1 hO1 h0 her
    go_wp2_with fail
    go_ret2
    exact ⟨_, ret_two rfl (by rw [HE1.out]; rfl), by rw [HO1.out]; exact (Owns.nil hbw1.size).fresh _ _, hbw1⟩
end Go.Proofs.YtddkhkpdbjjboaaGreat

/- The reference's ScanMend: its contract. -/
namespace Go.Proofs.YtddkhkpdbjjboaaGreat
open Go.RowKit
set_option linter.unusedVariables false
set_option linter.unusedSimpArgs false
set_option maxRecDepth 100000

set_option maxRecDepth 100000 in
set_option maxHeartbeats 2000000 in
theorem refScanMend_any (cs syms : List Int) (A : Option Addr) (c : Nat) (cs2 syms2 : List Int) (A2 : Option Addr) (c2 G : Nat) (bs : List Int) (A3 : Option Addr) (c3 : Nat) (n every : Int) (w : World)
    (hcs : cs.length = 16) (hn : syms.length ≤ maxLen) (hcap : syms.length ≤ c) (hb : ∀ x ∈ cs, -9223372036854775808 ≤ x ∧ x ≤ 9223372036854775807) (hs : Seen w G A (ints .i64 syms))
    (hcs2 : cs2.length = 16) (hn2 : syms2.length ≤ maxLen) (hcap2 : syms2.length ≤ c2) (hb2 : ∀ x ∈ cs2, -9223372036854775808 ≤ x ∧ x ≤ 9223372036854775807) (hs2 : Seen w G A2 (ints .i64 syms2))
    (hs3 : Seen w G A3 (ints .u8 bs)) (hby : Bytes bs) (hl : bs.length ≤ 1048576) (hcap3 : bs.length ≤ c3) (hG : G ≤ w.heap.size) :
    Calls Tryz.prog 10 #[tabsV cs A syms.length c cs2 A2 syms2.length c2, .slice A3 bs.length c3, .int .i64 n, .int .i64 every] w fun e w' => ∃ v v2, e = .returned (.tuple #[v, v2, .int .i64 (eHead cs syms cs2 syms2 bs n every)]) ∧ Owns w.heap.size [blkRow v (oMend cs syms cs2 syms2 bs n every), intRow 3 .i64 v2 (bMend cs syms cs2 syms2 bs n every)] w' ∧ Below w.heap.size w w' := by
  have h34 : (tabsCells cs A syms.length c cs2 A2 syms2.length c2).length = 34 := by unfold tabsCells; rw [List.length_append, tabCells_length hcs, tabCells_length hcs2]
  have HPi := veil (fun W h1 h2 h3 hG => refPieces_any cs syms A c cs2 syms2 A2 c2 G bs A3 c3 n every W hcs hn hcap hb h1 hcs2 hn2 hcap2 hb2 h2 h3 hby (by omega) hcap3 hG)
  have HDe := veil (fun p A' c' (m : Nat) G' W (h1 : Seen W G' A (ints .i64 syms)) h2 h3 (hp : Bytes p) (hpl : p.length ≤ 1048576) hG' => refSegDecode_any cs syms A c cs2 syms2 A2 c2 G' p A' c' (m : Int) W hcs hn hcap hb h1 hcs2 hn2 hcap2 hb2 h2 h3 hp hpl hG')
  have HRo := veil (fun (p : List Int) (hp : Bytes p) (m : Int) => oDec_rows (cs := cs) (syms := syms) (cs2 := cs2) (syms2 := syms2) hcs hcs2 hp m)
  have HMr := veil (fun (ns : List Nat) k h => mendO_rows (cs := cs) (syms := syms) (cs2 := cs2) (syms2 := syms2) (ps := splitP bs) hcs hcs2 (fun p hp => splitP_bytes hby hp) ns k h)
  have hb0 := below1 w (.cells (tabsCells cs A syms.length c cs2 A2 syms2.length c2).toArray 27)
  have hz0 : (w.alloc (.cells (tabsCells cs A syms.length c cs2 A2 syms2.length c2).toArray 27)).heap.size = w.heap.size + 1 := by simp
  have hTB := Blk.new w (tabsCells cs A syms.length c cs2 A2 syms2.length c2) 27
  have HPB := veil (fun p (h : p ∈ splitP bs) => (⟨splitP_bytes hby h, Nat.le_trans (splitP_in h).1 hl⟩ : Bytes p ∧ p.length ≤ 1048576))
  obtain ⟨O, hO⟩ : ∃ O, O = oMend cs syms cs2 syms2 bs n every := ⟨_, rfl⟩
  obtain ⟨Bd, hBd⟩ : ∃ Bd, Bd = bMend cs syms cs2 syms2 bs n every := ⟨_, rfl⟩
  rw [← hO, ← hBd]
  have HO := veil hO
  have HBd := veil hBd
  have H34 := veil h34
  have Hl := veil hl
  clear hcs hcs2 hb hb2 hO hBd h34 hl hn hn2 hcap hcap2 hby
  unfold tabsV at HPi HDe ⊢
  generalize tabsCells cs A syms.length c cs2 A2 syms2.length c2 = zs at *
  have hr0 := hTB.range
  go_enter Tryz.func10, Tryz.ntmps10
  go_wp2_with (first
    | (refine wpList_load_mid rfl 27 (.tmp 4) rfl w.heap.size 0 rfl zs _ hr0 Tryz.underlying27 rfl (by rw [H34.out]; kernel_rfl) ?_)
    | fail)
  refine (HPi.out _ (hs.below hb0 hG) (hs2.below hb0 hG) (hs3.below hb0 hG) (by rw [hz0]; omega)).mono ?_
  rintro e w1 ⟨vs, pv, mv, rfl, hsr, HO1, hb1⟩
  have hTB1 := hTB.below hb1 (by rw [hz0]; omega)
  have hbw1 := hb0.trans (hb1.mono (by rw [hz0]; omega))
  have hz1 := hb1.size
  rw [hz0] at hz1
  obtain ⟨Ap, cp, hpv, hsp, _, _⟩ := HO1.seen (List.mem_cons_self ..)
  obtain rfl : pv = .slice Ap vs.length cp := hpv
  have hsp' : Seen w1 w1.heap.size Ap vs := hsp
  clear hr0 hb0 HPi hb1 hTB HO1 hsp
  by_cases h0 : eHead cs syms cs2 syms2 bs n every = 0
  · have hP1 : headP cs syms cs2 syms2 bs n every = splitP bs := if_pos h0
    rw [h0]
    rw [hP1] at hsr
    obtain ⟨hrg, hT0, hsp0⟩ := eHead_zero h0
    obtain ⟨Ev, hEv, hEv100⟩ : ∃ Ev : Nat, every = (Ev : Int) ∧ Ev ≤ 100 := ⟨every.toNat, by omega, by omega⟩
    obtain ⟨Nn, hNn, hNn400⟩ : ∃ Nn : Nat, n = (Nn : Int) ∧ Nn ≤ 400 := ⟨n.toNat, by omega, by omega⟩
    subst hEv hNn
    have hcnt := splitP_count hsp0
    have hO1 := HO.out.trans (if_pos h0)
    have hB1 := HBd.out.trans (if_pos h0)
    rw [Int.toNat_natCast, Int.toNat_natCast] at hO1 hB1
    have hmk := run_make_zeros Nn (by omega) w1
    have hb2 := below1 w1 (.cells (rowsC (List.replicate Nn zero64)).toArray 37)
    have hBg := Blk.new w1 (rowsC (List.replicate Nn zero64)) 37
    obtain ⟨W2, hW2⟩ : ∃ W2, W2 = w1.alloc (.cells (rowsC (List.replicate Nn zero64)).toArray 37) := ⟨_, rfl⟩
    have hz2 : W2.heap.size = w1.heap.size + 1 := by rw [hW2]; simp
    rw [← hW2] at hmk hb2 hBg
    obtain ⟨g, hg⟩ : ∃ g, g = w1.heap.size := ⟨_, rfl⟩
    have HPa := veil (parts_any Nn Ev W2 (by omega) (by omega))
    have hps := partsN_sum Nn Ev
    have hpi := partsN_in Nn Ev
    have hpl := partsN_len Nn Ev
    obtain ⟨ps, hpsd⟩ : ∃ ps, ps = partsN Nn Ev := ⟨_, rfl⟩
    rw [← hpsd] at hO1 hB1 HPa hps hpi hpl
    have Hps := veil hps; have Hpi := veil hpi
    have hMr := HMr.out ps
    have hbl := Hl.out
    have hsrl := hsr.1
    have hpc : (splitP bs).length ≤ 1048577 := by omega
    obtain ⟨pp, hpp⟩ : ∃ pp, pp = splitP bs := ⟨_, rfl⟩
    rw [← hpp] at hO1 hB1 HPB hsr hsrl hMr hpc
    have Hsrl := veil hsrl; have HO1 := veil hO1; have HB1 := veil hB1; have HMr := veil hMr
    have hTB2 := hTB1.below hb2 (by omega)
    have hsp2 := hsp'.below hb2 (Nat.le_refl _)
    have hsr2 := hsr.below hb2 (by omega)
    have hbw2 := hbw1.trans (hb2.mono hbw1.size)
    have hs2' := hs2.below hbw2 hG
    have hs' := hs.below hbw2 hG
    have hTg : w.heap.size < g := by omega
    have hGg : G ≤ g := by omega
    rw [← hg] at hsp2 hBg hz2 hmk
    have hbw2' := hbw2
    have HTB := veil hTB2; have Hsp := veil hsp2; have Hsr := veil hsr2; have Hbw2 := veil hbw2; have Hs := veil hs'; have Hs2 := veil hs2'; have HBg := veil hBg
    have hvl : vs.length ≤ 1048577 := by omega
    have Hg := veil hg
    have H0 := veil h0
    clear hpsd hps hpi h0 hP1 hrg hT0 hsp0 HO HBd hpp hsrl hO1 hB1 hMr hcnt hTB1 hTB2 hsp' hsp2 hsr hsr2 hbw1 hbw2 hs hs2 hs3 hs' hs2' hBg hb2 hW2 hpc hg hbw2' hz1
    go_wp2_with fail
    refine HPa.out.mono ?_
    rintro e w3 ⟨lv, rfl, HOp, hb3⟩
    obtain ⟨Al, cl, hlv, hsl, _, _⟩ := HOp.seen (List.mem_cons_self ..)
    have hvv : lv = .slice Al ps.length cl := by
      have h9 : lv = .slice Al (ps.map Int.ofNat).length cl := hlv
      rw [List.length_map] at h9; exact h9
    subst lv
    have hz3 := hb3.size
    have HOp' := HOp
    rw [hz2] at HOp'
    have HBg3 := veil (HBg.out.below hb3 (by omega))
    have hO0 : Owns (g + 1) [intRow 3 .i64 (.slice none 0 0) [], intRow 3 .i64 (.slice Al ps.length cl) (ps.map Int.ofNat)] w3 := HOp'.fresh _ _
    have HO0 := veil hO0
    have HA0 : Hid (([] : List (List Int)) = mendO cs syms cs2 syms2 pp (ps.take 0)) := by show _ = _; simp [mendO]
    have HB0 : Hid (([] : List Int) = mendB cs syms cs2 syms2 pp (ps.take 0)) := by show _ = _; simp [mendB]
    have HG0 : Hid (W2.grownBy w3 (some g)) := grown_below (World.grownBy.refl W2 (some g)) hb3 (Nat.le_refl _)
    have HZ0 : Hid (Blk w3 g (rowsC ([] ++ List.replicate (Nn - 0) zero64)) 37) := HBg3.out
    clear HOp HOp' hlv hsl hb3 HBg hO0 HPa hmk HBg3 hz3
    go_wp2_with fail
    go_loopg [15, 16, 17, 18, 19, 20, 21, 40] ps.length (fun gk bv av kv nv gv lv ev iv wr => ∃ (k at_ : Nat) (acc : List (List Int)) (bad : List Int), gk = ps.length - k ∧ k ≤ ps.length ∧ iv = .int .i64 (k : Int) ∧ av = .int .i64 (at_ : Int) ∧ at_ = (ps.take k).sum ∧ bad.length ≤ k ∧ Hid (acc = mendO cs syms cs2 syms2 pp (ps.take k)) ∧ Hid (bad = mendB cs syms cs2 syms2 pp (ps.take k)) ∧ Hid (Blk wr g (rowsC (acc ++ List.replicate (Nn - at_) zero64)) 37) ∧ Hid (Owns (g + 1) [intRow 3 .i64 bv bad, intRow 3 .i64 (.slice Al ps.length cl) (ps.map Int.ofNat)] wr) ∧ Hid (W2.grownBy wr (some g)))
    case atStart => exact ⟨0, 0, [], [], rfl, Nat.zero_le _, rfl, rfl, by simp, by simp, HA0, HB0, HZ0, HO0, HG0⟩
    case round =>
      clear HA0 HB0 HZ0 HO0 HG0
      obtain ⟨k, at_, acc, bad, rfl, hk, rfl, rfl, hat, hbk, HA, HBa, HBk, HOo, HGr⟩ := hrel
      obtain ⟨Wr, hWr⟩ : ∃ Wr, Wr = wr := ⟨_, rfl⟩
      subst hWr
      have hzr := HGr.out.size
      have hMrk := HMr.out k hk
      rw [← HA.out, ← hat] at hMrk
      obtain ⟨hacr, hacl⟩ := hMrk
      by_cases hlt : k < ps.length
      · have hltz : (k : Int) < (ps.length : Int) := by omega
        have hsl : Seen Wr Wr.heap.size Al (ints .i64 (ps.map Int.ofNat)) := by
          obtain ⟨A7, c7, e7, h7, _, _⟩ := HOo.out.seen (List.mem_cons_of_mem _ (List.mem_cons_self ..))
          have e7' : (Value.slice Al ps.length cl) = .slice A7 (ps.map Int.ofNat).length c7 := e7
          obtain ⟨rfl, _⟩ : Al = A7 ∧ cl = c7 := by rw [List.length_map] at e7'; simpa using e7'
          exact h7
        obtain ⟨gl, ol, x, rfl, hgl, hx, hcx⟩ := hsl.int (k := k) (by rw [List.length_map]; exact hlt)
        obtain ⟨m, hm⟩ := some_at hlt
        obtain rfl : x = (m : Int) := by rw [List.getElem?_map, hm] at hx; simpa using hx.symm
        have hm400 := Hpi.out m (List.mem_of_getElem? hm)
        have hst : (ps.take (k + 1)).sum = at_ + m := by rw [fc_snoc hm, hat]; simp
        have hsk := take_sum_le ps (k + 1)
        rw [Hps.out, hst] at hsk
        have hmo := mendO_next (cs := cs) (syms := syms) (cs2 := cs2) (syms2 := syms2) (ps := pp) hm
        have hmb := mendB_next (cs := cs) (syms := syms) (cs2 := cs2) (syms2 := syms2) (ps := pp) hm
        rw [← HA.out] at hmo
        rw [← HBa.out] at hmb
        have Hmo := veil hmo; have Hmb := veil hmb; have Hst := veil hst
        have hrep : List.replicate (Nn - at_) zero64 = List.replicate m zero64 ++ List.replicate (Nn - (at_ + m)) zero64 := by rw [List.replicate_append_replicate]; congr 1; omega
        have Hrep := veil hrep
        have Hacr := veil hacr; have Hacl := veil hacl
        have hwat : IntKind.i64.wrap ((at_ : Int) + (m : Int)) = (at_ : Int) + (m : Int) := by rw [IntKind.wrap_i64]; omega
        clear hmo hmb hst hrep hx hm hsl hat hacr hacl
        by_cases hkv : k < vs.length
        · have hkvz : (k : Int) < (vs.length : Int) := by omega
          obtain ⟨A5, c5, p, hv5, hp5, hs5, hl5⟩ := ((Hsr.out).of fun A xs h => h.grown HGr.out hGg (by omega)).at (j := k) (by have := Hsrl.out; omega)
          obtain ⟨gp, op, rfl, hgp, hcp⟩ := (Hsp.out.grown HGr.out (Nat.le_refl _) (by omega)).cell hv5
          obtain ⟨hpb, hpl5⟩ := HPB.out p (List.mem_of_getElem? hp5)
          obtain ⟨hrow, hcount⟩ := HRo.out p hpb (m : Int)
          have hgood := goodM_some (cs := cs) (syms := syms) (cs2 := cs2) (syms2 := syms2) (m := m) hp5
          have hblk := blkM_good (cs := cs) (syms := syms) (cs2 := cs2) (syms2 := syms2) (m := m) hp5
          have hGd := grown_below HGr.out (Below.refl Wr.heap.size Wr).drew (by omega)
          have hC := HDe.out p A5 c5 m G Wr.drew (Hs.out.grown hGd hGg (by omega)) (Hs2.out.grown hGd hGg (by omega)) hs5 hpb hpl5 (by show G ≤ Wr.heap.size; omega)
          have hTBr := HTB.out.kept HGr.out (by simp; omega)
          have hlost := oDec_err (cs := cs) (syms := syms) (cs2 := cs2) (syms2 := syms2) (bs := p) (n := (m : Int))
          obtain ⟨er, her⟩ : ∃ er, er = eDec cs syms cs2 syms2 p m := ⟨_, rfl⟩
          obtain ⟨ob, hob⟩ : ∃ ob, ob = oDec cs syms cs2 syms2 p m := ⟨_, rfl⟩
          rw [← her] at hC hcount hgood hblk hlost
          rw [← hob] at hC hrow hcount hblk hlost
          have HC := veil hC; have Hrow := veil hrow; have Hcount := veil hcount; have Hgood := veil hgood; have Hblk := veil hblk; have Hlost := veil hlost
          clear hC hGd hrow hcount hgood hblk hlost her hob hv5 hp5 hs5 hl5 hpb hpl5
          go_upto_region 12 with fail
          refine wp_region_held_drew (S := fun w' => Blk w' w.heap.size zs 27 ∧ w'.cell? ⟨gp, op + k, none⟩ = some (.slice A5 p.length c5)) (by kernel_rfl) ⟨hTBr, hcp⟩ (fun hHeld0 => ?_)
          refine take_load 0 50 27 (.tmp 4) w.heap.size 0 zs _ rfl rfl (by kernel_rfl) (by kernel_rfl) (by kernel_rfl) (fun _ _ _ h => h) rfl rfl rfl (fun w' h => h.1.range) Tryz.underlying27 rfl (by rw [H34.out]; kernel_rfl) hHeld0 rfl ?_
          refine take_pure 1 51 (.slice (some ⟨gp, op, none⟩) vs.length cp) _ rfl rfl (by kernel_rfl) (by kernel_rfl) (by kernel_rfl) (fun _ _ _ h => h) rfl (fun w' hS => by go_simp) hHeld0 rfl ?_
          refine take_pure 2 52 (.int .i64 (k : Int)) _ rfl rfl (by kernel_rfl) (by kernel_rfl) (by kernel_rfl) (fun _ _ _ h => h) rfl (fun w' hS => by go_simp) hHeld0 rfl ?_
          refine take_pure 3 53 (.pointer (some ⟨gp, op + k, none⟩)) _ rfl rfl (by kernel_rfl) (by kernel_rfl) (by kernel_rfl) (fun _ _ _ h => h) rfl (fun w' hS => by go_simp) hHeld0 rfl ?_
          refine take_pure 4 54 (.slice A5 p.length c5) _ rfl rfl (by kernel_rfl) (by kernel_rfl) (by kernel_rfl) (fun _ _ _ h => h) rfl (fun w' hS => by have hc9 := hS.2; go_simp) hHeld0 rfl ?_
          refine take_pure 5 55 (.int .i64 (m : Int)) _ rfl rfl (by kernel_rfl) (by kernel_rfl) (by kernel_rfl) (fun _ _ _ h => h) rfl (fun w' hS => by go_simp) hHeld0 rfl ?_
          refine wpAnyH_ready (rs := [6]) (by kernel_rfl) (by simp) ?_
          refine AllReadyH.cons rfl (fun K hK => ?_) AllReadyH.nil
          go_simp
          refine HC.out.mono ?_
          rintro e w5 ⟨v5, rfl, HO5, hb5⟩
          have hb5' : Below Wr.heap.size Wr w5 := below_of_drew hb5
          refine hK.out _ _ ⟨hHeld0.1.below hb5 hHeld0.1.lt, (hb5.cell (by show gp < Wr.heap.size; omega)).trans hHeld0.2⟩ (fun hHeld1 => ?_)
          clear hK K
          refine take_pure 7 49 (.tuple #[v5, .int .i64 er]) _ rfl rfl (by kernel_rfl) (by kernel_rfl) (by kernel_rfl) (fun _ _ _ h => h) rfl (fun w' hS => by go_simp) hHeld1 rfl ?_
          refine take_pure 8 57 v5 _ rfl rfl (by kernel_rfl) (by kernel_rfl) (by kernel_rfl) (fun _ _ _ h => h) rfl (fun w' hS => by go_simp) hHeld1 rfl ?_
          refine take_pure 9 58 (.int .i64 er) _ rfl rfl (by kernel_rfl) (by kernel_rfl) (by kernel_rfl) (fun _ _ _ h => h) rfl (fun w' hS => by go_simp) hHeld1 rfl ?_
          refine take_pure 10 20 v5 _ rfl rfl (by kernel_rfl) (by kernel_rfl) (by kernel_rfl) (fun _ _ _ h => h) rfl (fun w' hS => by go_simp) hHeld1 rfl ?_
          refine take_pure 11 21 (.int .i64 er) _ rfl rfl (by kernel_rfl) (by kernel_rfl) (by kernel_rfl) (fun _ _ _ h => h) rfl (fun w' hS => by go_simp) hHeld1 rfl ?_
          refine wpAnyH_done (by kernel_rfl) ?_ _
          obtain ⟨A6, c6, hv6, hs6, hc6, hm6⟩ := HO5.seen (List.mem_cons_self ..)
          obtain rfl : v5 = .slice A6 ob.length c6 := hv6
          have hz5 := hb5'.size
          have HG5 := veil (grown_below HGr.out hb5' (by omega))
          have HO6 := veil (HOo.out.below hb5')
          have HB6 := HBk.out.below hb5' (by omega)
          have Hs6 := veil hs6
          clear HO5 hb5 hb5' hs6 hHeld0 hHeld1 hTBr HC HOo hcp hcx HGr
          have hatN : at_ ≤ Nn := by omega
          obtain ⟨dp, hdp, hdp2⟩ : ∃ dp, cutR (some ⟨g, 0, none⟩) at_ Nn Nn = .slice dp (Nn - at_) (Nn - at_) ∧ (at_ < Nn → dp = some ⟨g, at_ * 64, none⟩) := by
            refine ⟨_, rfl, fun h => ?_⟩
            rw [if_neg (by omega)]
            simp [addr_add]
          have hce := fun u => run_cutR_end (some ⟨g, 0, none⟩) Nn Nn at_ hatN u
          rw [hdp] at hce
          have Hdp2 := veil hdp2
          clear hdp hdp2
          have hrl0 := rowsC_length (n := 64) (L := acc ++ List.replicate (Nn - at_) zero64) (fun r hr => by
            rcases List.mem_append.1 hr with h | h
            · exact Hacr.out r h
            · exact zrow_len _ r h)
          rw [List.length_append, List.length_replicate, Hacl.out] at hrl0
          by_cases he : er = 0
          · subst he
            have hoc := Hcount.out rfl
            have hoc' : ob.length = m := by omega
            have hrl := rowsC_length Hrow.out
            have hput := rowsC_put (acc := acc) (ob := ob) (n := Nn - at_) Hacr.out Hrow.out (zrow_len _) (by omega)
            rw [Hacl.out, hoc', show Nn - at_ - m = Nn - (at_ + m) by omega] at hput
            have hgd := Hgood.out
            rw [decide_eq_true rfl] at hgd
            have HA2 : Hid (acc ++ ob = mendO cs syms cs2 syms2 pp (ps.take (k + 1))) := by show _ = _; rw [Hmo.out, Hblk.out rfl]
            have HB2 : Hid (bad = mendB cs syms cs2 syms2 pp (ps.take (k + 1))) := by show _ = _; rw [Hmb.out, hgd, if_pos rfl, List.append_nil]
            have Hput := veil hput; have Hrl := veil hrl; have Hoc := veil hoc'
            clear hoc hoc' hput hrl hgd
            go_wp2_with (first
              | (refine wpList_copy_blk w5 rfl (.tmp 63) (.tmp 64) 29 29 rfl dp A6 (Nn - at_) (Nn - at_) ob.length c6 g (at_ * 64) w5.heap.size rfl rfl (rowsC (acc ++ List.replicate (Nn - at_) zero64)) (rowsC ob) 37 Tryz.underlying29 HB6 Hs6.out Hrl.out (by rw [Hoc.out]; omega) (fun h => Hdp2.out (by rw [Hoc.out] at h; omega)) (by rw [Hrl.out, hrl0, Hoc.out]; omega) rowsC_ones ?_; intro w6 HB7 hg7)
              | fail)
            have hz6 := hg7.size
            have HG7 := HG5.out.trans hg7
            have HO7 := HO6.out.kept hg7 (by omega)
            go_roundg (ps.length - (k + 1))
            case rel => exact ⟨k + 1, at_ + m, acc ++ ob, bad, rfl, by omega, by go_num, by go_num, Hst.out.symm, by omega, HA2, HB2, veil (by rw [Hput.out] at HB7; exact HB7), veil HO7, veil HG7⟩
            case measure => omega
          · have hob := Hlost.out he
            subst hob
            have hbe : (er == 0) = false := by simpa using he
            have hgd := Hgood.out
            rw [decide_eq_false he] at hgd
            have HA2 : Hid (acc ++ List.replicate m zero64 = mendO cs syms cs2 syms2 pp (ps.take (k + 1))) := by show _ = _; rw [Hmo.out, blkM_lost hgd]
            have HB2 : Hid (bad ++ [(k : Int)] = mendB cs syms cs2 syms2 pp (ps.take (k + 1))) := by show _ = _; rw [Hmb.out, hgd, if_neg (by decide)]
            clear hgd he
            go_wp2_with (first
              | (refine wpList_copy_blk w5 rfl (.tmp 63) (.tmp 64) 29 29 rfl dp A6 (Nn - at_) (Nn - at_) 0 c6 g (at_ * 64) w5.heap.size rfl rfl (rowsC (acc ++ List.replicate (Nn - at_) zero64)) [] 37 Tryz.underlying29 HB6 (.inl rfl) rfl (by omega) (fun h => by omega) (by rw [hrl0]; simp; omega) (by simp) ?_; intro w6 HB7 hg7)
              | (at_builtin; go_loud (refine wpList_ownI w6 rfl (.tmp 68) (.tmp 70) _ rfl (g + 1) 3 .i64 8 elem_int u15 bad [intRow 3 .i64 (.slice (some ⟨gl, ol, none⟩) ps.length cl) (ps.map Int.ofNat)] rfl (HO6.out.kept hg7 (by omega)) [(k : Int)] rfl (by unfold maxLen; simp; omega) (by simp; omega) ?_); intro v8 w8 HO8 hb8 hz8)
              | fail)
            have hz6 := hg7.size
            have HG7 := grown_below (HG5.out.trans hg7) hb8 (by omega)
            have HB8 := HB7.below hb8 (by omega)
            simp only [List.length_nil, Nat.add_zero, List.append_nil, List.take_append_drop] at HB8
            rw [Hrep.out, ← List.append_assoc] at HB8
            go_roundg (ps.length - (k + 1))
            case rel => exact ⟨k + 1, at_ + m, acc ++ List.replicate m zero64, bad ++ [(k : Int)], rfl, by omega, by go_num, by go_num, Hst.out.symm, by simp; omega, HA2, HB2, veil HB8, veil HO8, veil HG7⟩
            case measure => omega
        · have hkvz : ¬ (k : Int) < (vs.length : Int) := by omega
          have hgd := goodM_none (cs := cs) (syms := syms) (cs2 := cs2) (syms2 := syms2) (ps := pp) (k := k) (m := m) (by have := Hsrl.out; omega)
          have HA2 : Hid (acc ++ List.replicate m zero64 = mendO cs syms cs2 syms2 pp (ps.take (k + 1))) := by show _ = _; rw [Hmo.out, blkM_lost hgd]
          have HB2 : Hid (bad ++ [(k : Int)] = mendB cs syms cs2 syms2 pp (ps.take (k + 1))) := by show _ = _; rw [Hmb.out, hgd, if_neg (by decide)]
          have HB8 := HBk.out
          rw [Hrep.out, ← List.append_assoc] at HB8
          clear hgd HBk
          go_wp2_with (first
            | (at_builtin; go_loud (refine wpList_ownI Wr rfl (.tmp 68) (.tmp 70) _ rfl (g + 1) 3 .i64 8 elem_int u15 bad [intRow 3 .i64 (.slice (some ⟨gl, ol, none⟩) ps.length cl) (ps.map Int.ofNat)] rfl HOo.out [(k : Int)] rfl (by unfold maxLen; simp; omega) (by simp; omega) ?_); intro v8 w8 HO8 hb8 hz8)
            | fail)
          have HG7 := grown_below HGr.out hb8 (by omega)
          have HB9 := HB8.below hb8 (by omega)
          go_roundg (ps.length - (k + 1))
          case rel => exact ⟨k + 1, at_ + m, acc ++ List.replicate m zero64, bad ++ [(k : Int)], rfl, by omega, by go_num, by go_num, Hst.out.symm, by simp; omega, HA2, HB2, veil HB9, veil HO8, veil HG7⟩
          case measure => omega
      · obtain rfl : k = ps.length := by omega
        have htk : ps.take ps.length = ps := List.take_of_length_le (Nat.le_refl _)
        have ha := HA.out
        have hb := HBa.out
        rw [htk] at ha hb hat
        rw [Hps.out] at hat
        rw [hat] at hacl
        have hO1 : O = acc := HO1.out.trans ha.symm
        have hB1 : Bd = bad := HB1.out.trans hb.symm
        have hBl := HBk.out
        rw [hat, Nat.sub_self, List.replicate_zero, List.append_nil] at hBl
        have hown := own_with (B0 := w.heap.size) (g := g) (n := Nn) (by omega) hBl hacr hacl (by unfold maxLen; omega) HOo.out.swap.tail
        have hfin := Hbw2.out.grown HGr.out Hbw2.out.size (fun j hj => by injection hj with hj; omega)
        have Hown := veil hown; have HO2 := veil hO1; have HB2 := veil hB1
        clear ha hb hO1 hB1 hBl hown hacr hacl htk HMr
        go_wp2_with fail
        go_ret3
        exact ⟨_, _, ret_three rfl rfl (by rw [H0.out]; rfl), by rw [HO2.out, HB2.out]; exact Hown.out, hfin⟩
  · obtain ⟨hO1, hB1⟩ := oMend_err h0
    have hO1 := HO.out.trans hO1
    have hB1 := HBd.out.trans hB1
    have HO1 := veil hO1
    have HB1 := veil hB1
    have hne : (eHead cs syms cs2 syms2 bs n every != 0) = true := by simpa using h0
    obtain ⟨er, her⟩ : ∃ er, er = eHead cs syms cs2 syms2 bs n every := ⟨_, rfl⟩
    rw [← her] at hne ⊢
    have Her := veil her
    clear hO1 hB1 h0 her hsr
    go_wp2_with fail
    go_ret3
    exact ⟨_, _, ret_three rfl rfl (by rw [← Her.out]; rfl), by rw [HO1.out, HB1.out]; exact ((Owns.nil hbw1.size).fresh _ _).fresh _ _, hbw1⟩
end Go.Proofs.YtddkhkpdbjjboaaGreat

/- What scan's Decode and Mend answer: rows of 64 numbers. -/
namespace Go.Proofs.YtddkhkpdbjjboaaGreat
set_option linter.unusedVariables false
set_option linter.unusedSimpArgs false
set_option maxRecDepth 100000

theorem oMend_rows {cs syms cs2 syms2 bs : List Int} (hcs : cs.length = 16) (hcs2 : cs2.length = 16) (hby : Bytes bs) (n every : Int) : (∀ r ∈ oMend cs syms cs2 syms2 bs n every, r.length = 64) ∧ (oMend cs syms cs2 syms2 bs n every).length ≤ 1000000 ∧ (bMend cs syms cs2 syms2 bs n every).length ≤ 1000000 := by
  by_cases h : eHead cs syms cs2 syms2 bs n every = 0
  · obtain ⟨hrg, _, _⟩ := eHead_zero h
    obtain ⟨h1, h2⟩ := mendO_rows (cs := cs) (syms := syms) (cs2 := cs2) (syms2 := syms2) (ps := splitP bs) hcs hcs2 (fun p hp => splitP_bytes hby hp) (partsN n.toNat every.toNat) (partsN n.toNat every.toNat).length (Nat.le_refl _)
    rw [List.take_length] at h1 h2
    rw [partsN_sum] at h2
    have h3 := mendB_len (cs := cs) (syms := syms) (cs2 := cs2) (syms2 := syms2) (splitP bs) (partsN n.toNat every.toNat)
    have h4 := partsN_len n.toNat every.toNat
    unfold oMend bMend
    rw [if_pos h, if_pos h]
    exact ⟨h1, by omega, by omega⟩
  · unfold oMend bMend
    rw [if_neg h, if_neg h]; simp
end Go.Proofs.YtddkhkpdbjjboaaGreat

/- The reference's comparison of two lists of blocks tells whether they are equal. -/
namespace Go.Proofs.YtddkhkpdbjjboaaGreat
open Go.RowKit
set_option linter.unusedVariables false
set_option linter.unusedSimpArgs false
set_option maxRecDepth 100000

theorem blk_neq (cs ds : List Int) (hc : cs.length = 64) (hd : ds.length = 64) (u : World) : (binOp .neq 37 (blkV cs) (blkV ds)).run Tryz.prog u = .ok (.bool (!decide (cs = ds))) u := by
  have h := blk_eql cs ds hc hd u
  rw [run_eql_struct] at h
  rw [run_neq_struct]
  generalize (Op.equalIn 10000 37 (blkV cs) (blkV ds)).run Tryz.prog u = r at *
  cases r with
  | ok b w' => simp at h; obtain ⟨rfl, rfl⟩ := h; rfl
  | _ => simp at h
set_option maxRecDepth 100000 in
set_option maxHeartbeats 2000000 in
theorem eqBlk (A B : Option Addr) (c d G : Nat) (xs ys : List (List Int)) (w : World) (hx : Seen w G A (rowsC xs)) (hy : Seen w G B (rowsC ys)) (hxl : ∀ r ∈ xs, r.length = 64) (hyl : ∀ r ∈ ys, r.length = 64) (hG : G ≤ w.heap.size) (hlx : xs.length ≤ 1000000) (hly : ys.length ≤ 1000000) :
    Calls Tryz.prog 8 #[.slice A xs.length c, .slice B ys.length d] w fun e w' => e = .returned (.bool (decide (xs = ys))) ∧ Below w.heap.size w w' := by
  by_cases hl : xs.length = ys.length
  · have hne : ((xs.length : Int) != (ys.length : Int)) = false := by simp [hl]
    have Hl := veil hl
    clear hl
    go_enter Tryz.func8, Tryz.ntmps8
    go_wp2_with fail
    go_loopg [5, 6, 14] xs.length (fun gk i0 p0 i wr => ∃ k : Nat, gk = xs.length - k ∧ k ≤ xs.length ∧ i = .int .i64 k ∧ Hid (xs.take k = ys.take k) ∧ Below w.heap.size w wr)
    case atStart => exact ⟨0, rfl, Nat.zero_le _, rfl, veil rfl, Below.refl _ _⟩
    case round =>
      obtain ⟨k, rfl, hk, rfl, He, hbel⟩ := hrel
      obtain ⟨W1, hW1⟩ : ∃ W1, W1 = wr := ⟨_, rfl⟩
      subst hW1
      have hz := hbel.size
      by_cases hlt : k < xs.length
      · have hltz : (k : Int) < (xs.length : Int) := by omega
        have hky : (k : Int) < (ys.length : Int) := by have := Hl.out; omega
        have hxs := hx.below hbel hG
        have hys := hy.below hbel hG
        obtain ⟨g, o, r, rfl, hg, hr, hrl, hrange⟩ := hxs.row hxl (by omega) hlt
        obtain ⟨g', o', r', rfl, hg', hr', hrl', hrange'⟩ := hys.row hyl (by omega) (k := k) (by omega)
        have hN := fun u => blk_neq r r' hrl hrl' u
        have Hl1 : Hid ((ints .i64 r).length = 64) := by show _ = _; rw [ints_length, hrl]
        have Hl2 : Hid ((ints .i64 r').length = 64) := by show _ = _; rw [ints_length, hrl']
        have hone := ints_one (k := .i64) (l := r)
        have Hr := veil hr; have Hr' := veil hr'
        have hb1 := below1 W1 (.cells (ints .i64 r).toArray 37)
        have hrange2 := range_below hrange' hb1 (by omega)
        have hB1 := Blk.new W1 (ints .i64 r) 37
        have hbel2 := hbel.trans (hb1.mono hz)
        have Hnx : Hid (∀ q, q = decide (r = r') → ((xs.take (k + 1) = ys.take (k + 1)) ↔ q = true)) := by
          intro q hq
          rw [take_snoc hr, take_snoc hr', He.out, hq]
          simp
        have Hno : Hid (r ≠ r' → xs ≠ ys) := by
          intro h e
          rw [e, hr'] at hr
          injection hr with hr; exact h hr.symm
        obtain ⟨q, hq⟩ : ∃ q, q = decide (r = r') := ⟨_, rfl⟩
        have Hq := veil hq
        unfold blkV at hN
        rw [← hq] at hN
        clear hr hr' hrl hrl' hx hy hxs hys hq hrange' hb1
        generalize ints .i64 r = us at *
        generalize ints .i64 r' = vs at *
        go_upto_region 6 with (first
          | (refine wpList_load_mid rfl 37 (.tmp 17) rfl g (o + k * 64) rfl us _ hrange Tryz.underlying37 rfl (info_blkn Hl1.out) ?_)
          | (refine wpList_store_new W1 rfl 37 (.tmp 6) (.tmp 18) rfl zeroB.toArray us rfl rfl (info_blkn Hl1.out) (by rw [Hl1.out]; rfl) hone ?_)
          | fail)
        obtain ⟨W2, hW2⟩ : ∃ W2, W2 = W1.alloc (.cells us.toArray 37) := ⟨_, rfl⟩
        rw [← hW2] at hrange2 hB1 hbel2 ⊢
        clear hW2 hrange
        refine wp_region_held_drew (S := fun w' => Blk w' W1.heap.size us 37 ∧ w'.rangeAt g' (o' + k * 64) vs) (by kernel_rfl) ⟨hB1, hrange2⟩ (fun hHeld0 => ?_)
        refine take_load 0 19 37 (.tmp 6) W1.heap.size 0 us _ rfl rfl (by kernel_rfl) (by kernel_rfl) (by kernel_rfl) (fun _ _ _ h => h) rfl rfl rfl (fun w' h => h.1.range) Tryz.underlying37 rfl (info_blkn Hl1.out) hHeld0 rfl ?_
        refine take_pure 1 20 (.slice (some ⟨g', o', none⟩) ys.length d) _ rfl rfl (by kernel_rfl) (by kernel_rfl) (by kernel_rfl) (fun _ _ _ h => h) rfl (fun w' hS => by go_simp) hHeld0 rfl ?_
        refine take_pure 2 21 (.int .i64 (k : Int)) _ rfl rfl (by kernel_rfl) (by kernel_rfl) (by kernel_rfl) (fun _ _ _ h => h) rfl (fun w' hS => by go_simp) hHeld0 rfl ?_
        refine take_pure 3 22 (.pointer (some ⟨g', o' + k * 64, none⟩)) _ rfl rfl (by kernel_rfl) (by kernel_rfl) (by kernel_rfl) (fun _ _ _ h => h) rfl (fun w' hS => by go_simp) hHeld0 rfl ?_
        refine take_load 4 23 37 (.tmp 22) g' (o' + k * 64) vs _ rfl rfl (by kernel_rfl) (by kernel_rfl) (by kernel_rfl) (fun _ _ _ h => h) rfl rfl rfl (fun w' h => h.2) Tryz.underlying37 rfl (info_blkn Hl2.out) hHeld0 rfl ?_
        refine take_pure 5 24 (.bool (!q)) _ rfl rfl (by kernel_rfl) (by kernel_rfl) (by kernel_rfl) (fun _ _ _ h => h) rfl (fun w' hS => by go_simp) hHeld0 rfl ?_
        refine wpAnyH_done (by kernel_rfl) ?_ _
        cases q with
        | true =>
          have Hn := veil ((Hnx.out true Hq.out).2 rfl)
          go_wp2_with fail
          go_roundg (xs.length - (k + 1))
          case rel => exact ⟨k + 1, rfl, by omega, by go_num, Hn, hbel2.drew⟩
          case measure => omega
        | false =>
          have hd : decide (xs = ys) = false := decide_eq_false (Hno.out (of_decide_eq_false Hq.out.symm))
          have Hd := veil hd
          clear hd
          go_wp2_with fail
          go_ret
          exact ⟨ret_bool Hd.out.symm, hbel2.drew⟩
      · go_wp2
        go_ret
        refine ⟨ret_bool ?_, hbel⟩
        symm
        have h3 := He.out
        rw [List.take_of_length_le (by omega), List.take_of_length_le (by have := Hl.out; omega)] at h3
        simpa using h3
  · have hne : ((xs.length : Int) != (ys.length : Int)) = true := by simp; omega
    have hd : decide (xs = ys) = false := by simp; intro e; exact hl (by rw [e])
    have Hd := veil hd
    clear hd hl
    go_enter Tryz.func8, Tryz.ntmps8
    go_wp2
    go_ret
    exact ⟨ret_bool Hd.out.symm, Below.refl _ _⟩
end Go.Proofs.YtddkhkpdbjjboaaGreat

/- The reference's comparison of two lists of numbers tells whether they are equal. -/
namespace Go.Proofs.YtddkhkpdbjjboaaGreat
open Go.RowKit
set_option linter.unusedVariables false
set_option linter.unusedSimpArgs false
set_option maxRecDepth 100000

set_option maxHeartbeats 400000 in
theorem eqInt (A B : Option Addr) (c d G : Nat) (xs ys : List Int) (w : World) (hx : Seen w G A (ints .i64 xs)) (hy : Seen w G B (ints .i64 ys)) (hlx : xs.length ≤ maxLen) (hly : ys.length ≤ maxLen) :
    Calls Tryz.prog 11 #[.slice A xs.length c, .slice B ys.length d] w fun e w' => e = .returned (.bool (decide (xs = ys))) ∧ w = w' := by
  unfold maxLen at hlx hly
  by_cases hl : xs.length = ys.length
  · have hne : ((xs.length : Int) != (ys.length : Int)) = false := by simp [hl]
    have Hl := veil hl
    clear hl
    go_enter Tryz.func11, Tryz.ntmps11
    go_wp2
    go_loop [5, 6, 14] (fun _ _ i => ∃ k : Nat, k ≤ xs.length ∧ i = .int .i64 k ∧ Hid (xs.take k = ys.take k)) (fun _ _ i => xs.length - (intOf i).toNat)
    case atStart => exact ⟨0, Nat.zero_le _, rfl, veil rfl⟩
    case round =>
      obtain ⟨k, hk, rfl, He⟩ := hrel
      by_cases hlt : k < xs.length
      · have hky : (k : Int) < (ys.length : Int) := by have := Hl.out; omega
        obtain ⟨g, o, x, rfl, _, hxk, h1⟩ := hx.int hlt
        obtain ⟨g', o', y, rfl, _, hyk, h2⟩ := hy.int (k := k) (by omega)
        have Hx := veil hxk; have Hy := veil hyk
        clear hxk hyk
        by_cases hxy : x = y
        · obtain rfl := hxy
          have hb : (x != x) = false := by simp
          go_wp2
          go_round
          case rel => exact ⟨k + 1, by omega, by go_num, veil (by rw [take_snoc Hx.out, take_snoc Hy.out, He.out])⟩
          case measure => simp [intOf]; omega
        · have hb : (x != y) = true := by simpa using hxy
          go_wp2
          go_ret
          refine ⟨ret_bool ?_, rfl⟩
          symm
          simp only [decide_eq_false_iff_not]
          intro e
          have h3 := Hx.out
          rw [e, Hy.out] at h3
          exact hxy (by injection h3 with h3; exact h3.symm)
      · go_wp2
        go_ret
        refine ⟨ret_bool ?_, rfl⟩
        symm
        have h3 := He.out
        rw [List.take_of_length_le (by omega), List.take_of_length_le (by have := Hl.out; omega)] at h3
        simpa using h3
  · have hne : ((xs.length : Int) != (ys.length : Int)) = true := by simp; omega
    have hd : decide (xs = ys) = false := by simp; intro e; exact hl (by rw [e])
    have Hd := veil hd
    clear hd hl
    go_enter Tryz.func11, Tryz.ntmps11
    go_wp2
    go_ret
    exact ⟨ret_bool Hd.out.symm, rfl⟩
end Go.Proofs.YtddkhkpdbjjboaaGreat

/- scan's small functions: isEvery, checkTables, marker, sizes: their contracts. -/
namespace Go.Proofs.YtddkhkpdbjjboaaGreat
open Go.RowKit
set_option linter.unusedVariables false
set_option linter.unusedSimpArgs false
set_option maxRecDepth 100000

theorem isEvery_yes (E : Int) (h : ¬ (E < 0 ∨ 100 < E)) (w : World) : Calls Tryz.prog 19 #[.int .i64 E] w fun e w' => e = .returned (.bool true) ∧ w' = w := by
  have h1 : (0 : Int) ≤ E := by omega
  have h2 : E ≤ 100 := by omega
  go_enter Tryz.func19, Tryz.ntmps19
  go_wp2
  all_goals (go_ret; exact ⟨ret_bool (by simp <;> omega), rfl⟩)
theorem isEvery_no (E : Int) (h : E < 0 ∨ 100 < E) (w : World) : Calls Tryz.prog 19 #[.int .i64 E] w fun e w' => e = .returned (.bool false) ∧ w' = w := by
  go_enter Tryz.func19, Tryz.ntmps19
  go_wp2
  all_goals (go_ret; exact ⟨ret_bool (by simp <;> omega), rfl⟩)
theorem marker_any (x : Int) (q : Nat) (h0 : 0 ≤ x) (h1 : x ≤ 2000000) (hq : x % 8 = (q : Int)) (w : World) : Calls Tryz.prog 14 #[.int .i64 x] w fun e w' => e = .returned (.int .i64 (208 + (q : Int))) ∧ w' = w := by
  have hq8 : (q : Int) < 8 := by omega
  go_enter Tryz.func14, Tryz.ntmps14
  go_wp2
  go_ret
  exact ⟨rfl, rfl⟩
set_option maxRecDepth 100000 in
set_option maxHeartbeats 2000000 in
theorem checkTables_any (cs syms : List Int) (A : Option Addr) (c : Nat) (cs2 syms2 : List Int) (A2 : Option Addr) (c2 G : Nat) (w : World)
    (hcs : cs.length = 16) (hn : syms.length ≤ maxLen) (hb : ∀ x ∈ cs, -9223372036854775808 ≤ x ∧ x ≤ 9223372036854775807) (hs : Seen w G A (ints .i64 syms))
    (hcs2 : cs2.length = 16) (hn2 : syms2.length ≤ maxLen) (hb2 : ∀ x ∈ cs2, -9223372036854775808 ≤ x ∧ x ≤ 9223372036854775807) (hs2 : Seen w G A2 (ints .i64 syms2)) (hG : G ≤ w.heap.size) :
    Calls Tryz.prog 20 #[tabsV cs A syms.length c cs2 A2 syms2.length c2] w fun e w' => e = .returned (.int .i64 (eTs cs syms cs2 syms2)) ∧ Below w.heap.size w w' := by
  have h17 : (tabCells cs A syms.length c).length = 17 := tabCells_length hcs
  have h17b : (tabCells cs2 A2 syms2.length c2).length = 17 := tabCells_length hcs2
  have HC1 := veil (fun W h hG => check_any cs syms A c G W hcs hn hb h hG)
  have HC2 := veil (fun W h hG => check_any cs2 syms2 A2 c2 G W hcs2 hn2 hb2 h hG)
  have hb0 := below1 w (.cells (tabsCells cs A syms.length c cs2 A2 syms2.length c2).toArray 27)
  have hz0 : (w.alloc (.cells (tabsCells cs A syms.length c cs2 A2 syms2.length c2).toArray 27)).heap.size = w.heap.size + 1 := by simp
  have hr := range_new w (tabsCells cs A syms.length c cs2 A2 syms2.length c2) 27
  have hr1 := range_left hr
  have hr2 := range_right hr
  rw [h17] at hr2
  have HE : Hid (eTs cs syms cs2 syms2 = if checkErr cs syms = 0 then checkErr cs2 syms2 else checkErr cs syms) := rfl
  have H17 := veil h17
  have H17b := veil h17b
  clear hr h17 h17b hcs hcs2 hb hb2
  unfold tabsV
  unfold tabV at HC1 HC2
  generalize tabsCells cs A syms.length c cs2 A2 syms2.length c2 = zs at *
  generalize tabCells cs A syms.length c = xs at *
  generalize tabCells cs2 A2 syms2.length c2 = ys at *
  generalize eTs cs syms cs2 syms2 = E at *
  generalize checkErr cs syms = e1 at *
  generalize checkErr cs2 syms2 = e2 at *
  go_enter Tryz.func20, Tryz.ntmps20
  go_wp2_with (first
    | (refine wpList_load_mid rfl 25 (.tmp 4) rfl w.heap.size 0 rfl xs _ hr1 Tryz.underlying25 rfl (by rw [H17.out]; exact info_tab) ?_)
    | fail)
  refine (HC1.out _ (hs.below hb0 hG) (by rw [hz0]; omega)).mono ?_
  rintro e w1 ⟨rfl, hb1⟩
  have hr2' := range_below hr2 hb1 (by rw [hz0]; omega)
  have hbw := hb0.trans (hb1.mono (by rw [hz0]; omega))
  clear hr1 hr2 hb0 hb1 HC1
  by_cases h0 : e1 = 0
  · subst h0
    have hE := HE.out
    rw [if_pos rfl] at hE
    subst hE
    go_wp2_with (first
      | (refine wpList_load_mid rfl 25 (.tmp 10) rfl w.heap.size 17 rfl ys _ (by simpa using hr2') Tryz.underlying25 rfl (by rw [H17b.out]; exact info_tab) ?_)
      | fail)
    refine (HC2.out _ (hs2.below hbw hG) (by have := hbw.size; omega)).mono ?_
    rintro e w2 ⟨rfl, hb2⟩
    have hf := hbw.trans (hb2.mono hbw.size)
    go_wp2
    go_ret
    exact ⟨rfl, hf⟩
  · have hE := HE.out
    rw [if_neg h0] at hE
    subst hE
    have hne : (E != 0) = true := by simpa using h0
    clear h0
    go_wp2
    go_ret
    exact ⟨rfl, hbw⟩
/-- What is left to cut is cut again. -/
theorem partsN_next {m E : Nat} (hE : E ≠ 0) (h : E < m) : partsN m E = E :: partsN (m - E) E := by
  unfold partsN
  rw [if_neg (by omega), if_neg (by omega), chunk_pos hE (by omega), Nat.min_eq_right (by omega)]
set_option maxRecDepth 100000 in
set_option maxHeartbeats 1000000 in
theorem sizes_any (n E : Nat) (w : World) (hn : n ≤ 100000) (hE : E ≤ 1000000) : Calls Tryz.prog 13 #[.int .i64 (n : Int), .int .i64 (E : Int)] w fun e w' => ∃ v, e = .returned v ∧ Owns w.heap.size [intRow 3 .i64 v ((partsN n E).map Int.ofNat)] w' ∧ Below w.heap.size w w' := by
  by_cases h0 : E = 0
  · subst h0
    have e : partsN n 0 = [n] := by unfold partsN; rw [if_pos (.inl rfl)]
    rw [e]
    have Ho := veil (parts_one n w)
    go_enter Tryz.func13, Tryz.ntmps13
    go_wp2
    go_ret
    exact ⟨_, rfl, Ho.out, below1 w _⟩
  · have hE0 : ((E : Int) == 0) = false := by simp; omega
    have HC0 : Hid (partsN n E = [] ++ partsN n E) := rfl
    have hst := Owns.start w
    go_enter Tryz.func13, Tryz.ntmps13
    go_wp2_with fail
    go_loopg [0, 5] (n + 1) (fun gk mv v wr => ∃ (m : Nat) (acc : List Nat), gk = m + 1 ∧ m ≤ n ∧ mv = .int .i64 (m : Int) ∧ acc.length + m ≤ n ∧ Hid (partsN n E = acc ++ partsN m E) ∧ Owns w.heap.size [intRow 3 .i64 v (acc.map Int.ofNat)] wr ∧ Below w.heap.size w wr)
    case atStart => exact ⟨n, [], rfl, Nat.le_refl _, rfl, by simp, HC0, hst.fresh _ _, Below.refl _ _⟩
    case round =>
      clear HC0 hst
      obtain ⟨m, acc, rfl, hm, rfl, hal, HC, HO, hbel⟩ := hrel
      have hl1 : (acc.map Int.ofNat).length = acc.length := by simp
      rcases Nat.lt_or_ge E m with hlt | hge
      · have hltz : (E : Int) < (m : Int) := by omega
        have HC2 : Hid (partsN n E = (acc ++ [E]) ++ partsN (m - E) E) := by show _ = _; rw [HC.out, partsN_next h0 hlt]; simp
        go_wp2_with (first
          | (at_builtin; go_loud (refine wpList_ownI _ rfl (.tmp 16) (.tmp 18) _ rfl w.heap.size 3 .i64 8 elem_int u5 (acc.map Int.ofNat) [] rfl HO [(E : Int)] rfl (by rw [hl1]; unfold maxLen; simp; omega) (by rw [hl1]; simp; omega) ?_); intro v4 w4 HO4 hb4 hz4)
          | fail)
        all_goals (go_roundg (m - E + 1))
        all_goals first
          | (case rel => exact ⟨m - E, acc ++ [E], rfl, by omega, by go_num, by simp; omega, HC2, by rw [List.map_append]; exact HO4, hbel.trans hb4⟩)
          | (case measure => omega)
          | omega
      · have hgez : ¬ (E : Int) < (m : Int) := by omega
        have hc : partsN n E = acc ++ [m] := by rw [HC.out, partsN_one hge]
        have Hc := veil hc
        clear hc
        go_wp2_with (first
          | (at_builtin; go_loud (refine wpList_ownI _ rfl (.tmp 20) (.tmp 22) _ rfl w.heap.size 3 .i64 8 elem_int u5 (acc.map Int.ofNat) [] rfl HO [(m : Int)] rfl (by rw [hl1]; unfold maxLen; simp; omega) (by rw [hl1]; simp; omega) ?_); intro v4 w4 HO4 hb4 hz4)
          | fail)
        go_ret
        exact ⟨_, rfl, by rw [Hc.out, List.map_append]; exact HO4, hbel.trans hb4⟩
end Go.Proofs.YtddkhkpdbjjboaaGreat
