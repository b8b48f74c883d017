/- Texts shared by the claims of this seat, in one. -/
import Derived.Test.YtbboakdfnjjddaaBd21
import Derived.Test.YtbboakdfnjjddaaBd22
import Derived.Test.YtbboakdfnjjddaaBd17
import Derived.Test.YtbboakdfnjjddaaBd20
import Derived.Test.YtbboakdfnjjddaaBd8
import Derived.Test.YtbboakdfnjjddaaBd2
import Derived.Deep.Cut
/- The reference's SegDecode: its contract. -/
namespace Go.Proofs.Ytbboakdfnjjddaa
open Go.RowKit
set_option linter.unusedVariables false
set_option linter.unusedSimpArgs false
set_option maxRecDepth 100000

theorem eTs_parts {cs syms cs2 syms2 : List Int} (h : eTs cs syms cs2 syms2 = 0) : checkErr cs syms = 0 ∧ checkErr cs2 syms2 = 0 := by
  by_cases h1 : checkErr cs syms = 0
  · exact ⟨h1, by rw [eTs_two h1] at h; exact h⟩
  · rw [eTs_one h1] at h; exact absurd h h1
theorem enters_seg : Enters Try.prog 47 := Enters.of (Try.func47) (by decide) rfl
theorem fillB_eq (s : List Bool) : fillB s = !(decide (7 < s.length) || !(s.all id)) := by
  unfold fillB
  by_cases h : s.length < 8
  · rw [decide_eq_true h, decide_eq_false (by omega)]; simp
  · rw [decide_eq_false h, decide_eq_true (by omega)]; simp
set_option maxRecDepth 100000 in
set_option maxHeartbeats 2000000 in
theorem refSegDecode_any (cs syms : List Int) (A : Option Addr) (c : Nat) (cs2 syms2 : List Int) (A2 : Option Addr) (c2 G : Nat) (bs : List Int) (A3 : Option Addr) (c3 : Nat) (n : Int) (w : World)
    (hcs : cs.length = 16) (hn : syms.length ≤ maxLen) (hcap : syms.length ≤ c) (hb : ∀ x ∈ cs, -9223372036854775808 ≤ x ∧ x ≤ 9223372036854775807) (hs : Seen w G A (ints .i64 syms))
    (hcs2 : cs2.length = 16) (hn2 : syms2.length ≤ maxLen) (hcap2 : syms2.length ≤ c2) (hb2 : ∀ x ∈ cs2, -9223372036854775808 ≤ x ∧ x ≤ 9223372036854775807) (hs2 : Seen w G A2 (ints .i64 syms2))
    (hs3 : Seen w G A3 (ints .u8 bs)) (hby : Bytes bs) (hl : bs.length ≤ 1048576) (hG : G ≤ w.heap.size) :
    Calls Try.prog 18 #[tabsV cs A syms.length c cs2 A2 syms2.length c2, .slice A3 bs.length c3, .int .i64 n] w fun e w' => ∃ v, e = .returned (.tuple #[v, .int .i64 (eDec cs syms cs2 syms2 bs n)]) ∧ Owns w.heap.size [blkRow v (oDec cs syms cs2 syms2 bs n)] w' ∧ Below w.heap.size w w' := by
  have h17 : (tabCells cs A syms.length c).length = 17 := tabCells_length hcs
  have h17b : (tabCells cs2 A2 syms2.length c2).length = 17 := tabCells_length hcs2
  have h34 : (tabsCells cs A syms.length c cs2 A2 syms2.length c2).length = 34 := by unfold tabsCells; rw [List.length_append, h17, h17b]
  have HCk := veil (fun W h1 h2 hG => tablesCheck_any cs syms A c cs2 syms2 A2 c2 G W hcs hn hcap hb h1 hcs2 hn2 hcap2 hb2 h2 hG)
  have HPl := veil (fun W h hG => refPlain_any A3 c3 G bs W h hG (by omega))
  have hb0 := below1 w (.cells (tabsCells cs A syms.length c cs2 A2 syms2.length c2).toArray 36)
  have hz0 : (w.alloc (.cells (tabsCells cs A syms.length c cs2 A2 syms2.length c2).toArray 36)).heap.size = w.heap.size + 1 := by simp
  have hTB := Blk.new w (tabsCells cs A syms.length c cs2 A2 syms2.length c2) 36
  have hr := hTB.range
  obtain ⟨E, hE⟩ : ∃ E, E = eDec cs syms cs2 syms2 bs n := ⟨_, rfl⟩
  obtain ⟨O, hO⟩ : ∃ O, O = oDec cs syms cs2 syms2 bs n := ⟨_, rfl⟩
  rw [← hE, ← hO]
  have HOe : Hid (E ≠ 0 → O = []) := by show _ → _; intro h; rw [hO]; exact oDec_err (by rw [← hE]; exact h)
  have HE := veil hE
  have HO := veil hO
  have H34 := veil h34
  have Hby := veil hby; have Hl := veil hl; have Hcs := veil hcs; have Hcs2 := veil hcs2
  have HBk := veil (fun (N T g M : Nat) (fw rw_ : List (Int × Nat × Nat)) (hfw : fw = outWords cs syms) (hrw : rw_ = outWords cs2 syms2) (h1 : checkErr cs syms = 0) (h2 : checkErr cs2 syms2 = 0) (hM : M ≤ 140737488355328) (hTg : T < g) (hGT : G ≤ T) (before : Int) (s : List Bool) (W : World) (hb : -2047 ≤ before ∧ before ≤ 2047) (hg : g < W.heap.size) (hS : SrcD cs syms A c cs2 syms2 A2 c2 G T g M W s) =>
    refBlockOf_any (stepS fw rw_) (SrcD cs syms A c cs2 syms2 A2 c2 G T g M) 47 #[.pointer (some ⟨T, 0, none⟩), .pointer (some ⟨g, 0, none⟩)] g before s W enters_seg hb hg hS (fun W1 W2 s h hb => h.below hb (by omega) (by omega) (by omega)) (fun _ _ _ h => stepS_ne h)
      (fun first s W1 hW1 h => by
        subst hfw hrw
        cases first with
        | true => exact segNext_first cs syms A c cs2 syms2 A2 c2 G T g M s W1 hcs hcs2 h1 h2 hM (by omega) (by omega) hGT (by omega) h
        | false => exact segNext_rest cs syms A c cs2 syms2 A2 c2 G T g M s W1 hcs hcs2 h1 h2 hM (by omega) (by omega) hGT (by omega) h))
  have HSrc := veil (fun (T g M : Nat) (W : World) (s : List Bool) (a1 : Blk W T (tabsCells cs A syms.length c cs2 A2 syms2.length c2) 36) (a2 : Blk W g [.string (txt s)] 9) (a3 : Seen W G A (ints .i64 syms)) (a4 : Seen W G A2 (ints .i64 syms2)) (a5 : s.length ≤ M) => (⟨a1, a2, a3, a4, a5⟩ : SrcD cs syms A c cs2 syms2 A2 c2 G T g M W s))
  have HSb := veil (fun (T g M B : Nat) (W W' : World) (s : List Bool) (h : SrcD cs syms A c cs2 syms2 A2 c2 G T g M W s) (hb : Below B W W') (hT : T < B) (hg : g < B) (hG : G ≤ B) => h.below hb hT hg hG)
  have HSt := veil (fun (T g M : Nat) (W : World) (s : List Bool) (h : SrcD cs syms A c cs2 syms2 A2 c2 G T g M W s) => (⟨h.text, h.few⟩ : Blk W g [.string (txt s)] 9 ∧ s.length ≤ M))
  obtain ⟨R, hR⟩ : ∃ R : Nat → Nat → Nat → World → List Bool → Prop, R = fun T g M => SrcD cs syms A c cs2 syms2 A2 c2 G T g M := ⟨_, rfl⟩
  have hR' : ∀ T g M, SrcD cs syms A c cs2 syms2 A2 c2 G T g M = R T g M := fun T g M => by rw [hR]
  simp only [hR'] at HBk HSrc HSb HSt
  clear hcs hcs2 hb hb2 hby hE hO hl h17 h17b h34 hR hR' hn hn2 hcap hcap2
  unfold tabsV at HCk ⊢
  generalize tabsCells cs A syms.length c cs2 A2 syms2.length c2 = zs at *
  go_enter Try.func18, Try.ntmps18
  go_wp2_with (first
    | (refine wpList_load_mid rfl 36 (.tmp 3) rfl w.heap.size 0 rfl zs _ hr Try.underlying36 rfl (by rw [H34.out]; kernel_rfl) ?_)
    | fail)
  refine (HCk.out _ (hs.below hb0 hG) (hs2.below hb0 hG) (by rw [hz0]; omega)).mono ?_
  rintro e w1 ⟨rfl, hb1⟩
  have hTB1 := hTB.below hb1 (by rw [hz0]; omega)
  have hbw1 := hb0.trans (hb1.mono (by rw [hz0]; omega))
  have hz1 := hb1.size
  rw [hz0] at hz1
  clear hr hb0 HCk hb1 hTB
  by_cases h0 : eTs cs syms cs2 syms2 = 0
  · rw [h0]
    have HT0 : Hid (eTs cs syms cs2 syms2 = 0) := h0
    clear h0
    by_cases hrg : n < 0 ∨ 400 < n
    · have hE1 := eDec_n (bs := bs) HT0.out hrg
      rw [← HE.out] at hE1
      have hO1 := HOe.out (by rw [hE1]; decide)
      have HE1 := veil hE1
      have HO1 := veil hO1
      have HOu := veil (out_yes n 0 400 (by omega) w1)
      clear hE1 hO1 hrg
      go_wp2_with fail
      refine HOu.out.mono ?_
      rintro e w2 ⟨rfl, rfl⟩
      go_wp2
      go_ret2
      exact ⟨_, ret_two rfl (by rw [HE1.out]; rfl), by rw [HO1.out]; exact (Owns.nil hbw1.size).fresh _ _, hbw1⟩
    · have Hrg := veil hrg
      obtain ⟨N, hN, hN400⟩ : ∃ N : Nat, n = (N : Int) ∧ N ≤ 400 := ⟨n.toNat, by omega, by omega⟩
      subst hN
      have HOu := veil (out_no (N : Int) 0 400 (by omega) w1)
      have HPl1 := veil (HPl.out w1 (hs3.below hbw1 hG) (by omega))
      clear hrg HPl
      go_wp2_with fail
      refine HOu.out.mono ?_
      rintro e w2 ⟨rfl, rfl⟩
      go_wp2_with fail
      refine HPl1.out.mono ?_
      rintro e w3 ⟨v3, rfl, HO3, hb3⟩
      have hz3 := hb3.size
      have hbw3 := hbw1.trans (hb3.mono hbw1.size)
      have hTB3 := hTB1.below hb3 (by omega)
      clear HPl1 HOu hTB1
      by_cases hp : plainErr bs = 0
      · rw [hp]
        obtain ⟨P, hP, hPby, hPl⟩ : ∃ P, P = plainOut bs ∧ Bytes P ∧ P.length ≤ 1048576 := ⟨_, rfl, plain_bytes Hby.out, by
          have := plain_length bs
          have := Hl.out
          omega⟩
        rw [← hP] at HO3
        obtain ⟨Ap, cp, e3, hsp, hcp, hmp⟩ := HO3.seen (List.mem_cons_self ..)
        simp only [byteRow, intRow] at e3 hsp hcp
        subst e3
        have HDg := veil (digitsOf_any Ap cp w3.heap.size P w3 hsp hPby (Nat.le_refl _) hPl)
        obtain ⟨fw, hfw⟩ : ∃ fw, fw = outWords cs syms := ⟨_, rfl⟩
        obtain ⟨rw_, hrw⟩ : ∃ rw_, rw_ = outWords cs2 syms2 := ⟨_, rfl⟩
        have hSD : segD cs syms cs2 syms2 bs N = decS fw rw_ N 0 (unpack P) := by unfold segD; rw [hfw, hrw, hP]
        have HED : Hid ((segD cs syms cs2 syms2 bs N).1 ≠ 0 → E = (segD cs syms cs2 syms2 bs N).1) := fun h => HE.out.trans (eDec_dec HT0.out Hrg.out hp (by rw [Int.toNat_natCast]; exact h))
        have HEF : Hid ((segD cs syms cs2 syms2 bs N).1 = 0 → E = if fillB (segD cs syms cs2 syms2 bs N).2.2 = true then 0 else 4) := fun h => HE.out.trans (by rw [eDec_fill HT0.out Hrg.out hp (by rw [Int.toNat_natCast]; exact h), Int.toNat_natCast])
        have HOO : Hid (E = 0 → O = (segD cs syms cs2 syms2 bs N).2.1) := fun h => HO.out.trans (by unfold oDec; rw [if_pos (by rw [← HE.out]; exact h), Int.toNat_natCast])
        rw [hSD] at HED HEF HOO
        have HBk2 := veil (fun T g hTg hGT before s W hb hg hS => HBk.out N T g 8388608 fw rw_ hfw hrw (eTs_parts HT0.out).1 (eTs_parts HT0.out).2 (by omega) hTg hGT before s W hb hg hS)
        have HDS0 := veil (DS.start fw rw_ N (unpack P))
        have hPn := veil (show (unpack P).length ≤ 8388608 by rw [unpack_length]; omega)
        have hTB3 := veil hTB3
        clear HO3 hsp hfw hrw hSD hP hPby hp HBk HE HO
        go_wp2_with fail
        refine HDg.out.mono ?_
        rintro e w4 ⟨rfl, hb4⟩
        have hz4 := hb4.size
        have hbw4 := hbw3.trans (hb4.mono hbw3.size)
        have hTB4 := hTB3.out.below hb4 (by omega)
        have hbX := below1 w4 (.cells #[.string (txt (unpack P))] 9)
        have hXB := Blk.new w4 [.string (txt (unpack P))] 9
        have hR0 := HSrc.out w.heap.size w4.heap.size 8388608 _ (unpack P) (hTB4.below hbX (by omega)) hXB ((hs.below hbw4 hG).below hbX (by omega)) ((hs2.below hbw4 hG).below hbX (by omega)) hPn.out
        have hbw5 := hbw4.trans (hbX.mono hbw4.size)
        have HR0 := veil hR0
        obtain ⟨tx, htx⟩ : ∃ tx, tx = txt (unpack P) := ⟨_, rfl⟩
        rw [← htx] at HR0 hbw5 ⊢
        clear hR0 hXB hbX hTB4 hTB3 HDg hb4 htx hb3 hs hs2 hs3 hbw3 hbw1
        obtain ⟨g, hg⟩ : ∃ g, g = w4.heap.size := ⟨_, rfl⟩
        obtain ⟨W5, hW5⟩ : ∃ W5, W5 = w4.alloc (.cells #[.string tx] 9) := ⟨_, rfl⟩
        have hz5 : W5.heap.size = g + 1 := by rw [hW5, hg]; simp
        rw [← hW5, ← hg] at HR0
        rw [← hW5] at hbw5
        have HW5 := veil hW5; have Hg := veil hg
        have hgw : w.heap.size < g := by omega
        clear hW5 hg
        go_upto_region 10 with fail
        rw [← HW5.out, ← Hg.out]
        have hrow0 : Owns (g + 1) [blkRow (.slice none 0 0) []] W5 := (Owns.nil (by omega)).fresh _ _
        clear HW5 Hg
        go_wp2_with fail
        go_loopg [12, 13, 14, 15, 16, 35] N (fun gk v12 v13 v14 v15 v16 iv wr => ∃ (k : Nat) (acc : List (List Int)) (before : Int) (s : List Bool), gk = N - k ∧ k ≤ N ∧ iv = .int .i64 (k : Int) ∧ v13 = .int .i64 before ∧ Hid (DS fw rw_ N (unpack P) k acc before s) ∧ Hid (R w.heap.size g 8388608 wr s) ∧ Owns (g + 1) [blkRow v12 acc] wr ∧ Below w.heap.size w wr)
        case atStart => exact ⟨0, [], 0, unpack P, rfl, Nat.zero_le _, rfl, rfl, HDS0, HR0, hrow0, hbw5⟩
        case round =>
          obtain ⟨k, acc, before, s, rfl, hk, rfl, rfl, HDS, HTR, hO, hbw⟩ := hrel
          obtain ⟨Wr, hWr⟩ : ∃ Wr, Wr = wr := ⟨_, rfl⟩
          subst hWr
          have hTz := (HSt.out _ _ _ _ _ HTR.out).1.lt
          clear HDS0 hrow0 hbw5 HR0
          by_cases hlt : k < N
          · have hltz : (k : Int) < (N : Int) := by omega
            have HB := veil (HBk2.out w.heap.size g hgw hG before s Wr HDS.out.2.1 hTz HTR.out)
            go_wp2_with fail
            refine HB.out.mono ?_
            rintro e w6 ⟨rfl, hg6, hs6⟩
            have hosl := outBk_length (step := stepS fw rw_) before s
            obtain ⟨D, hD⟩ : ∃ D, D = gB (stepS fw rw_) before s := ⟨_, rfl⟩
            have HD := veil hD
            rw [← hD] at hs6 hosl ⊢
            have hob : outG D = outBk D := rfl
            rw [hob]
            obtain ⟨er, her⟩ : ∃ er, er = D.1 := ⟨_, rfl⟩
            obtain ⟨os, hos⟩ : ∃ os, os = outBk D := ⟨_, rfl⟩
            have Her := veil her
            have Hos := veil hos
            rw [← her, ← hos]
            rw [← hos] at hosl
            have Hosl : Hid ((ints .i64 os).length = 64) := by show _ = _; rw [ints_length, hosl]
            have hone := ints_one (k := .i64) (l := os)
            have hz6 := hg6.size
            have hO6 := hO.kept hg6 (by omega)
            have hbw6 := hbw.grown hg6 hbw.size (fun j hj => by injection hj with hj; omega)
            have hown := fun j hj => ((hO6.head).lt j hj).2
            have hB7 := Blk.new w6 (ints .i64 os) 47
            have hb7 := below1 w6 (.cells (ints .i64 os).toArray 47)
            have hO7 := hO6.alloc (.cells (ints .i64 os).toArray 47)
            have hbw7 := hbw6.trans (hb7.mono hbw6.size)
            obtain ⟨zs7, hys⟩ : ∃ zs7, zs7 = ints .i64 os := ⟨_, rfl⟩
            have Hys := veil hys
            have hz0' : zs7[0]? = some (.int .i64 (os.headD 0)) := by
              rw [hys]
              match os, hosl with
              | o :: os, _ => rfl
            have Hz0 := veil hz0'
            unfold blkV
            rw [← hys] at hB7 hb7 hO7 hbw7 Hosl hone ⊢
            have hacl : D.2.2.1.length ≤ 64 ∨ True := .inr trivial
            generalize (D.2.2.1.length : Int) = dl at *
            clear hD her hos hys HB hO hbw hz0' hacl hob
            by_cases he : er = 0
            · have he' : (gB (stepS fw rw_) before s).1 = 0 := by rw [← HD.out, ← Her.out]; exact he
              obtain ⟨_, _, ⟨s', hs'⟩, _⟩ := gB_in (fun _ _ _ h => stepS_ne h) he'
              have hnext := HDS.out.next hlt he' hs'
              rw [← HD.out, ← Hos.out] at hnext
              rw [← HD.out] at hs'
              have hTR6 := hs6 s' hs'
              have hTR7 := HSb.out _ _ _ _ _ _ _ hTR6 hb7 (by omega) (by omega) (by omega)
              have Hnext := veil hnext
              have HTR7 := veil hTR7
              have hacc : acc.length + 1 ≤ 1000000 := by have := HDS.out.1; omega
              have Hacc := veil hacc
              subst he
              clear he' hs' hs6 hnext hTR6 hTR7 HDS HTR hacc
              go_upto_region 17 with (first
                | (refine wpList_store_new w6 rfl 47 (.tmp 14) (.tmp 41) rfl zeroB.toArray zs7 rfl rfl (info_blkn Hosl.out) (by rw [Hosl.out]; rfl) hone ?_)
                | fail)
              obtain ⟨W7, hW7⟩ : ∃ W7, W7 = w6.alloc (.cells zs7.toArray 47) := ⟨_, rfl⟩
              have hz7 : W7.heap.size = w6.heap.size + 1 := by rw [hW7]; simp
              rw [← hW7] at hB7 hb7 hO7 hbw7 HTR7 ⊢
              clear hW7
              refine wp_region_held_drew (S := fun w' => Blk w' w6.heap.size zs7 47) (by kernel_rfl) hB7 (fun hHeld0 => ?_)
              refine take_pure 0 47 u12 _ rfl rfl (by kernel_rfl) (by kernel_rfl) (by kernel_rfl) (fun _ _ _ h => h) rfl (fun w' hS => by go_simp) hHeld0 rfl ?_
              refine take_load 1 48 47 (.tmp 14) w6.heap.size 0 zs7 _ rfl rfl (by kernel_rfl) (by kernel_rfl) (by kernel_rfl) (fun _ _ _ h => h) rfl rfl rfl (fun w' h => h.range) Try.underlying47 rfl (info_blkn Hosl.out) hHeld0 rfl ?_
              refine take_pure 4 51 (.pointer (some ⟨w6.heap.size, 0, none⟩)) _ rfl rfl (by kernel_rfl) (by kernel_rfl) (by kernel_rfl) (fun _ _ _ h => h) rfl (fun w' hS => by go_simp) hHeld0 rfl ?_
              refine take_pure 5 52 (.int .i64 (os.headD 0)) _ rfl rfl (by kernel_rfl) (by kernel_rfl) (by kernel_rfl) (fun _ _ _ h => h) rfl (fun w' hS => by have hc := hS.cell Hz0.out; go_simp) hHeld0 rfl ?_
              refine wpAnyH_ready (rs := [2]) (by kernel_rfl) (by simp) ?_
              refine AllReadyH.cons rfl (fun K hK => ?_) AllReadyH.nil
              refine step_buildBlk rfl (.tmp 48) rfl zs7 rfl Hosl.out ?_
              refine hK.out _ _ (hHeld0.below (below1 _ _) hHeld0.lt) (fun hHeld1 => ?_)
              clear hK K
              refine wpAnyH_ready (rs := [3]) (by kernel_rfl) (by simp) ?_
              refine AllReadyH.cons rfl (fun K hK => ?_) AllReadyH.nil
              refine step_ownB W7.drew rfl (.tmp 47) (.tmp 49) rfl (g + 1) u12 acc [] rfl hO7.drew os zs7 Hys.out hosl rfl Hacc.out ?_
              intro v' w8 hO8 hg8 hb8 hs8
              have hne8 : some w6.heap.size ≠ u12.ownBlock := fun e => by have := hown _ e.symm; omega
              refine hK.out _ _ (hHeld1.kept hg8 hne8) (fun hHeld2 => ?_)
              clear hK K
              refine take_pure 6 12 v' _ rfl rfl (by kernel_rfl) (by kernel_rfl) (by kernel_rfl) (fun _ _ _ h => h) rfl (fun w' hS => by go_simp) hHeld2 rfl ?_
              refine take_pure 7 13 (.int .i64 (os.headD 0)) _ rfl rfl (by kernel_rfl) (by kernel_rfl) (by kernel_rfl) (fun _ _ _ h => h) rfl (fun w' hS => by go_simp) hHeld2 rfl ?_
              refine wpAnyH_done (by kernel_rfl) ?_ _
              have hb78 : Below (g + 1) W7 w8 := below_of_drew hb8
              have HTR8 := veil (HSb.out _ _ _ _ _ _ _ HTR7.out hb78 (by omega) (by omega) (by omega))
              have hbw8 := hbw7.trans (hb78.mono (by omega))
              clear hg8 hb8 hO7 hbw7 hB7 hb7 HTR7 hO6 hbw6 hg6 hHeld0 hHeld1 hHeld2
              go_wp2_with fail
              go_roundg (N - (k + 1))
              case rel => exact ⟨k + 1, acc ++ [os], os.headD 0, s', rfl, by omega, by go_num, by rw [List.headD_eq_head?_getD], Hnext, HTR8, hO8, hbw8⟩
              case measure => omega
            · have he' : (gB (stepS fw rw_) before s).1 ≠ 0 := by rw [← HD.out, ← Her.out]; exact he
              have hq := HDS.out.err hlt he'
              rw [← HD.out, ← Her.out] at hq
              have hE1 : E = er := by rw [HED.out (by rw [hq]; exact he), hq]
              have hO1 := HOe.out (by rw [hE1]; exact he)
              have HE1 := veil hE1
              have HO1 := veil hO1
              have hbe : (er != 0) = true := by simpa using he
              clear he he' hq hE1 hO1 hs6
              go_wp2_with (first
                | (refine wpList_store_new w6 rfl 47 (.tmp 14) (.tmp 41) rfl zeroB.toArray zs7 rfl rfl (info_blkn Hosl.out) (by rw [Hosl.out]; rfl) hone ?_)
                | fail)
              go_ret2
              exact ⟨_, ret_two rfl (by rw [HE1.out]; rfl), by rw [HO1.out]; exact (Owns.nil hbw7.size).fresh _ _, hbw7⟩
          · obtain rfl : k = N := by omega
            have hq := HDS.out.done
            obtain ⟨hX, hXl⟩ := HSt.out _ _ _ _ _ HTR.out
            have hXc := hX.cell (i := 0) (v := .string (txt s)) rfl
            have hE1 : E = if fillB s = true then 0 else 4 := by rw [HEF.out (by rw [hq]), hq]
            have hsz : (txt s).size = s.length := txt_size s
            have HZ := veil (hasZero_any s Wr)
            have HQ := veil hq
            have hfe := fillB_eq s
            have hOe : fillB s = true → O = acc := fun h => by rw [HOO.out (by rw [hE1, if_pos h]), HQ.out]
            by_cases h7 : 7 < s.length
            · rw [decide_eq_true h7] at hfe
              simp only [Bool.true_or, Bool.not_true] at hfe
              rw [hfe, if_neg (by decide)] at hE1
              have hO1 := HOe.out (by rw [hE1]; decide)
              have HE1 := veil hE1
              have HO1 := veil hO1
              have h7z : (7 : Int) < (s.length : Int) := by omega
              clear hE1 hO1 hfe hOe hq HZ
              generalize txt s = tx2 at *
              go_wp2_with fail
              go_ret2
              exact ⟨_, ret_two rfl (by rw [HE1.out]; rfl), by rw [HO1.out]; exact (Owns.nil hbw.size).fresh _ _, hbw⟩
            · rw [decide_eq_false h7] at hfe
              have h7z : ¬ (7 : Int) < (s.length : Int) := by omega
              simp only [Bool.false_or, Bool.not_not] at hfe
              rw [← hfe] at HZ
              cases hfl : fillB s with
              | true =>
                rw [hfl] at HZ
                rw [hfl, if_pos rfl] at hE1
                have hO1 := hOe hfl
                have HE1 := veil hE1
                have HO1 := veil hO1
                clear hE1 hO1 hfe hOe hq hfl
                generalize txt s = tx2 at *
                go_wp2_with fail
                refine HZ.out.mono ?_
                rintro e w8 ⟨rfl, rfl⟩
                go_wp2_with fail
                go_ret2
                exact ⟨_, ret_two rfl (by rw [HE1.out]; rfl), by rw [HO1.out]; exact hO.down (by omega), hbw⟩
              | false =>
                rw [hfl] at HZ
                rw [hfl, if_neg (by decide)] at hE1
                have hO1 := HOe.out (by rw [hE1]; decide)
                have HE1 := veil hE1
                have HO1 := veil hO1
                clear hE1 hO1 hfe hOe hq hfl
                generalize txt s = tx2 at *
                go_wp2_with fail
                refine HZ.out.mono ?_
                rintro e w8 ⟨rfl, rfl⟩
                go_wp2_with fail
                go_ret2
                exact ⟨_, ret_two rfl (by rw [HE1.out]; rfl), by rw [HO1.out]; exact (Owns.nil hbw.size).fresh _ _, hbw⟩
      · have hE1 := eDec_plain (bs := bs) HT0.out Hrg.out hp
        rw [← HE.out] at hE1
        have hO1 := HOe.out (by rw [hE1]; exact hp)
        have HE1 := veil hE1
        have HO1 := veil hO1
        have hne : (plainErr bs != 0) = true := by simpa using hp
        obtain ⟨er, her⟩ : ∃ er, er = plainErr bs := ⟨_, rfl⟩
        rw [← her] at HE1 hne ⊢
        clear hE1 hO1 hp her
        go_wp2_with fail
        go_ret2
        exact ⟨_, ret_two rfl (by rw [HE1.out]; rfl), by rw [HO1.out]; exact (Owns.nil hbw3.size).fresh _ _, hbw3⟩
  · have hE1 := eDec_tab (bs := bs) (n := n) h0
    rw [← HE.out] at hE1
    have hO1 := HOe.out (by rw [hE1]; exact h0)
    have HE1 := veil hE1
    have HO1 := veil hO1
    have hne : (eTs cs syms cs2 syms2 != 0) = true := by simpa using h0
    obtain ⟨er, her⟩ : ∃ er, er = eTs cs syms cs2 syms2 := ⟨_, rfl⟩
    rw [← her] at HE1 hne ⊢
    clear hE1 hO1 h0 her
    go_wp2_with fail
    go_ret2
    exact ⟨_, ret_two rfl (by rw [HE1.out]; rfl), by rw [HO1.out]; exact (Owns.nil hbw1.size).fresh _ _, hbw1⟩
end Go.Proofs.Ytbboakdfnjjddaa

/- The reference's comparison of two lists of blocks tells whether they are equal. -/
namespace Go.Proofs.Ytbboakdfnjjddaa
open Go.RowKit
set_option linter.unusedVariables false
set_option linter.unusedSimpArgs false
set_option maxRecDepth 100000

theorem blk_neq (cs ds : List Int) (hc : cs.length = 64) (hd : ds.length = 64) (u : World) : (binOp .neq 47 (blkV cs) (blkV ds)).run Try.prog u = .ok (.bool (!decide (cs = ds))) u := by
  have h := blk_eql cs ds hc hd u
  rw [run_eql_struct] at h
  rw [run_neq_struct]
  generalize (Op.equalIn 10000 47 (blkV cs) (blkV ds)).run Try.prog u = r at *
  cases r with
  | ok b w' => simp at h; obtain ⟨rfl, rfl⟩ := h; rfl
  | _ => simp at h
set_option maxRecDepth 100000 in
set_option maxHeartbeats 2000000 in
theorem eqBlk (A B : Option Addr) (c d G : Nat) (xs ys : List (List Int)) (w : World) (hx : Seen w G A (rowsC xs)) (hy : Seen w G B (rowsC ys)) (hxl : ∀ r ∈ xs, r.length = 64) (hyl : ∀ r ∈ ys, r.length = 64) (hG : G ≤ w.heap.size) (hlx : xs.length ≤ 1000000) (hly : ys.length ≤ 1000000) :
    Calls Try.prog 19 #[.slice A xs.length c, .slice B ys.length d] w fun e w' => e = .returned (.bool (decide (xs = ys))) ∧ Below w.heap.size w w' := by
  by_cases hl : xs.length = ys.length
  · have hne : ((xs.length : Int) != (ys.length : Int)) = false := by simp [hl]
    have Hl := veil hl
    clear hl
    go_enter Try.func19, Try.ntmps19
    go_wp2_with fail
    go_loopg [5, 6, 14] xs.length (fun gk i0 p0 i wr => ∃ k : Nat, gk = xs.length - k ∧ k ≤ xs.length ∧ i = .int .i64 k ∧ Hid (xs.take k = ys.take k) ∧ Below w.heap.size w wr)
    case atStart => exact ⟨0, rfl, Nat.zero_le _, rfl, veil rfl, Below.refl _ _⟩
    case round =>
      obtain ⟨k, rfl, hk, rfl, He, hbel⟩ := hrel
      obtain ⟨W1, hW1⟩ : ∃ W1, W1 = wr := ⟨_, rfl⟩
      subst hW1
      have hz := hbel.size
      by_cases hlt : k < xs.length
      · have hltz : (k : Int) < (xs.length : Int) := by omega
        have hky : (k : Int) < (ys.length : Int) := by have := Hl.out; omega
        have hxs := hx.below hbel hG
        have hys := hy.below hbel hG
        obtain ⟨g, o, r, rfl, hg, hr, hrl, hrange⟩ := hxs.row hxl (by omega) hlt
        obtain ⟨g', o', r', rfl, hg', hr', hrl', hrange'⟩ := hys.row hyl (by omega) (k := k) (by omega)
        have hN := fun u => blk_neq r r' hrl hrl' u
        have Hl1 : Hid ((ints .i64 r).length = 64) := by show _ = _; rw [ints_length, hrl]
        have Hl2 : Hid ((ints .i64 r').length = 64) := by show _ = _; rw [ints_length, hrl']
        have hone := ints_one (k := .i64) (l := r)
        have Hr := veil hr; have Hr' := veil hr'
        have hb1 := below1 W1 (.cells (ints .i64 r).toArray 47)
        have hrange2 := range_below hrange' hb1 (by omega)
        have hB1 := Blk.new W1 (ints .i64 r) 47
        have hbel2 := hbel.trans (hb1.mono hz)
        have Hnx : Hid (∀ q, q = decide (r = r') → ((xs.take (k + 1) = ys.take (k + 1)) ↔ q = true)) := by
          intro q hq
          rw [take_snoc hr, take_snoc hr', He.out, hq]
          simp
        have Hno : Hid (r ≠ r' → xs ≠ ys) := by
          intro h e
          rw [e, hr'] at hr
          injection hr with hr; exact h hr.symm
        obtain ⟨q, hq⟩ : ∃ q, q = decide (r = r') := ⟨_, rfl⟩
        have Hq := veil hq
        unfold blkV at hN
        rw [← hq] at hN
        clear hr hr' hrl hrl' hx hy hxs hys hq hrange' hb1
        generalize ints .i64 r = us at *
        generalize ints .i64 r' = vs at *
        go_upto_region 6 with (first
          | (refine wpList_load_mid rfl 47 (.tmp 17) rfl g (o + k * 64) rfl us _ hrange Try.underlying47 rfl (info_blkn Hl1.out) ?_)
          | (refine wpList_store_new W1 rfl 47 (.tmp 6) (.tmp 18) rfl zeroB.toArray us rfl rfl (info_blkn Hl1.out) (by rw [Hl1.out]; rfl) hone ?_)
          | fail)
        obtain ⟨W2, hW2⟩ : ∃ W2, W2 = W1.alloc (.cells us.toArray 47) := ⟨_, rfl⟩
        rw [← hW2] at hrange2 hB1 hbel2 ⊢
        clear hW2 hrange
        refine wp_region_held_drew (S := fun w' => Blk w' W1.heap.size us 47 ∧ w'.rangeAt g' (o' + k * 64) vs) (by kernel_rfl) ⟨hB1, hrange2⟩ (fun hHeld0 => ?_)
        refine take_load 0 19 47 (.tmp 6) W1.heap.size 0 us _ rfl rfl (by kernel_rfl) (by kernel_rfl) (by kernel_rfl) (fun _ _ _ h => h) rfl rfl rfl (fun w' h => h.1.range) Try.underlying47 rfl (info_blkn Hl1.out) hHeld0 rfl ?_
        refine take_pure 1 20 (.slice (some ⟨g', o', none⟩) ys.length d) _ rfl rfl (by kernel_rfl) (by kernel_rfl) (by kernel_rfl) (fun _ _ _ h => h) rfl (fun w' hS => by go_simp) hHeld0 rfl ?_
        refine take_pure 2 21 (.int .i64 (k : Int)) _ rfl rfl (by kernel_rfl) (by kernel_rfl) (by kernel_rfl) (fun _ _ _ h => h) rfl (fun w' hS => by go_simp) hHeld0 rfl ?_
        refine take_pure 3 22 (.pointer (some ⟨g', o' + k * 64, none⟩)) _ rfl rfl (by kernel_rfl) (by kernel_rfl) (by kernel_rfl) (fun _ _ _ h => h) rfl (fun w' hS => by go_simp) hHeld0 rfl ?_
        refine take_load 4 23 47 (.tmp 22) g' (o' + k * 64) vs _ rfl rfl (by kernel_rfl) (by kernel_rfl) (by kernel_rfl) (fun _ _ _ h => h) rfl rfl rfl (fun w' h => h.2) Try.underlying47 rfl (info_blkn Hl2.out) hHeld0 rfl ?_
        refine take_pure 5 24 (.bool (!q)) _ rfl rfl (by kernel_rfl) (by kernel_rfl) (by kernel_rfl) (fun _ _ _ h => h) rfl (fun w' hS => by go_simp) hHeld0 rfl ?_
        refine wpAnyH_done (by kernel_rfl) ?_ _
        cases q with
        | true =>
          have Hn := veil ((Hnx.out true Hq.out).2 rfl)
          go_wp2_with fail
          go_roundg (xs.length - (k + 1))
          case rel => exact ⟨k + 1, rfl, by omega, by go_num, Hn, hbel2.drew⟩
          case measure => omega
        | false =>
          have hd : decide (xs = ys) = false := decide_eq_false (Hno.out (of_decide_eq_false Hq.out.symm))
          have Hd := veil hd
          clear hd
          go_wp2_with fail
          go_ret
          exact ⟨ret_bool Hd.out.symm, hbel2.drew⟩
      · go_wp2
        go_ret
        refine ⟨ret_bool ?_, hbel⟩
        symm
        have h3 := He.out
        rw [List.take_of_length_le (by omega), List.take_of_length_le (by have := Hl.out; omega)] at h3
        simpa using h3
  · have hne : ((xs.length : Int) != (ys.length : Int)) = true := by simp; omega
    have hd : decide (xs = ys) = false := by simp; intro e; exact hl (by rw [e])
    have Hd := veil hd
    clear hd hl
    go_enter Try.func19, Try.ntmps19
    go_wp2
    go_ret
    exact ⟨ret_bool Hd.out.symm, Below.refl _ _⟩
end Go.Proofs.Ytbboakdfnjjddaa
