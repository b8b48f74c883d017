/- Texts shared by the claims of this seat, in one. -/
import Derived.Test.YtddkhkpdbjjboaaBd8
import Derived.Test.YtddkhkpdbjjboaaBd9
import Derived.Test.YtddkhkpdbjjboaaBd4
import Derived.Deep.Cut
import Derived.Test.YtddkhkpdbjjboaaBd1
import Derived.Test.YtddkhkpdbjjboaaRows
import Derived.Test.YtddkhkpdbjjboaaBd7
import Derived.Test.YtddkhkpdbjjboaaBd3
import Derived.Laws.MakeOwn
import Derived.Deep.DeepCutAuto
/- The reference's ScanEncode: its contract. -/
namespace Go.Proofs.Ytddkhkpdbjjboaa
open Go.RowKit
set_option linter.unusedVariables false
set_option linter.unusedSimpArgs false
set_option maxRecDepth 100000

set_option maxRecDepth 100000 in
set_option maxHeartbeats 2000000 in
theorem refScanEncode_any (cs syms : List Int) (A : Option Addr) (c : Nat) (cs2 syms2 : List Int) (A2 : Option Addr) (c2 G : Nat) (L : List (List Int)) (A3 : Option Addr) (c3 : Nat) (every : Int) (w : World)
    (hcs : cs.length = 16) (hn : syms.length ≤ maxLen) (hcap : syms.length ≤ c) (hb : ∀ x ∈ cs, -9223372036854775808 ≤ x ∧ x ≤ 9223372036854775807) (hs : Seen w G A (ints .i64 syms))
    (hcs2 : cs2.length = 16) (hn2 : syms2.length ≤ maxLen) (hcap2 : syms2.length ≤ c2) (hb2 : ∀ x ∈ cs2, -9223372036854775808 ≤ x ∧ x ≤ 9223372036854775807) (hs2 : Seen w G A2 (ints .i64 syms2))
    (hl : ∀ r ∈ L, r.length = 64) (hm : L.length ≤ maxLen) (hcap3 : L.length ≤ c3) (hs3 : Seen w G A3 (rowsC L)) (hG : G ≤ w.heap.size) :
    Calls Try.prog 7 #[tabsV cs A syms.length c cs2 A2 syms2.length c2, .slice A3 L.length c3, .int .i64 every] w fun e w' => ∃ v, e = .returned (.tuple #[v, .int .i64 (eScan cs syms cs2 syms2 L every)]) ∧ Owns w.heap.size [byteRow v (oScan cs syms cs2 syms2 L every)] w' ∧ Below w.heap.size w w' := by
  have h34 : (tabsCells cs A syms.length c cs2 A2 syms2.length c2).length = 34 := by unfold tabsCells; rw [List.length_append, tabCells_length hcs, tabCells_length hcs2]
  have HCk := veil (fun W h1 h2 hG => tablesCheck_any cs syms A c cs2 syms2 A2 c2 G W hcs hn hcap hb h1 hcs2 hn2 hcap2 hb2 h2 hG)
  have HBk := veil (fun W h hG => blocksCheck_any L A3 c3 G W hl hm h hG)
  have HEn := veil (fun M A' c' W h1 h2 h3 (hl : ∀ r ∈ M, r.length = 64) (hm : M.length ≤ maxLen) hG => refSegEncode_any cs syms A c cs2 syms2 A2 c2 G M A' c' W hcs hn hcap hb h1 hcs2 hn2 hcap2 hb2 h2 hl hm h3 hG)
  have HFl := veil (fun (M : List (List Int)) (h : ∀ r ∈ M, r.length = 64) => segF_len (cs := cs) (syms := syms) (cs2 := cs2) (syms2 := syms2) hcs hcs2 h)
  have hb0 := below1 w (.cells (tabsCells cs A syms.length c cs2 A2 syms2.length c2).toArray 27)
  have hz0 : (w.alloc (.cells (tabsCells cs A syms.length c cs2 A2 syms2.length c2).toArray 27)).heap.size = w.heap.size + 1 := by simp
  have hTB := Blk.new w (tabsCells cs A syms.length c cs2 A2 syms2.length c2) 27
  obtain ⟨E, hE⟩ : ∃ E, E = eScan cs syms cs2 syms2 L every := ⟨_, rfl⟩
  obtain ⟨O, hO⟩ : ∃ O, O = oScan cs syms cs2 syms2 L every := ⟨_, rfl⟩
  rw [← hE, ← hO]
  have HOe : Hid (E ≠ 0 → O = []) := by show _ → _; intro h; rw [hO]; exact oScan_err (by rw [← hE]; exact h)
  have HE := veil hE
  have HO := veil hO
  have H34 := veil h34
  have Hl := veil hl
  have hs3' := hs3; have hs' := hs; have hs2' := hs2
  clear hcs hcs2 hb hb2 hE hO h34 hl hn hn2 hcap hcap2
  unfold tabsV at HCk HEn ⊢
  generalize tabsCells cs A syms.length c cs2 A2 syms2.length c2 = zs at *
  have hr0 := hTB.range
  go_enter Try.func7, Try.ntmps7
  by_cases hrg : every < 0 ∨ 100 < every
  · have hE1 := HE.out.trans (eScan_every hrg)
    have hO1 := HOe.out (by rw [hE1]; decide)
    have HE1 := veil hE1
    have HO1 := veil hO1
    have HOu := veil (out_yes every 0 100 (by omega) (w.alloc (.cells zs.toArray 27)))
    clear hE1 hO1 hrg
    go_wp2_with fail
    refine HOu.out.mono ?_
    rintro e w2 ⟨rfl, hw2⟩
    rw [hw2]
    go_wp2
    go_ret2
    exact ⟨_, ret_two rfl (by rw [HE1.out]; rfl), by rw [HO1.out]; exact (Owns.nil hb0.size).fresh _ _, hb0⟩
  · have Hrg := veil hrg
    obtain ⟨Ev, hEv, hEv100⟩ : ∃ Ev : Nat, every = (Ev : Int) ∧ Ev ≤ 100 := ⟨every.toNat, by omega, by omega⟩
    subst hEv
    have HOu := veil (out_no (Ev : Int) 0 100 (by omega) (w.alloc (.cells zs.toArray 27)))
    clear hrg
    obtain ⟨W0, hW0⟩ : ∃ W0, W0 = w.alloc (.cells zs.toArray 27) := ⟨_, rfl⟩
    have HW0 := veil hW0
    rw [← hW0] at hb0 hz0 hTB hr0 HOu
    clear hW0
    go_wp2_with fail
    rw [← HW0.out]
    refine HOu.out.mono ?_
    rintro e w1' ⟨rfl, hw1⟩
    have hw1' : w1' = W0 := hw1
    subst w1'
    clear HOu HW0
    go_wp2_with (first
      | (refine wpList_load_mid rfl 27 (.tmp 3) rfl w.heap.size 0 rfl zs _ hr0 Try.underlying27 rfl (by rw [H34.out]; kernel_rfl) ?_)
      | fail)
    refine (HCk.out _ (hs.below hb0 hG) (hs2.below hb0 hG) (by rw [hz0]; omega)).mono ?_
    rintro e w1 ⟨rfl, hb1⟩
    have hTB1 := hTB.below hb1 (by rw [hz0]; omega)
    have hbw1 := hb0.trans (hb1.mono (by rw [hz0]; omega))
    have hz1 := hb1.size
    rw [hz0] at hz1
    clear hr0 hb0 HCk hb1 hTB
    by_cases h0 : eTs cs syms cs2 syms2 = 0
    · rw [h0]
      have HT0 : Hid (eTs cs syms cs2 syms2 = 0) := h0
      clear h0
      go_wp2_with fail
      refine (HBk.out _ (hs3.below hbw1 hG) (by omega)).mono ?_
      rintro e w2 ⟨rfl, hb2⟩
      have hTB2 := hTB1.below hb2 (by omega)
      have hbw2 := hbw1.trans (hb2.mono hbw1.size)
      have hz2 := hb2.size
      clear HBk hbw1 hb2 hTB1
      by_cases hL : eL L = 0
      · rw [hL]
        obtain ⟨h400, hin⟩ := eL_zero hL
        have HEs : Hid (E = firstE ((segs L (Ev : Int)).map (eEnc cs syms cs2 syms2))) := HE.out.trans (eScan_seg Hrg.out HT0.out hL)
        have HOs : Hid (E = 0 → O = joinM 0 ((segs L (Ev : Int)).map (segF cs syms cs2 syms2))) := fun h => HO.out.trans (if_pos (by rw [← HE.out]; exact h))
        have HPa := veil (parts_any L.length Ev w2 (by omega) (by omega))
        have hev : (Ev : Int).toNat = Ev := Int.toNat_natCast _
        have hsg : segs L (Ev : Int) = segsOf (partsN L.length Ev) L := by unfold segs; rw [hev]
        rw [hsg] at HEs HOs
        have hps := partsN_sum L.length Ev
        have hpi := partsN_in L.length Ev
        have hpl := partsN_len L.length Ev
        obtain ⟨ps, hpsd⟩ : ∃ ps, ps = partsN L.length Ev := ⟨_, rfl⟩
        rw [← hpsd] at HEs HOs HPa hps hpi hpl
        have Hps := veil hps; have Hpi := veil hpi; have Hin := veil hin
        clear hL hev hsg hpsd hps hpi hin HE HO
        go_wp2_with fail
        refine HPa.out.mono ?_
        rintro e w3 ⟨pv, rfl, HOp, hb3⟩
        obtain ⟨Ap, cp, hpv, hsp, _, _⟩ := HOp.seen (List.mem_cons_self ..)
        have hz3 := hb3.size
        have hvv : pv = .slice Ap ps.length cp := by
          have h9 : pv = .slice Ap (ps.map Int.ofNat).length cp := hpv
          rw [List.length_map] at h9; exact h9
        subst pv
        have hsp' : Seen w3 w3.heap.size Ap (ints .i64 (ps.map Int.ofNat)) := hsp
        have hTB3 := hTB2.below hb3 (by omega)
        have hbw3 := hbw2.trans (hb3.mono hbw2.size)
        have Hsp := veil hsp'; have HTB := veil hTB3; have Hbw3 := veil hbw3
        have hbr0 : Below w3.heap.size w3 w3 := Below.refl _ _
        have hO0 : Owns w3.heap.size [byteRow (.slice none 0 0) []] w3 := (Owns.start w3).fresh _ _
        have Hbr0 := veil hbr0; have HO0 := veil hO0
        have Hs := veil (hs.below hbw3 hG); have Hs2 := veil (hs2.below hbw3 hG); have Hs3 := veil (hs3.below hbw3 hG)
        have HL0 : Hid (L = L.drop (ps.take 0).sum) := by show _ = _; simp
        have HZ0 : Hid (∀ x ∈ ((segsOf ps L).map (eEnc cs syms cs2 syms2)).take 0, x = 0) := by show ∀ x ∈ _, _; simp
        have HJ0 : Hid (([] : List Int) = joinM 0 (((segsOf ps L).map (segF cs syms cs2 syms2)).take 0)) := by show _ = _; simp [joinM]
        have hG3 : G ≤ w3.heap.size := by omega
        have hT3 : w.heap.size < w3.heap.size := by omega
        clear HPa hsp hsp' hpv HOp hb3 hTB2 hTB3 hbw2 hbw3 hbr0 hO0 hs hs2 hs3 hs' hs2' hs3' hz2 hz1
        go_wp2_with fail
        go_loopg [1, 10, 11, 12, 13, 14, 32] ps.length (fun gk lv ov kv nv bv ev iv wr => ∃ (k : Nat) (A' : Option Addr) (c' : Nat) (M : List (List Int)) (out : List Int), gk = ps.length - k ∧ k ≤ ps.length ∧ lv = .slice A' M.length c' ∧ iv = .int .i64 (k : Int) ∧ M.length ≤ c' ∧ Hid (M = L.drop (ps.take k).sum) ∧ Hid (Seen wr G A' (rowsC M)) ∧ Hid (∀ x ∈ ((segsOf ps L).map (eEnc cs syms cs2 syms2)).take k, x = 0) ∧ Hid (out = joinM 0 (((segsOf ps L).map (segF cs syms cs2 syms2)).take k)) ∧ out.length ≤ 250004 * k ∧ Hid (Owns w3.heap.size [byteRow ov out] wr) ∧ Hid (Below w3.heap.size w3 wr))
        case atStart => exact ⟨0, A3, c3, L, [], rfl, Nat.zero_le _, rfl, rfl, hcap3, HL0, Hs3, HZ0, HJ0, by simp, HO0, Hbr0⟩
        case round =>
          clear HL0 HZ0 HJ0 HO0 Hbr0
          obtain ⟨k, A', c', M, out, rfl, hk, rfl, rfl, hMc, HM, HsM, HZ, HJ, hol, HOo, Hbr⟩ := hrel
          obtain ⟨Wr, hWr⟩ : ∃ Wr, Wr = wr := ⟨_, rfl⟩
          subst hWr
          have hzr := Hbr.out.size
          by_cases hlt : k < ps.length
          · have hltz : (k : Int) < (ps.length : Int) := by omega
            obtain ⟨gp, op, x, rfl, hgp, hx, hcx⟩ := (Hsp.out.below Hbr.out (Nat.le_refl _)).int (k := k) (by rw [List.length_map]; exact hlt)
            obtain ⟨n, hn⟩ := some_at hlt
            obtain rfl : x = (n : Int) := by rw [List.getElem?_map, hn] at hx; simpa using hx.symm
            have hsa := segsOf_at ps L k n hn
            rw [← HM.out] at hsa
            have hsk := take_sum_le ps (k + 1)
            rw [Hps.out] at hsk
            have hst : (ps.take (k + 1)).sum = (ps.take k).sum + n := by rw [fc_snoc hn]; simp
            have hMl : M.length = L.length - (ps.take k).sum := by rw [HM.out, List.length_drop]
            have hnM : n ≤ M.length := by omega
            have hlM : ∀ r ∈ M, r.length = 64 := fun r hr => Hl.out r (by rw [HM.out] at hr; exact List.mem_of_mem_drop hr)
            obtain ⟨A4, hA4, hsA4⟩ := cutR_drop hlM HsM.out hnM hMc
            have hct := fun u => run_cutR_to A' M.length c' n (by omega) u
            have hce := fun u => run_cutR_end A' M.length c' n hnM u
            rw [hA4] at hce
            have hMd : M.drop n = L.drop (ps.take (k + 1)).sum := by rw [HM.out, List.drop_drop, hst]
            have htl : (M.take n).length = n := by rw [List.length_take]; omega
            have hbd : Below w3.heap.size w3 Wr.drew := Hbr.out.drew
            have hC := HEn.out (M.take n) A' c' Wr.drew (Hs.out.below hbd hG3) (Hs2.out.below hbd hG3) (cutR_take (HsM.out.below (Below.refl G Wr).drew (Nat.le_refl _))) (fun r hr => hlM r (List.mem_of_mem_take hr)) (by rw [htl]; omega) (by show G ≤ Wr.heap.size; omega)
            rw [htl] at hC
            have hfl := HFl.out (M.take n) (fun r hr => hlM r (List.mem_of_mem_take hr))
            have hse : ((segsOf ps L).map (eEnc cs syms cs2 syms2))[k]? = some (eEnc cs syms cs2 syms2 (M.take n)) := by rw [List.getElem?_map, hsa]; rfl
            have hsf : ((segsOf ps L).map (segF cs syms cs2 syms2))[k]? = some (segF cs syms cs2 syms2 (M.take n)) := by rw [List.getElem?_map, hsa]; rfl
            have hso := fun out (h : SegOut cs syms cs2 syms2 (M.take n) out) => segOut_is cs syms cs2 syms2 h
            have hTBr := HTB.out.below Hbr.out hT3
            have hMd2 : (M.drop n).length ≤ c' - n := by rw [List.length_drop]; omega
            have hk400 : k ≤ 400 := by omega
            have HC := veil hC; have Hso := veil hso; have Hse := veil hse; have Hsf := veil hsf; have HMd := veil hMd; have HsA4 := veil hsA4
            obtain ⟨er, her⟩ : ∃ er, er = eEnc cs syms cs2 syms2 (M.take n) := ⟨_, rfl⟩
            obtain ⟨sf, hsfd⟩ : ∃ sf, sf = segF cs syms cs2 syms2 (M.take n) := ⟨_, rfl⟩
            rw [← her] at HC Hse
            rw [← hsfd] at Hsf Hso hfl
            clear hC hso hse hsf hMd hsA4 hsa hst hlM htl hx hn hA4 her hsfd hMl
            go_upto_region 13 with fail
            refine wp_region_held_drew (S := fun w' => Blk w' w.heap.size zs 27) (by kernel_rfl) hTBr (fun hHeld0 => ?_)
            refine take_load 0 38 27 (.tmp 3) w.heap.size 0 zs _ rfl rfl (by kernel_rfl) (by kernel_rfl) (by kernel_rfl) (fun _ _ _ h => h) rfl rfl rfl (fun w' h => h.range) Try.underlying27 rfl (by rw [H34.out]; kernel_rfl) hHeld0 rfl ?_
            refine take_pure 1 39 (.slice A' M.length c') _ rfl rfl (by kernel_rfl) (by kernel_rfl) (by kernel_rfl) (fun _ _ _ h => h) rfl (fun w' hS => by go_simp) hHeld0 rfl ?_
            refine take_pure 2 40 (.int .i64 (n : Int)) _ rfl rfl (by kernel_rfl) (by kernel_rfl) (by kernel_rfl) (fun _ _ _ h => h) rfl (fun w' hS => by go_simp) hHeld0 rfl ?_
            refine take_pure 3 41 (.slice A' n c') _ rfl rfl (by kernel_rfl) (by kernel_rfl) (by kernel_rfl) (fun _ _ _ h => h) rfl (fun w' hS => by go_simp) hHeld0 rfl ?_
            refine wpAnyH_ready (rs := [4]) (by kernel_rfl) (by simp) ?_
            refine AllReadyH.cons rfl (fun K hK => ?_) AllReadyH.nil
            go_simp
            refine HC.out.mono ?_
            rintro e w5 ⟨v5, out5, rfl, HO5, hS5, hb5⟩
            have hb5' : Below Wr.heap.size Wr w5 := below_of_drew hb5
            refine hK.out _ _ (hHeld0.below hb5 hHeld0.lt) (fun hHeld1 => ?_)
            clear hK K
            refine take_pure 5 37 (.tuple #[v5, .int .i64 er]) _ rfl rfl (by kernel_rfl) (by kernel_rfl) (by kernel_rfl) (fun _ _ _ h => h) rfl (fun w' hS => by go_simp) hHeld1 rfl ?_
            refine take_pure 6 43 v5 _ rfl rfl (by kernel_rfl) (by kernel_rfl) (by kernel_rfl) (fun _ _ _ h => h) rfl (fun w' hS => by go_simp) hHeld1 rfl ?_
            refine take_pure 7 44 (.int .i64 er) _ rfl rfl (by kernel_rfl) (by kernel_rfl) (by kernel_rfl) (fun _ _ _ h => h) rfl (fun w' hS => by go_simp) hHeld1 rfl ?_
            refine take_pure 8 13 v5 _ rfl rfl (by kernel_rfl) (by kernel_rfl) (by kernel_rfl) (fun _ _ _ h => h) rfl (fun w' hS => by go_simp) hHeld1 rfl ?_
            refine take_pure 9 14 (.int .i64 er) _ rfl rfl (by kernel_rfl) (by kernel_rfl) (by kernel_rfl) (fun _ _ _ h => h) rfl (fun w' hS => by go_simp) hHeld1 rfl ?_
            refine wpAnyH_done (by kernel_rfl) ?_ _
            obtain rfl := (Hso.out out5 hS5).symm
            obtain ⟨A5, c5, hv5, hs5, hc5, hm5⟩ := HO5.seen (List.mem_cons_self ..)
            obtain rfl : v5 = .slice A5 sf.length c5 := hv5
            have hz5 := hb5'.size
            have Hbr5 := veil (Hbr.out.trans (hb5'.mono hzr))
            have HO6 := (HOo.out.call hb5' HO5).swap
            have Hs5 := veil hs5
            have HsA4w := HsA4.out.below hb5' (by omega)
            clear HO5 hS5 hb5 hs5 Hs5 hHeld0 hHeld1 hTBr HC Hso hbd HOo
            by_cases he : er = 0
            · subst he
              have hz2 : Hid (∀ x ∈ ((segsOf ps L).map (eEnc cs syms cs2 syms2)).take (k + 1), x = 0) := mem_snoc Hse.out HZ.out rfl
              have htk : (((segsOf ps L).map (segF cs syms cs2 syms2)).take k).length = k := by rw [List.length_take, List.length_map, segsOf_length]; omega
              have hj2 : joinM 0 (((segsOf ps L).map (segF cs syms cs2 syms2)).take (k + 1)) = out ++ ((if k = 0 then ([] : List Int) else ([255, 208 + (((k + 7) % 8 : Nat) : Int)] : List Int)) ++ sf) := by
                rw [take_snoc Hsf.out, joinM_snoc, ← HJ.out, htk, Nat.zero_add]
              clear HsM
              by_cases hk0 : k = 0
              · subst hk0
                rw [if_pos rfl, List.nil_append] at hj2
                have Hj2 := veil hj2
                clear hj2
                go_wp2_with (first
                  | (at_builtin; go_loud (refine wpList_ownV w5 rfl (.tmp 61) (.tmp 62) _ rfl w3.heap.size 5 1 1 elem_byte u10 out.length (ints .u8 out) [byteRow (.slice A5 sf.length c5) sf] rfl HO6 w5.heap.size A5 sf.length c5 (ints .u8 sf) rfl (seen_second HO6) (by rw [ints_length]; omega) ints_one (by unfold maxLen; omega) (by omega) ?_); intro v7 w7 HO7 hb7)
                  | fail)
                go_roundg (ps.length - 1)
                case rel => exact ⟨1, A4, c' - n, M.drop n, out ++ sf, rfl, by omega, by rw [List.length_drop], rfl, hMd2, HMd, veil (HsA4w.below hb7 hG3), hz2, veil Hj2.out.symm, by rw [List.length_append]; omega, veil (by rw [intRow_append] at HO7; exact HO7.swap.tail), veil (Hbr5.out.trans hb7)⟩
                case measure => omega
              · rw [if_neg hk0] at hj2
                have hkp : (0 : Int) < (k : Int) := by omega
                obtain ⟨q, hq, hq8⟩ : ∃ q : Nat, q = (k + 7) % 8 ∧ q < 8 := ⟨_, rfl, by omega⟩
                rw [← hq] at hj2
                have hqz : ((k : Int) + 7) % 8 = (q : Int) := by omega
                have hu8 := u8_208 q hq8
                have Hj2 := veil hj2
                clear hj2 hq
                go_wp2_with (first
                  | (at_builtin; go_loud (refine wpList_ownI _ rfl (.tmp 53) (.tmp 59) _ rfl w3.heap.size 5 .u8 1 elem_byte u10 out [byteRow (.slice A5 sf.length c5) sf] rfl HO6 [255, 208 + (q : Int)] rfl (by unfold maxLen; simp; omega) (by simp; omega) ?_); intro v6 w6 HO6b hb6 hz6)
                  | (at_builtin; go_loud (refine wpList_ownV w6 rfl (.tmp 61) (.tmp 62) _ rfl w3.heap.size 5 1 1 elem_byte v6 (out ++ [255, 208 + (q : Int)]).length (ints .u8 (out ++ [255, 208 + (q : Int)])) [byteRow (.slice A5 sf.length c5) sf] rfl HO6b w6.heap.size A5 sf.length c5 (ints .u8 sf) rfl (seen_second HO6b) (by rw [ints_length]; omega) ints_one (by unfold maxLen; simp; omega) (by simp; omega) ?_); intro v7 w7 HO7 hb7)
                  | fail)
                go_roundg (ps.length - (k + 1))
                case rel => exact ⟨k + 1, A4, c' - n, M.drop n, (out ++ [255, 208 + (q : Int)]) ++ sf, rfl, by omega, by rw [List.length_drop], by go_num, hMd2, HMd, veil ((HsA4w.below hb6 hG3).below hb7 hG3), hz2, veil (by rw [Hj2.out, List.append_assoc]), by simp only [List.length_append, List.length_cons, List.length_nil]; omega, veil (by rw [intRow_append] at HO7; exact HO7.swap.tail), veil ((Hbr5.out.trans hb6).trans hb7)⟩
                case measure => omega
            · have hE1 : E = er := HEs.out.trans (firstE_at HZ.out Hse.out he)
              have hO1 := HOe.out (by rw [hE1]; exact he)
              have HE1 := veil hE1
              have HO1 := veil hO1
              have hbe : (er != 0) = true := by simpa using he
              have hfin := Hbw3.out.trans (Hbr5.out.mono (by omega))
              clear hE1 hO1 he
              go_wp2_with fail
              go_ret2
              exact ⟨_, ret_two rfl (by rw [HE1.out]; rfl), by rw [HO1.out]; exact (Owns.nil hfin.size).fresh _ _, hfin⟩
          · obtain rfl : k = ps.length := by omega
            have hlen1 : ((segsOf ps L).map (eEnc cs syms cs2 syms2)).length ≤ ps.length := by rw [List.length_map, segsOf_length]; omega
            have hlen2 : ((segsOf ps L).map (segF cs syms cs2 syms2)).length ≤ ps.length := by rw [List.length_map, segsOf_length]; omega
            have hz := HZ.out
            rw [List.take_of_length_le hlen1] at hz
            have hE1 : E = 0 := HEs.out.trans ((firstE_zero _).2 hz)
            have hO1 := HOs.out hE1
            have hj := HJ.out
            rw [List.take_of_length_le hlen2] at hj
            rw [← hj] at hO1
            have HE1 := veil hE1
            have HO1 := veil hO1
            have hfin := Hbw3.out.trans (Hbr.out.mono (by omega))
            clear hE1 hO1 hz hj hlen1 hlen2
            go_wp2_with fail
            go_ret2
            exact ⟨_, ret_two rfl (by rw [HE1.out]; rfl), by rw [HO1.out]; exact HOo.out.down (by omega), hfin⟩
      · have hE1 := HE.out.trans (eScan_blk Hrg.out HT0.out hL)
        have hO1 := HOe.out (by rw [hE1]; exact hL)
        have HE1 := veil hE1
        have HO1 := veil hO1
        have hne : (eL L != 0) = true := by simpa using hL
        obtain ⟨er, her⟩ : ∃ er, er = eL L := ⟨_, rfl⟩
        rw [← her] at HE1 hne ⊢
        clear hE1 hO1 hL her
        go_wp2_with fail
        go_ret2
        exact ⟨_, ret_two rfl (by rw [HE1.out]; rfl), by rw [HO1.out]; exact (Owns.nil hbw2.size).fresh _ _, hbw2⟩
    · have hE1 := HE.out.trans (eScan_tab Hrg.out h0)
      have hO1 := HOe.out (by rw [hE1]; exact h0)
      have HE1 := veil hE1
      have HO1 := veil hO1
      have hne : (eTs cs syms cs2 syms2 != 0) = true := by simpa using h0
      obtain ⟨er, her⟩ : ∃ er, er = eTs cs syms cs2 syms2 := ⟨_, rfl⟩
      rw [← her] at HE1 hne ⊢
      clear hE1 hO1 h0 her
      go_wp2_with fail
      go_ret2
      exact ⟨_, ret_two rfl (by rw [HE1.out]; rfl), by rw [HO1.out]; exact (Owns.nil hbw1.size).fresh _ _, hbw1⟩
end Go.Proofs.Ytddkhkpdbjjboaa

/- The reference's comparison of two lists of bytes tells whether they are equal. -/
namespace Go.Proofs.Ytddkhkpdbjjboaa
open Go.RowKit
set_option linter.unusedVariables false
set_option linter.unusedSimpArgs false
set_option maxRecDepth 100000

set_option maxHeartbeats 400000 in
theorem eqByte (A B : Option Addr) (c d G : Nat) (xs ys : List Int) (w : World) (hx : Seen w G A (ints .u8 xs)) (hy : Seen w G B (ints .u8 ys)) (hlx : xs.length ≤ maxLen) (hly : ys.length ≤ maxLen) :
    Calls Try.prog 8 #[.slice A xs.length c, .slice B ys.length d] w fun e w' => e = .returned (.bool (decide (xs = ys))) ∧ w = w' := by
  unfold maxLen at hlx hly
  by_cases hl : xs.length = ys.length
  · have hne : ((xs.length : Int) != (ys.length : Int)) = false := by simp [hl]
    have Hl := veil hl
    clear hl
    go_enter Try.func8, Try.ntmps8
    go_wp2
    go_loop [5, 6, 14] (fun _ _ i => ∃ k : Nat, k ≤ xs.length ∧ i = .int .i64 k ∧ Hid (xs.take k = ys.take k)) (fun _ _ i => xs.length - (intOf i).toNat)
    case atStart => exact ⟨0, Nat.zero_le _, rfl, veil rfl⟩
    case round =>
      obtain ⟨k, hk, rfl, He⟩ := hrel
      by_cases hlt : k < xs.length
      · have hky : (k : Int) < (ys.length : Int) := by have := Hl.out; omega
        obtain ⟨g, o, x, rfl, _, hxk, h1⟩ := hx.int hlt
        obtain ⟨g', o', y, rfl, _, hyk, h2⟩ := hy.int (k := k) (by omega)
        have Hx := veil hxk; have Hy := veil hyk
        clear hxk hyk
        by_cases hxy : x = y
        · obtain rfl := hxy
          have hb : (x != x) = false := by simp
          go_wp2
          go_round
          case rel => exact ⟨k + 1, by omega, by go_num, veil (by rw [take_snoc Hx.out, take_snoc Hy.out, He.out])⟩
          case measure => simp [intOf]; omega
        · have hb : (x != y) = true := by simpa using hxy
          go_wp2
          go_ret
          refine ⟨ret_bool ?_, rfl⟩
          symm
          simp only [decide_eq_false_iff_not]
          intro e
          have h3 := Hx.out
          rw [e, Hy.out] at h3
          exact hxy (by injection h3 with h3; exact h3.symm)
      · go_wp2
        go_ret
        refine ⟨ret_bool ?_, rfl⟩
        symm
        have h3 := He.out
        rw [List.take_of_length_le (by omega), List.take_of_length_le (by have := Hl.out; omega)] at h3
        simpa using h3
  · have hne : ((xs.length : Int) != (ys.length : Int)) = true := by simp; omega
    have hd : decide (xs = ys) = false := by simp; intro e; exact hl (by rw [e])
    have Hd := veil hd
    clear hd hl
    go_enter Try.func8, Try.ntmps8
    go_wp2
    go_ret
    exact ⟨ret_bool Hd.out.symm, rfl⟩
end Go.Proofs.Ytddkhkpdbjjboaa

/- scan's small functions: isEvery, checkTables, marker, sizes: their contracts. -/
namespace Go.Proofs.Ytddkhkpdbjjboaa
open Go.RowKit
set_option linter.unusedVariables false
set_option linter.unusedSimpArgs false
set_option maxRecDepth 100000

theorem isEvery_yes (E : Int) (h : ¬ (E < 0 ∨ 100 < E)) (w : World) : Calls Try.prog 17 #[.int .i64 E] w fun e w' => e = .returned (.bool true) ∧ w' = w := by
  have h1 : (0 : Int) ≤ E := by omega
  have h2 : E ≤ 100 := by omega
  go_enter Try.func17, Try.ntmps17
  go_wp2
  all_goals (go_ret; exact ⟨ret_bool (by simp <;> omega), rfl⟩)
theorem isEvery_no (E : Int) (h : E < 0 ∨ 100 < E) (w : World) : Calls Try.prog 17 #[.int .i64 E] w fun e w' => e = .returned (.bool false) ∧ w' = w := by
  go_enter Try.func17, Try.ntmps17
  go_wp2
  all_goals (go_ret; exact ⟨ret_bool (by simp <;> omega), rfl⟩)
theorem marker_any (x : Int) (q : Nat) (h0 : 0 ≤ x) (h1 : x ≤ 2000000) (hq : x % 8 = (q : Int)) (w : World) : Calls Try.prog 21 #[.int .i64 x] w fun e w' => e = .returned (.int .i64 (208 + (q : Int))) ∧ w' = w := by
  have hq8 : (q : Int) < 8 := by omega
  go_enter Try.func21, Try.ntmps21
  go_wp2
  go_ret
  exact ⟨rfl, rfl⟩
set_option maxRecDepth 100000 in
set_option maxHeartbeats 2000000 in
theorem checkTables_any (cs syms : List Int) (A : Option Addr) (c : Nat) (cs2 syms2 : List Int) (A2 : Option Addr) (c2 G : Nat) (w : World)
    (hcs : cs.length = 16) (hn : syms.length ≤ maxLen) (hb : ∀ x ∈ cs, -9223372036854775808 ≤ x ∧ x ≤ 9223372036854775807) (hs : Seen w G A (ints .i64 syms))
    (hcs2 : cs2.length = 16) (hn2 : syms2.length ≤ maxLen) (hb2 : ∀ x ∈ cs2, -9223372036854775808 ≤ x ∧ x ≤ 9223372036854775807) (hs2 : Seen w G A2 (ints .i64 syms2)) (hG : G ≤ w.heap.size) :
    Calls Try.prog 18 #[tabsV cs A syms.length c cs2 A2 syms2.length c2] w fun e w' => e = .returned (.int .i64 (eTs cs syms cs2 syms2)) ∧ Below w.heap.size w w' := by
  have h17 : (tabCells cs A syms.length c).length = 17 := tabCells_length hcs
  have h17b : (tabCells cs2 A2 syms2.length c2).length = 17 := tabCells_length hcs2
  have HC1 := veil (fun W h hG => check_any cs syms A c G W hcs hn hb h hG)
  have HC2 := veil (fun W h hG => check_any cs2 syms2 A2 c2 G W hcs2 hn2 hb2 h hG)
  have hb0 := below1 w (.cells (tabsCells cs A syms.length c cs2 A2 syms2.length c2).toArray 27)
  have hz0 : (w.alloc (.cells (tabsCells cs A syms.length c cs2 A2 syms2.length c2).toArray 27)).heap.size = w.heap.size + 1 := by simp
  have hr := range_new w (tabsCells cs A syms.length c cs2 A2 syms2.length c2) 27
  have hr1 := range_left hr
  have hr2 := range_right hr
  rw [h17] at hr2
  have HE : Hid (eTs cs syms cs2 syms2 = if checkErr cs syms = 0 then checkErr cs2 syms2 else checkErr cs syms) := rfl
  have H17 := veil h17
  have H17b := veil h17b
  clear hr h17 h17b hcs hcs2 hb hb2
  unfold tabsV
  unfold tabV at HC1 HC2
  generalize tabsCells cs A syms.length c cs2 A2 syms2.length c2 = zs at *
  generalize tabCells cs A syms.length c = xs at *
  generalize tabCells cs2 A2 syms2.length c2 = ys at *
  generalize eTs cs syms cs2 syms2 = E at *
  generalize checkErr cs syms = e1 at *
  generalize checkErr cs2 syms2 = e2 at *
  go_enter Try.func18, Try.ntmps18
  go_wp2_with (first
    | (refine wpList_load_mid rfl 25 (.tmp 4) rfl w.heap.size 0 rfl xs _ hr1 Try.underlying25 rfl (by rw [H17.out]; exact info_tab) ?_)
    | fail)
  refine (HC1.out _ (hs.below hb0 hG) (by rw [hz0]; omega)).mono ?_
  rintro e w1 ⟨rfl, hb1⟩
  have hr2' := range_below hr2 hb1 (by rw [hz0]; omega)
  have hbw := hb0.trans (hb1.mono (by rw [hz0]; omega))
  clear hr1 hr2 hb0 hb1 HC1
  by_cases h0 : e1 = 0
  · subst h0
    have hE := HE.out
    rw [if_pos rfl] at hE
    subst hE
    go_wp2_with (first
      | (refine wpList_load_mid rfl 25 (.tmp 10) rfl w.heap.size 17 rfl ys _ (by simpa using hr2') Try.underlying25 rfl (by rw [H17b.out]; exact info_tab) ?_)
      | fail)
    refine (HC2.out _ (hs2.below hbw hG) (by have := hbw.size; omega)).mono ?_
    rintro e w2 ⟨rfl, hb2⟩
    have hf := hbw.trans (hb2.mono hbw.size)
    go_wp2
    go_ret
    exact ⟨rfl, hf⟩
  · have hE := HE.out
    rw [if_neg h0] at hE
    subst hE
    have hne : (E != 0) = true := by simpa using h0
    clear h0
    go_wp2
    go_ret
    exact ⟨rfl, hbw⟩
/-- What is left to cut is cut again. -/
theorem partsN_next {m E : Nat} (hE : E ≠ 0) (h : E < m) : partsN m E = E :: partsN (m - E) E := by
  unfold partsN
  rw [if_neg (by omega), if_neg (by omega), chunk_pos hE (by omega), Nat.min_eq_right (by omega)]
set_option maxRecDepth 100000 in
set_option maxHeartbeats 1000000 in
theorem sizes_any (n E : Nat) (w : World) (hn : n ≤ 100000) (hE : E ≤ 1000000) : Calls Try.prog 20 #[.int .i64 (n : Int), .int .i64 (E : Int)] w fun e w' => ∃ v, e = .returned v ∧ Owns w.heap.size [intRow 3 .i64 v ((partsN n E).map Int.ofNat)] w' ∧ Below w.heap.size w w' := by
  by_cases h0 : E = 0
  · subst h0
    have e : partsN n 0 = [n] := by unfold partsN; rw [if_pos (.inl rfl)]
    rw [e]
    have Ho := veil (parts_one n w)
    go_enter Try.func20, Try.ntmps20
    go_wp2
    go_ret
    exact ⟨_, rfl, Ho.out, below1 w _⟩
  · have hE0 : ((E : Int) == 0) = false := by simp; omega
    have HC0 : Hid (partsN n E = [] ++ partsN n E) := rfl
    have hst := Owns.start w
    go_enter Try.func20, Try.ntmps20
    go_wp2_with fail
    go_loopg [0, 5] (n + 1) (fun gk mv v wr => ∃ (m : Nat) (acc : List Nat), gk = m + 1 ∧ m ≤ n ∧ mv = .int .i64 (m : Int) ∧ acc.length + m ≤ n ∧ Hid (partsN n E = acc ++ partsN m E) ∧ Owns w.heap.size [intRow 3 .i64 v (acc.map Int.ofNat)] wr ∧ Below w.heap.size w wr)
    case atStart => exact ⟨n, [], rfl, Nat.le_refl _, rfl, by simp, HC0, hst.fresh _ _, Below.refl _ _⟩
    case round =>
      clear HC0 hst
      obtain ⟨m, acc, rfl, hm, rfl, hal, HC, HO, hbel⟩ := hrel
      have hl1 : (acc.map Int.ofNat).length = acc.length := by simp
      rcases Nat.lt_or_ge E m with hlt | hge
      · have hltz : (E : Int) < (m : Int) := by omega
        have HC2 : Hid (partsN n E = (acc ++ [E]) ++ partsN (m - E) E) := by show _ = _; rw [HC.out, partsN_next h0 hlt]; simp
        go_wp2_with (first
          | (at_builtin; go_loud (refine wpList_ownI _ rfl (.tmp 16) (.tmp 18) _ rfl w.heap.size 3 .i64 8 elem_int u5 (acc.map Int.ofNat) [] rfl HO [(E : Int)] rfl (by rw [hl1]; unfold maxLen; simp; omega) (by rw [hl1]; simp; omega) ?_); intro v4 w4 HO4 hb4 hz4)
          | fail)
        all_goals (go_roundg (m - E + 1))
        all_goals first
          | (case rel => exact ⟨m - E, acc ++ [E], rfl, by omega, by go_num, by simp; omega, HC2, by rw [List.map_append]; exact HO4, hbel.trans hb4⟩)
          | (case measure => omega)
          | omega
      · have hgez : ¬ (E : Int) < (m : Int) := by omega
        have hc : partsN n E = acc ++ [m] := by rw [HC.out, partsN_one hge]
        have Hc := veil hc
        clear hc
        go_wp2_with (first
          | (at_builtin; go_loud (refine wpList_ownI _ rfl (.tmp 20) (.tmp 22) _ rfl w.heap.size 3 .i64 8 elem_int u5 (acc.map Int.ofNat) [] rfl HO [(m : Int)] rfl (by rw [hl1]; unfold maxLen; simp; omega) (by rw [hl1]; simp; omega) ?_); intro v4 w4 HO4 hb4 hz4)
          | fail)
        go_ret
        exact ⟨_, rfl, by rw [Hc.out, List.map_append]; exact HO4, hbel.trans hb4⟩
end Go.Proofs.Ytddkhkpdbjjboaa

/- seg.Counts: its contract. -/
namespace Go.Proofs.Ytddkhkpdbjjboaa
open Go.RowKit
set_option linter.unusedVariables false
set_option linter.unusedSimpArgs false
set_option maxRecDepth 100000

theorem info_int' : (Try.prog.info? 3).map (fun i => (i.zero, i.size, i.bytes)) = some (some (.int .i64 0), 1, 8) := by kernel_rfl
def zero256 : List Value := ints .i64 (List.replicate 256 0)
theorem made256 : madeCells (Value.int .i64 0).cells 256 = zero256.toArray := by kernel_rfl
theorem run_make256 (u : World) : (Instr.makeSlice 23 (.int .i64 256) (.int .i64 256)).run Try.prog u = .ok (.slice (some ⟨u.heap.size, 0, none⟩) 256 256) (u.alloc (.cells zero256.toArray 3)) := by
  obtain ⟨i0, hi, hz0, hz1, hz2⟩ := info_parts info_int'
  have h := run_make (P := Try.prog) u 23 3 i0 (.int .i64 0) Try.underlying23 hi hz0 .i64 .i64 256 256 (by omega) (by omega) (by rw [hz2]; omega) (by omega)
  rw [hz1] at h
  rw [← made256]
  exact h
theorem four0 (w : World) (xs : List Value) (t : TypeId) (b c d : Obj) : Blk ((((w.alloc (.cells xs.toArray t)).alloc b).alloc c).alloc d).drew w.heap.size xs t :=
  ((((Blk.new w xs t).below (below1 _ b) (by simp)).below (below1 _ c) (by simp; omega)).below (below1 _ d).drew (by simp; omega))
theorem four1 (w : World) (xs : List Value) (t : TypeId) (a c d : Obj) : Blk ((((w.alloc a).alloc (.cells xs.toArray t)).alloc c).alloc d).drew (w.heap.size + 1) xs t := by
  have h := Blk.new (w.alloc a) xs t
  rw [World.size_alloc] at h
  exact (h.below (below1 _ c) (by simp)).below (below1 _ d).drew (by simp)
theorem four2 (w : World) (xs : List Value) (t : TypeId) (a b d : Obj) : Blk ((((w.alloc a).alloc b).alloc (.cells xs.toArray t)).alloc d).drew (w.heap.size + 1 + 1) xs t := by
  have h := Blk.new ((w.alloc a).alloc b) xs t
  rw [World.size_alloc, World.size_alloc] at h
  exact h.below (below1 _ d).drew (by simp)
theorem four3 (w : World) (xs : List Value) (t : TypeId) (a b c : Obj) : Blk ((((w.alloc a).alloc b).alloc c).alloc (.cells xs.toArray t)).drew (w.heap.size + 1 + 1 + 1) xs t := by
  have h := Blk.new (((w.alloc a).alloc b).alloc c) xs t
  rw [World.size_alloc, World.size_alloc, World.size_alloc] at h
  exact h
theorem four_below (w : World) (a b c d : Obj) : Below w.heap.size w ((((w.alloc a).alloc b).alloc c).alloc d).drew :=
  (((((Below.refl _ w).alloc (Nat.le_refl _) a).alloc (by simp) b).alloc (by simp; omega) c).alloc (by simp; omega) d).drew
/-- What the counting keeps. -/
def cntI (c1 c2 p1 p2 : Nat) (W : World) (F : Nat → Prop) (acc : List (Bool × Int × Int × Int)) : Prop :=
  Blk W c1 [.slice (some ⟨p1, 0, none⟩) 256 256] 23 ∧ Blk W c2 [.slice (some ⟨p2, 0, none⟩) 256 256] 23 ∧ Blk W p1 (ints .i64 (tally true acc)) 3 ∧ Blk W p2 (ints .i64 (tally false acc)) 3 ∧ F = fun q => q = p1 ∨ q = p2
theorem ints_set (xs : List Int) (i : Nat) (x : Int) : (ints .i64 xs).set i (.int .i64 x) = ints .i64 (xs.set i x) := by simp [ints]
theorem cnt_step (c1 c2 p1 p2 : Nat) (first : Bool) (t : Int × Int × Int) (W : World) (F : Nat → Prop) (acc : List (Bool × Int × Int × Int)) (h : cntI c1 c2 p1 p2 W F acc) (hacc : acc.length < 25600) (hg : goodT t) (h1 : c1 ≠ p1) (h2 : c1 ≠ p2) (h3 : c2 ≠ p1) (h4 : c2 ≠ p2) (h5 : p1 ≠ p2) :
    Calls Try.prog 39 #[tokV t, .bool first, .pointer (some ⟨c1, 0, none⟩), .pointer (some ⟨c2, 0, none⟩)] W fun e W' => e = .returned (.tuple #[]) ∧ ∃ F', cntI c1 c2 p1 p2 W' F' (acc ++ [(first, t)]) ∧ Only F W W' ∧ ∀ q, F' q → F q ∨ W.heap.size ≤ q := by
  obtain ⟨hc1, hc2, hp1, hp2, rfl⟩ := h
  obtain ⟨t0, t1, t2⟩ := t
  have hs := hg.2
  simp only at hs
  obtain ⟨S, hS⟩ : ∃ S : Nat, t0 = (S : Int) := ⟨t0.toNat, by omega⟩
  subst hS
  have hS256 : S < 256 := by omega
  have hb0 := below1 W (.cells #[.int .i64 (S : Int), .int .i64 t1, .int .i64 t2] 76)
  have d1 := (hc1.below hb0 hc1.lt).cell (i := 0) (v := .slice (some ⟨p1, 0, none⟩) 256 256) rfl
  have d2 := (hc2.below hb0 hc2.lt).cell (i := 0) (v := .slice (some ⟨p2, 0, none⟩) 256 256) rfl
  have hz0 : (W.alloc (.cells #[.int .i64 (S : Int), .int .i64 t1, .int .i64 t2] 76)).heap.size = W.heap.size + 1 := by simp
  cases first with
  | true =>
    obtain ⟨x, hx⟩ := some_at (xs := tally true acc) (j := S) (by rw [tally_length]; exact hS256)
    have hxb := tally_in true acc x (List.mem_of_getElem? hx)
    have hB := hp1.below hb0 hp1.lt
    have k1 := hB.cell (i := S) (v := .int .i64 x) (ints_at hx)
    have f1 := hB.frozen S
    have hB2 := hB.set S (.int .i64 (x + 1))
    have hbump : (ints .i64 (tally true acc)).set S (.int .i64 (x + 1)) = ints .i64 (tally true (acc ++ [(true, (S : Int), t1, t2)])) := by
      rw [tally_snoc, if_pos rfl, ints_set]; unfold bump
      rw [Int.toNat_natCast, List.getD_eq_getElem?_getD, hx]; rfl
    rw [hbump] at hB2
    have hsame : tally false (acc ++ [(true, (S : Int), t1, t2)]) = tally false acc := by rw [tally_snoc, if_neg (by simp)]
    have hg2 := grown_setCell (W.alloc (.cells #[.int .i64 (S : Int), .int .i64 t1, .int .i64 t2] 76)) p1 S (.int .i64 (x + 1))
    have hw : IntKind.i64.wrap (x + 1) = x + 1 := by rw [IntKind.wrap_i64]; omega
    have hres : Hid (∃ F', cntI c1 c2 p1 p2 ((W.alloc (.cells #[.int .i64 (S : Int), .int .i64 t1, .int .i64 t2] 76)).setCell ⟨p1, S, none⟩ (.int .i64 (x + 1))) F' (acc ++ [(true, (S : Int), t1, t2)]) ∧ Only (fun q => q = p1 ∨ q = p2) W ((W.alloc (.cells #[.int .i64 (S : Int), .int .i64 t1, .int .i64 t2] 76)).setCell ⟨p1, S, none⟩ (.int .i64 (x + 1))) ∧ ∀ q, F' q → (fun q => q = p1 ∨ q = p2) q ∨ W.heap.size ≤ q) :=
      ⟨fun q => q = p1 ∨ q = p2, ⟨(hc1.below hb0 hc1.lt).kept hg2 (by simpa using h1), (hc2.below hb0 hc2.lt).kept hg2 (by simpa using h3), hB2, by rw [hsame]; exact (hp2.below hb0 hp2.lt).kept hg2 (by simpa using h5.symm), rfl⟩,
        (Only.of_below hb0 (Nat.le_refl _) : Only (fun q => q = p1 ∨ q = p2) _ _).trans (Only.of_grown hg2 (F := fun q => q = p1 ∨ q = p2) (fun g e => .inl (.inl (by injection e with e; exact e.symm)))) (fun q h => .inl h), fun q h => .inl h⟩
    clear hB2 hbump hsame hg2 hc1 hc2 hp1 hp2 hB hb0 hx hxb hg
    unfold tokV
    go_enter Try.func39, Try.ntmps39
    go_wp2_with fail
    go_end0
    exact ⟨rfl, hres.out⟩
  | false =>
    obtain ⟨x, hx⟩ := some_at (xs := tally false acc) (j := S) (by rw [tally_length]; exact hS256)
    have hxb := tally_in false acc x (List.mem_of_getElem? hx)
    have hB := hp2.below hb0 hp2.lt
    have k1 := hB.cell (i := S) (v := .int .i64 x) (ints_at hx)
    have f1 := hB.frozen S
    have hB2 := hB.set S (.int .i64 (x + 1))
    have hbump : (ints .i64 (tally false acc)).set S (.int .i64 (x + 1)) = ints .i64 (tally false (acc ++ [(false, (S : Int), t1, t2)])) := by
      rw [tally_snoc, if_pos rfl, ints_set]; unfold bump
      rw [Int.toNat_natCast, List.getD_eq_getElem?_getD, hx]; rfl
    rw [hbump] at hB2
    have hsame : tally true (acc ++ [(false, (S : Int), t1, t2)]) = tally true acc := by rw [tally_snoc, if_neg (by simp)]
    have hg2 := grown_setCell (W.alloc (.cells #[.int .i64 (S : Int), .int .i64 t1, .int .i64 t2] 76)) p2 S (.int .i64 (x + 1))
    have hw : IntKind.i64.wrap (x + 1) = x + 1 := by rw [IntKind.wrap_i64]; omega
    have hres : Hid (∃ F', cntI c1 c2 p1 p2 ((W.alloc (.cells #[.int .i64 (S : Int), .int .i64 t1, .int .i64 t2] 76)).setCell ⟨p2, S, none⟩ (.int .i64 (x + 1))) F' (acc ++ [(false, (S : Int), t1, t2)]) ∧ Only (fun q => q = p1 ∨ q = p2) W ((W.alloc (.cells #[.int .i64 (S : Int), .int .i64 t1, .int .i64 t2] 76)).setCell ⟨p2, S, none⟩ (.int .i64 (x + 1))) ∧ ∀ q, F' q → (fun q => q = p1 ∨ q = p2) q ∨ W.heap.size ≤ q) :=
      ⟨fun q => q = p1 ∨ q = p2, ⟨(hc1.below hb0 hc1.lt).kept hg2 (by simpa using h2), (hc2.below hb0 hc2.lt).kept hg2 (by simpa using h4), by rw [hsame]; exact (hp1.below hb0 hp1.lt).kept hg2 (by simpa using h5), hB2, rfl⟩,
        (Only.of_below hb0 (Nat.le_refl _) : Only (fun q => q = p1 ∨ q = p2) _ _).trans (Only.of_grown hg2 (F := fun q => q = p1 ∨ q = p2) (fun g e => .inl (.inr (by injection e with e; exact e.symm)))) (fun q h => .inl h), fun q h => .inl h⟩
    clear hB2 hbump hsame hg2 hc1 hc2 hp1 hp2 hB hb0 hx hxb hg
    unfold tokV
    go_enter Try.func39, Try.ntmps39
    go_wp2_with fail
    go_end0
    exact ⟨rfl, hres.out⟩
theorem cnt_taker (c1 c2 p1 p2 G : Nat) (h1 : c1 ≠ p1) (h2 : c1 ≠ p2) (h3 : c2 ≠ p1) (h4 : c2 ≠ p2) (h5 : p1 ≠ p2) (g1 : G ≤ p1) (g2 : G ≤ p2) : Taker 39 #[.pointer (some ⟨c1, 0, none⟩), .pointer (some ⟨c2, 0, none⟩)] G (cntI c1 c2 p1 p2) where
  enters := Enters.of Try.func39 (by kernel_rfl) (by kernel_rfl)
  foot h q hq := by
    obtain ⟨_, _, hp1, hp2, rfl⟩ := h
    rcases hq with rfl | rfl
    · exact ⟨hp1.lt, g1⟩
    · exact ⟨hp2.lt, g2⟩
  keep h hb := by
    obtain ⟨hc1, hc2, hp1, hp2, rfl⟩ := h
    exact ⟨hc1.below hb hc1.lt, hc2.below hb hc2.lt, hp1.below hb hp1.lt, hp2.below hb hp2.lt, rfl⟩
  take first t h ha hg := cnt_step c1 c2 p1 p2 first t _ _ _ h ha hg h1 h2 h3 h4 h5
set_option maxHeartbeats 4000000 in
theorem segCounts_any (L : List (List Int)) (A : Option Addr) (c G : Nat) (w : World) (hl : ∀ r ∈ L, r.length = 64) (hm : L.length ≤ maxLen) (hs : L.length ≤ 400 → Seen w G A (rowsC L)) (hG : G ≤ w.heap.size) :
    Calls Try.prog 19 #[.slice A L.length c] w fun e w' => ∃ v1 v2, e = .returned (.tuple #[v1, v2, .int .i64 (eL L)]) ∧ Owns w.heap.size [intRow 3 .i64 v1 (cntL true L), intRow 3 .i64 v2 (cntL false L)] w' ∧ Below w.heap.size w w' := by
  have HEa := veil (fun c1 c2 p1 p2 W (hT : Taker 39 #[.pointer (some ⟨c1, 0, none⟩), .pointer (some ⟨c2, 0, none⟩)] w.heap.size (cntI c1 c2 p1 p2)) (hI : cntI c1 c2 p1 p2 W (fun q => q = p1 ∨ q = p2) []) (hb : Below w.heap.size w W) =>
    eachToken_any _ _ w.heap.size (cntI c1 c2 p1 p2) hT (fun q => q = p1 ∨ q = p2) L A c W hl hm (fun h => ((hs h).below hb hG).up hG) hb.size hI)
  obtain ⟨E, hE⟩ : ∃ E, E = eL L := ⟨_, rfl⟩
  obtain ⟨X, hX⟩ : ∃ X, X = cntL true L := ⟨_, rfl⟩
  obtain ⟨Y, hY⟩ : ∃ Y, Y = cntL false L := ⟨_, rfl⟩
  rw [← hE, ← hX, ← hY]
  rw [← hE] at HEa
  have HXe : Hid (E ≠ 0 → X = [] ∧ Y = []) := fun h => ⟨hX.trans (if_neg (by rw [← hE]; exact h)), hY.trans (if_neg (by rw [← hE]; exact h))⟩
  have HXo : Hid (E = 0 → X = tally true (toksB 0 L) ∧ Y = tally false (toksB 0 L)) := fun h => ⟨hX.trans (if_pos (by rw [← hE]; exact h)), hY.trans (if_pos (by rw [← hE]; exact h))⟩
  have HE := veil hE
  clear hX hY
  have hmk := run_make256
  clear hE hs
  go_enter Try.func19, Try.ntmps19
  go_wp2_with fail
  go_cut [5, 6] (fun v5 v6 wx => ∃ c1 c2 p1 p2 : Nat, v5 = .pointer (some ⟨c1, 0, none⟩) ∧ v6 = .pointer (some ⟨c2, 0, none⟩) ∧ Blk wx c1 [.slice (some ⟨p1, 0, none⟩) 256 256] 23 ∧ Blk wx c2 [.slice (some ⟨p2, 0, none⟩) 256 256] 23 ∧ Blk wx p1 zero256 3 ∧ Blk wx p2 zero256 3 ∧ c1 ≠ c2 ∧ p1 ≠ p2 ∧ c1 ≠ p1 ∧ c1 ≠ p2 ∧ c2 ≠ p1 ∧ c2 ≠ p2 ∧ w.heap.size ≤ c1 ∧ w.heap.size ≤ c2 ∧ w.heap.size ≤ p1 ∧ w.heap.size ≤ p2 ∧ Below w.heap.size w wx)
  case first =>
    go_region
    all_goals (go_wp2; go_meet)
    all_goals refine ⟨_, _, _, _, rfl, rfl, (by first | exact four0 _ _ _ _ _ _ | exact four1 _ _ _ _ _ _ | exact four2 _ _ _ _ _ _ | exact four3 _ _ _ _ _ _), (by first | exact four0 _ _ _ _ _ _ | exact four1 _ _ _ _ _ _ | exact four2 _ _ _ _ _ _ | exact four3 _ _ _ _ _ _), (by first | exact four0 _ _ _ _ _ _ | exact four1 _ _ _ _ _ _ | exact four2 _ _ _ _ _ _ | exact four3 _ _ _ _ _ _), (by first | exact four0 _ _ _ _ _ _ | exact four1 _ _ _ _ _ _ | exact four2 _ _ _ _ _ _ | exact four3 _ _ _ _ _ _), by omega, by omega, by omega, by omega, by omega, by omega, by omega, by omega, by omega, by omega, four_below _ _ _ _ _⟩
  case rest =>
    obtain ⟨c1, c2, p1, p2, rfl, rfl, hc1, hc2, hp1, hp2, n1, n2, n3, n4, n5, n6, l1, l2, l3, l4, hb⟩ := hcut
    have HEc := veil (HEa.out c1 c2 p1 p2 wc (cnt_taker c1 c2 p1 p2 w.heap.size n3 n4 n5 n6 n2 l3 l4) ⟨hc1, hc2, hp1, hp2, rfl⟩ hb)
    have hzc := hb.size
    clear hmk HEa hc1 hc2 hp1 hp2
    go_wp2_with fail
    refine HEc.out.mono ?_
    rintro e w2 ⟨rfl, F, acc, ⟨hc1, hc2, hp1, hp2, rfl⟩, hOn, _, hacc⟩
    have hb2 : Below w.heap.size w w2 := hb.trans (hOn.below hzc (fun q hq => by rcases hq with rfl | rfl <;> assumption))
    have hl1 := tally_length true acc
    have hl2 := tally_length false acc
    by_cases h0 : E = 0
    · subst h0
      have hac := hacc rfl
      have d1 := hc1.cell (i := 0) (v := .slice (some ⟨p1, 0, none⟩) 256 256) rfl
      have d2 := hc2.cell (i := 0) (v := .slice (some ⟨p2, 0, none⟩) 256 256) rfl
      have own := fun (p : Nat) (X : List Int) (hx : X.length = 256) (hp : Blk w2 p (ints .i64 X) 3) (hw : w.heap.size ≤ p) =>
        (⟨by rw [ints_length, hx], .inr ⟨p, 256, (ints .i64 X).toArray, rfl, hw, hp, by omega, by unfold maxLen; omega, by simp [ints_length, hx], by rw [List.take_of_length_le (by simp [ints_length, hx])]⟩⟩ : w2.ownsRow w.heap.size 3 1 (.slice (some ⟨p, 0, none⟩) 256 256) 256 (ints .i64 X))
      have o1 := own p1 _ hl1 hp1 l3
      have o2 := own p2 _ hl2 hp2 l4
      have HOw : Hid (Owns w.heap.size [intRow 3 .i64 (.slice (some ⟨p1, 0, none⟩) 256 256) (tally true acc), intRow 3 .i64 (.slice (some ⟨p2, 0, none⟩) 256 256) (tally false acc)] w2) :=
        ⟨hb2.size, fun r hr => by
          rcases List.mem_cons.1 hr with rfl | hr
          · simp only [intRow, hl1]; exact o1
          · rw [List.mem_singleton.1 hr]; simp only [intRow, hl2]; exact o2, by
          refine List.pairwise_cons.2 ⟨fun s hs g hg hg2 => ?_, List.pairwise_singleton _ _⟩
          rw [List.mem_singleton.1 hs] at hg2
          simp only [intRow, Value.ownBlock] at hg hg2
          injection hg with hg; injection hg2 with hg2; omega⟩
      clear own o1 o2 hc1 hc2 hp1 hp2 hacc hOn
      go_wp2_with fail
      go_quiet (fail)
      go_wp2_with fail
      go_ret3
      exact ⟨_, _, rfl, by rw [(HXo.out trivial).1, (HXo.out trivial).2, ← hac]; exact HOw.out.drewN _, hb2.drewN _⟩
    · have hbe : (E != 0) = true := by simpa using h0
      have H0 := veil h0
      clear h0 hacc hOn hc1 hc2 hp1 hp2
      go_wp2_with fail
      go_ret3
      exact ⟨_, _, rfl, by rw [(HXe.out H0.out).1, (HXe.out H0.out).2]; exact ((Owns.nil hb2.size).fresh _ _).fresh _ _, hb2⟩
end Go.Proofs.Ytddkhkpdbjjboaa

/- scan.Encode: its contract. -/
namespace Go.Proofs.Ytddkhkpdbjjboaa
open Go.RowKit
set_option linter.unusedVariables false
set_option linter.unusedSimpArgs false
set_option maxRecDepth 100000

/-- The marker ahead of segment k. -/
def mkB (k : Nat) : List Int := if k = 0 then ([] : List Int) else ([255, 208 + (((k + 7) % 8 : Nat) : Int)] : List Int)
theorem mkB_len (k : Nat) : (mkB k).length ≤ 2 := by unfold mkB; split <;> simp
set_option maxRecDepth 100000 in
set_option maxHeartbeats 2000000 in
theorem scanEncode_any : EncSpec := by
  intro cs syms A c cs2 syms2 A2 c2 G L A3 c3 every w hTI hl hm hcap3 hs3 hG
  obtain ⟨hcs, hn, hcap, hb, hs, hcs2, hn2, hcap2, hb2, hs2⟩ := hTI
  have h34 : (tabsCells cs A syms.length c cs2 A2 syms2.length c2).length = 34 := by unfold tabsCells; rw [List.length_append, tabCells_length hcs, tabCells_length hcs2]
  have HCk := veil (fun W h1 h2 hG => checkTables_any cs syms A c cs2 syms2 A2 c2 G W hcs hn hb h1 hcs2 hn2 hb2 h2 hG)
  have HBk := veil (fun W h hG => segCounts_any L A3 c3 G W hl hm (fun _ => h) hG)
  have HEn := veil (fun M A' c' W h1 h2 h3 (hl : ∀ r ∈ M, r.length = 64) (hm : M.length ≤ maxLen) hG => segEncode_any cs syms A c cs2 syms2 A2 c2 G M A' c' W hcs hn hb h1 hcs2 hn2 hb2 h2 hl hm h3 hG)
  have HFl := veil (fun (M : List (List Int)) (h : ∀ r ∈ M, r.length = 64) => segF_len (cs := cs) (syms := syms) (cs2 := cs2) (syms2 := syms2) hcs hcs2 h)
  have hb0 := below1 w (.cells (tabsCells cs A syms.length c cs2 A2 syms2.length c2).toArray 27)
  have hz0 : (w.alloc (.cells (tabsCells cs A syms.length c cs2 A2 syms2.length c2).toArray 27)).heap.size = w.heap.size + 1 := by simp
  have hTB := Blk.new w (tabsCells cs A syms.length c cs2 A2 syms2.length c2) 27
  obtain ⟨E, hE⟩ : ∃ E, E = eScan cs syms cs2 syms2 L every := ⟨_, rfl⟩
  obtain ⟨O, hO⟩ : ∃ O, O = oScan cs syms cs2 syms2 L every := ⟨_, rfl⟩
  rw [← hE, ← hO]
  have HOe : Hid (E ≠ 0 → O = []) := by show _ → _; intro h; rw [hO]; exact oScan_err (by rw [← hE]; exact h)
  have HE := veil hE
  have HO := veil hO
  have H34 := veil h34
  have Hl := veil hl
  have hs3' := hs3; have hs' := hs; have hs2' := hs2
  clear hcs hcs2 hb hb2 hE hO h34 hl hn hn2 hcap hcap2
  unfold tabsV at HCk HEn ⊢
  generalize tabsCells cs A syms.length c cs2 A2 syms2.length c2 = zs at *
  have hr0 := hTB.range
  go_enter Try.func6, Try.ntmps6
  by_cases hrg : every < 0 ∨ 100 < every
  · have hE1 := HE.out.trans (eScan_every hrg)
    have hO1 := HOe.out (by rw [hE1]; decide)
    have HE1 := veil hE1
    have HO1 := veil hO1
    have HOu := veil (isEvery_no every hrg (w.alloc (.cells zs.toArray 27)))
    clear hE1 hO1 hrg
    go_wp2_with fail
    refine HOu.out.mono ?_
    rintro e w2 ⟨rfl, hw2⟩
    rw [hw2]
    go_wp2
    go_ret2
    exact ⟨_, ret_two rfl (by rw [HE1.out]; rfl), by rw [HO1.out]; exact (Owns.nil hb0.size).fresh _ _, hb0⟩
  · have Hrg := veil hrg
    obtain ⟨Ev, hEv, hEv100⟩ : ∃ Ev : Nat, every = (Ev : Int) ∧ Ev ≤ 100 := ⟨every.toNat, by omega, by omega⟩
    subst hEv
    have HOu := veil (isEvery_yes (Ev : Int) hrg (w.alloc (.cells zs.toArray 27)))
    clear hrg
    obtain ⟨W0, hW0⟩ : ∃ W0, W0 = w.alloc (.cells zs.toArray 27) := ⟨_, rfl⟩
    have HW0 := veil hW0
    rw [← hW0] at hb0 hz0 hTB hr0 HOu
    clear hW0
    go_wp2_with fail
    rw [← HW0.out]
    refine HOu.out.mono ?_
    rintro e w1' ⟨rfl, hw1⟩
    have hw1' : w1' = W0 := hw1
    subst w1'
    clear HOu HW0
    go_wp2_with (first
      | (refine wpList_load_mid rfl 27 (.tmp 3) rfl w.heap.size 0 rfl zs _ hr0 Try.underlying27 rfl (by rw [H34.out]; kernel_rfl) ?_)
      | fail)
    refine (HCk.out _ (hs.below hb0 hG) (hs2.below hb0 hG) (by rw [hz0]; omega)).mono ?_
    rintro e w1 ⟨rfl, hb1⟩
    have hTB1 := hTB.below hb1 (by rw [hz0]; omega)
    have hbw1 := hb0.trans (hb1.mono (by rw [hz0]; omega))
    have hz1 := hb1.size
    rw [hz0] at hz1
    clear hr0 hb0 HCk hb1 hTB
    by_cases h0 : eTs cs syms cs2 syms2 = 0
    · rw [h0]
      have HT0 : Hid (eTs cs syms cs2 syms2 = 0) := h0
      clear h0
      go_wp2_with fail
      refine (HBk.out _ (hs3.below hbw1 hG) (by omega)).mono ?_
      rintro e w2 ⟨cv1, cv2, rfl, _, hb2⟩
      have hTB2 := hTB1.below hb2 (by omega)
      have hbw2 := hbw1.trans (hb2.mono hbw1.size)
      have hz2 := hb2.size
      clear HBk hbw1 hb2 hTB1
      by_cases hL : eL L = 0
      · rw [hL]
        obtain ⟨h400, hin⟩ := eL_zero hL
        have HEs : Hid (E = firstE ((segs L (Ev : Int)).map (eEnc cs syms cs2 syms2))) := HE.out.trans (eScan_seg Hrg.out HT0.out hL)
        have HOs : Hid (E = 0 → O = joinM 0 ((segs L (Ev : Int)).map (segF cs syms cs2 syms2))) := fun h => HO.out.trans (if_pos (by rw [← HE.out]; exact h))
        have HPa := veil (sizes_any L.length Ev w2 (by omega) (by omega))
        have hev : (Ev : Int).toNat = Ev := Int.toNat_natCast _
        have hsg : segs L (Ev : Int) = segsOf (partsN L.length Ev) L := by unfold segs; rw [hev]
        rw [hsg] at HEs HOs
        have hps := partsN_sum L.length Ev
        have hpi := partsN_in L.length Ev
        have hpl := partsN_len L.length Ev
        obtain ⟨ps, hpsd⟩ : ∃ ps, ps = partsN L.length Ev := ⟨_, rfl⟩
        rw [← hpsd] at HEs HOs HPa hps hpi hpl
        have Hps := veil hps; have Hpi := veil hpi; have Hin := veil hin
        clear hL hev hsg hpsd hps hpi hin HE HO
        go_wp2_with fail
        refine HPa.out.mono ?_
        rintro e w3 ⟨pv, rfl, HOp, hb3⟩
        obtain ⟨Ap, cp, hpv, hsp, _, _⟩ := HOp.seen (List.mem_cons_self ..)
        have hz3 := hb3.size
        have hvv : pv = .slice Ap ps.length cp := by
          have h9 : pv = .slice Ap (ps.map Int.ofNat).length cp := hpv
          rw [List.length_map] at h9; exact h9
        subst pv
        have hsp' : Seen w3 w3.heap.size Ap (ints .i64 (ps.map Int.ofNat)) := hsp
        have hTB3 := hTB2.below hb3 (by omega)
        have hbw3 := hbw2.trans (hb3.mono hbw2.size)
        have Hsp := veil hsp'; have HTB := veil hTB3; have Hbw3 := veil hbw3
        have hbr0 : Below w3.heap.size w3 w3 := Below.refl _ _
        have hO0 : Owns w3.heap.size [byteRow (.slice none 0 0) []] w3 := (Owns.start w3).fresh _ _
        have Hbr0 := veil hbr0; have HO0 := veil hO0
        have Hs := veil (hs.below hbw3 hG); have Hs2 := veil (hs2.below hbw3 hG); have Hs3 := veil (hs3.below hbw3 hG)
        have HL0 : Hid (L = L.drop (ps.take 0).sum) := by show _ = _; simp
        have HZ0 : Hid (∀ x ∈ ((segsOf ps L).map (eEnc cs syms cs2 syms2)).take 0, x = 0) := by show ∀ x ∈ _, _; simp
        have HJ0 : Hid (([] : List Int) = joinM 0 (((segsOf ps L).map (segF cs syms cs2 syms2)).take 0)) := by show _ = _; simp [joinM]
        have hG3 : G ≤ w3.heap.size := by omega
        have hT3 : w.heap.size < w3.heap.size := by omega
        clear HPa hsp hsp' hpv HOp hb3 hTB2 hTB3 hbw2 hbw3 hbr0 hO0 hs hs2 hs3 hs' hs2' hs3' hz2 hz1
        go_wp2_with fail
        go_loopg [1, 12, 13, 14, 15, 16, 39] ps.length (fun gk lv ov kv nv bv ev iv wr => ∃ (k : Nat) (A' : Option Addr) (c' : Nat) (M : List (List Int)) (out : List Int), gk = ps.length - k ∧ k ≤ ps.length ∧ lv = .slice A' M.length c' ∧ iv = .int .i64 (k : Int) ∧ M.length ≤ c' ∧ Hid (M = L.drop (ps.take k).sum) ∧ Hid (Seen wr G A' (rowsC M)) ∧ Hid (∀ x ∈ ((segsOf ps L).map (eEnc cs syms cs2 syms2)).take k, x = 0) ∧ Hid (out = joinM 0 (((segsOf ps L).map (segF cs syms cs2 syms2)).take k)) ∧ out.length ≤ 250004 * k ∧ Hid (Owns w3.heap.size [byteRow ov out] wr) ∧ Hid (Below w3.heap.size w3 wr))
        case atStart => exact ⟨0, A3, c3, L, [], rfl, Nat.zero_le _, rfl, rfl, hcap3, HL0, Hs3, HZ0, HJ0, by simp, HO0, Hbr0⟩
        case round =>
          clear HL0 HZ0 HJ0 HO0 Hbr0
          obtain ⟨k, A', c', M, out, rfl, hk, rfl, rfl, hMc, HM, HsM, HZ, HJ, hol, HOo, Hbr⟩ := hrel
          obtain ⟨W9, hW9⟩ : ∃ W9, W9 = wr := ⟨_, rfl⟩
          subst hW9
          by_cases hlt : k < ps.length
          · have hltz : (k : Int) < (ps.length : Int) := by omega
            obtain ⟨gp, op, x, rfl, hgp, hx, hcx⟩ := (Hsp.out.below Hbr.out (Nat.le_refl _)).int (k := k) (by rw [List.length_map]; exact hlt)
            obtain ⟨n, hn⟩ := some_at hlt
            obtain rfl : x = (n : Int) := by rw [List.getElem?_map, hn] at hx; simpa using hx.symm
            have Hn := veil hn
            have Hcx := veil hcx
            have hk400 : k ≤ 400 := by omega
            have hmkl := mkB_len k
            clear hx hn
            go_upto_if 45 with fail
            clear hcx
            go_cut [12] (fun ov wx => Hid (Owns w3.heap.size [byteRow ov (out ++ mkB k)] wx) ∧ Hid (Below w3.heap.size W9 wx))
            case first =>
              by_cases hk0 : k = 0
              · subst hk0
                clear hmkl
                go_wp2_with fail
                go_meet
                case rel => exact ⟨veil (by rw [show mkB 0 = [] from rfl, List.append_nil]; exact HOo.out), veil (Below.refl _ _)⟩
              · have hkp : (0 : Int) < (k : Int) := by omega
                obtain ⟨q, hq, hq8⟩ : ∃ q : Nat, q = (k + 7) % 8 ∧ q < 8 := ⟨_, rfl, by omega⟩
                have hmk : mkB k = [255, 208 + (q : Int)] := by unfold mkB; rw [if_neg hk0, ← hq]
                have HMa := veil (marker_any ((k : Int) - 1) q (by omega) (by omega) (by omega) W9)
                have hu8 := u8_208 q hq8
                have HMK := veil hmk
                have HOo' := HOo.out
                clear hmk hq hk0 hmkl
                go_wp2_with fail
                refine HMa.out.mono ?_
                rintro e w9 ⟨rfl, hw9⟩
                have hw9' : w9 = W9 := hw9
                subst w9
                clear HMa
                go_wp2_with (first
                  | (at_builtin; go_loud (refine wpList_ownI _ rfl (.tmp 46) (.tmp 51) _ rfl w3.heap.size 5 .u8 1 elem_byte u12 out [] rfl HOo' [255, 208 + (q : Int)] rfl (by unfold maxLen; simp; omega) (by simp; omega) ?_); intro v6 w6 HO6b hb6 hz6)
                  | fail)
                go_meet
                case rel => exact ⟨veil (by rw [HMK.out]; exact HO6b), veil hb6⟩
            case rest =>
              obtain ⟨HOc, Hbc⟩ := hcut
              obtain ⟨Wr, hWr⟩ : ∃ Wr, Wr = wc := ⟨_, rfl⟩
              subst hWr
              have hsMr := HsM.out.below Hbc.out hG3
              have HsM := veil hsMr
              have Hbr := veil (Hbr.out.trans Hbc.out)
              have hzr := Hbr.out.size
              have hsa := segsOf_at ps L k n Hn.out
              rw [← HM.out] at hsa
              have hsk := take_sum_le ps (k + 1)
              rw [Hps.out] at hsk
              have hst : (ps.take (k + 1)).sum = (ps.take k).sum + n := by rw [fc_snoc Hn.out]; simp
              have hMl : M.length = L.length - (ps.take k).sum := by rw [HM.out, List.length_drop]
              have hnM : n ≤ M.length := by omega
              have hlM : ∀ r ∈ M, r.length = 64 := fun r hr => Hl.out r (by rw [HM.out] at hr; exact List.mem_of_mem_drop hr)
              obtain ⟨A4, hA4, hsA4⟩ := cutR_drop hlM HsM.out hnM hMc
              have hct := fun u => run_cutR_to A' M.length c' n (by omega) u
              have hce := fun u => run_cutR_end A' M.length c' n hnM u
              rw [hA4] at hce
              have hMd : M.drop n = L.drop (ps.take (k + 1)).sum := by rw [HM.out, List.drop_drop, hst]
              have htl : (M.take n).length = n := by rw [List.length_take]; omega
              have hbd : Below w3.heap.size w3 Wr.drew := Hbr.out.drew
              have hC := HEn.out (M.take n) A' c' Wr.drew (Hs.out.below hbd hG3) (Hs2.out.below hbd hG3) (cutR_take (HsM.out.below (Below.refl G Wr).drew (Nat.le_refl _))) (fun r hr => hlM r (List.mem_of_mem_take hr)) (by rw [htl]; omega) (by show G ≤ Wr.heap.size; omega)
              rw [htl] at hC
              have hfl := HFl.out (M.take n) (fun r hr => hlM r (List.mem_of_mem_take hr))
              have hse : ((segsOf ps L).map (eEnc cs syms cs2 syms2))[k]? = some (eEnc cs syms cs2 syms2 (M.take n)) := by rw [List.getElem?_map, hsa]; rfl
              have hsf : ((segsOf ps L).map (segF cs syms cs2 syms2))[k]? = some (segF cs syms cs2 syms2 (M.take n)) := by rw [List.getElem?_map, hsa]; rfl
              have hso := fun out (h : SegOut cs syms cs2 syms2 (M.take n) out) => segOut_is cs syms cs2 syms2 h
              have hTBr := HTB.out.below Hbr.out hT3
              have hMd2 : (M.drop n).length ≤ c' - n := by rw [List.length_drop]; omega
              have HC := veil hC; have Hso := veil hso; have Hse := veil hse; have Hsf := veil hsf; have HMd := veil hMd; have HsA4 := veil hsA4
              obtain ⟨er, her⟩ : ∃ er, er = eEnc cs syms cs2 syms2 (M.take n) := ⟨_, rfl⟩
              obtain ⟨sf, hsfd⟩ : ∃ sf, sf = segF cs syms cs2 syms2 (M.take n) := ⟨_, rfl⟩
              rw [← her] at HC Hse
              rw [← hsfd] at Hsf Hso hfl
              clear hC hso hse hsf hMd hsA4 hsa hst hlM htl hA4 her hsfd hMl hsMr
              go_upto_region 15 with fail
              refine wp_region_held_drew (S := fun w' => Blk w' w.heap.size zs 27) (by kernel_rfl) hTBr (fun hHeld0 => ?_)
              refine take_load 0 54 27 (.tmp 3) w.heap.size 0 zs _ rfl rfl (by kernel_rfl) (by kernel_rfl) (by kernel_rfl) (fun _ _ _ h => h) rfl rfl rfl (fun w' h => h.range) Try.underlying27 rfl (by rw [H34.out]; kernel_rfl) hHeld0 rfl ?_
              refine take_pure 1 55 (.slice A' M.length c') _ rfl rfl (by kernel_rfl) (by kernel_rfl) (by kernel_rfl) (fun _ _ _ h => h) rfl (fun w' hS => by go_simp) hHeld0 rfl ?_
              refine take_pure 2 56 (.int .i64 (n : Int)) _ rfl rfl (by kernel_rfl) (by kernel_rfl) (by kernel_rfl) (fun _ _ _ h => h) rfl (fun w' hS => by go_simp) hHeld0 rfl ?_
              refine take_pure 3 57 (.slice A' n c') _ rfl rfl (by kernel_rfl) (by kernel_rfl) (by kernel_rfl) (fun _ _ _ h => h) rfl (fun w' hS => by go_simp) hHeld0 rfl ?_
              refine wpAnyH_ready (rs := [4]) (by kernel_rfl) (by simp) ?_
              refine AllReadyH.cons rfl (fun K hK => ?_) AllReadyH.nil
              go_simp
              refine HC.out.mono ?_
              rintro e w5 ⟨v5, out5, rfl, HO5, hS5, hb5⟩
              have hb5' : Below Wr.heap.size Wr w5 := below_of_drew hb5
              refine hK.out _ _ (hHeld0.below hb5 hHeld0.lt) (fun hHeld1 => ?_)
              clear hK K
              refine take_pure 5 53 (.tuple #[v5, .int .i64 er]) _ rfl rfl (by kernel_rfl) (by kernel_rfl) (by kernel_rfl) (fun _ _ _ h => h) rfl (fun w' hS => by go_simp) hHeld1 rfl ?_
              refine take_pure 6 59 v5 _ rfl rfl (by kernel_rfl) (by kernel_rfl) (by kernel_rfl) (fun _ _ _ h => h) rfl (fun w' hS => by go_simp) hHeld1 rfl ?_
              refine take_pure 7 60 (.int .i64 er) _ rfl rfl (by kernel_rfl) (by kernel_rfl) (by kernel_rfl) (fun _ _ _ h => h) rfl (fun w' hS => by go_simp) hHeld1 rfl ?_
              refine take_pure 8 15 v5 _ rfl rfl (by kernel_rfl) (by kernel_rfl) (by kernel_rfl) (fun _ _ _ h => h) rfl (fun w' hS => by go_simp) hHeld1 rfl ?_
              refine take_pure 9 16 (.int .i64 er) _ rfl rfl (by kernel_rfl) (by kernel_rfl) (by kernel_rfl) (fun _ _ _ h => h) rfl (fun w' hS => by go_simp) hHeld1 rfl ?_
              refine wpAnyH_done (by kernel_rfl) ?_ _
              obtain rfl := (Hso.out out5 hS5).symm
              obtain ⟨A5, c5, hv5, hs5, hc5, hm5⟩ := HO5.seen (List.mem_cons_self ..)
              obtain rfl : v5 = .slice A5 sf.length c5 := hv5
              have hz5 := hb5'.size
              have Hbr5 := veil (Hbr.out.trans (hb5'.mono hzr))
              have HO6 := (HOc.out.call hb5' HO5).swap
              have HsA4w := HsA4.out.below hb5' (by omega)
              obtain ⟨mk, hmkd⟩ : ∃ mk, mk = mkB k := ⟨_, rfl⟩
              have Hmkd := veil hmkd
              rw [← hmkd] at HO6 hmkl
              clear HO5 hS5 hb5 hs5 hHeld0 hHeld1 hTBr HC Hso hbd HOo HOc hmkd
              by_cases he : er = 0
              · subst he
                have hz2 : Hid (∀ x ∈ ((segsOf ps L).map (eEnc cs syms cs2 syms2)).take (k + 1), x = 0) := mem_snoc Hse.out HZ.out rfl
                have htk : (((segsOf ps L).map (segF cs syms cs2 syms2)).take k).length = k := by rw [List.length_take, List.length_map, segsOf_length]; omega
                have hj2 : joinM 0 (((segsOf ps L).map (segF cs syms cs2 syms2)).take (k + 1)) = (out ++ mk) ++ sf := by
                  rw [take_snoc Hsf.out, joinM_snoc, ← HJ.out, htk, Nat.zero_add, Hmkd.out, List.append_assoc]; rfl
                have Hj2 := veil hj2
                clear HsM hj2
                go_wp2_with (first
                  | (at_builtin; go_loud (refine wpList_ownV w5 rfl (.tmp 64) (.tmp 65) _ rfl w3.heap.size 5 1 1 elem_byte _ (out ++ mk).length (ints .u8 (out ++ mk)) [byteRow (.slice A5 sf.length c5) sf] rfl HO6 w5.heap.size A5 sf.length c5 (ints .u8 sf) rfl (seen_second HO6) (by rw [ints_length]; omega) ints_one (by unfold maxLen; rw [List.length_append]; omega) (by rw [List.length_append]; omega) ?_); intro v7 w7 HO7 hb7)
                  | fail)
                go_roundg (ps.length - (k + 1))
                case rel => exact ⟨k + 1, A4, c' - n, M.drop n, (out ++ mk) ++ sf, rfl, by omega, by rw [List.length_drop], by go_num, hMd2, HMd, veil (HsA4w.below hb7 hG3), hz2, veil Hj2.out.symm, by rw [List.length_append, List.length_append]; omega, veil (by rw [intRow_append] at HO7; exact HO7.swap.tail), veil (Hbr5.out.trans hb7)⟩
                case measure => omega
              · have hE1 : E = er := HEs.out.trans (firstE_at HZ.out Hse.out he)
                have hO1 := HOe.out (by rw [hE1]; exact he)
                have HE1 := veil hE1
                have HO1 := veil hO1
                have hbe : (er != 0) = true := by simpa using he
                have hfin := Hbw3.out.trans (Hbr5.out.mono (by omega))
                clear hE1 hO1 he
                go_wp2_with fail
                go_ret2
                exact ⟨_, ret_two rfl (by rw [HE1.out]; rfl), by rw [HO1.out]; exact (Owns.nil hfin.size).fresh _ _, hfin⟩
          · obtain rfl : k = ps.length := by omega
            have hlen1 : ((segsOf ps L).map (eEnc cs syms cs2 syms2)).length ≤ ps.length := by rw [List.length_map, segsOf_length]; omega
            have hlen2 : ((segsOf ps L).map (segF cs syms cs2 syms2)).length ≤ ps.length := by rw [List.length_map, segsOf_length]; omega
            have hz := HZ.out
            rw [List.take_of_length_le hlen1] at hz
            have hE1 : E = 0 := HEs.out.trans ((firstE_zero _).2 hz)
            have hO1 := HOs.out hE1
            have hj := HJ.out
            rw [List.take_of_length_le hlen2] at hj
            rw [← hj] at hO1
            have HE1 := veil hE1
            have HO1 := veil hO1
            have hzr := Hbr.out.size
            have hfin := Hbw3.out.trans (Hbr.out.mono (by omega))
            clear hE1 hO1 hz hj hlen1 hlen2
            go_wp2_with fail
            go_ret2
            exact ⟨_, ret_two rfl (by rw [HE1.out]; rfl), by rw [HO1.out]; exact HOo.out.down (by omega), hfin⟩
      · have hE1 := HE.out.trans (eScan_blk Hrg.out HT0.out hL)
        have hO1 := HOe.out (by rw [hE1]; exact hL)
        have HE1 := veil hE1
        have HO1 := veil hO1
        have hne : (eL L != 0) = true := by simpa using hL
        obtain ⟨er, her⟩ : ∃ er, er = eL L := ⟨_, rfl⟩
        rw [← her] at HE1 hne ⊢
        clear hE1 hO1 hL her
        go_wp2_with fail
        go_ret2
        exact ⟨_, ret_two rfl (by rw [HE1.out]; rfl), by rw [HO1.out]; exact (Owns.nil hbw2.size).fresh _ _, hbw2⟩
    · have hE1 := HE.out.trans (eScan_tab Hrg.out h0)
      have hO1 := HOe.out (by rw [hE1]; exact h0)
      have HE1 := veil hE1
      have HO1 := veil hO1
      have hne : (eTs cs syms cs2 syms2 != 0) = true := by simpa using h0
      obtain ⟨er, her⟩ : ∃ er, er = eTs cs syms cs2 syms2 := ⟨_, rfl⟩
      rw [← her] at HE1 hne ⊢
      clear hE1 hO1 h0 her
      go_wp2_with fail
      go_ret2
      exact ⟨_, ret_two rfl (by rw [HE1.out]; rfl), by rw [HO1.out]; exact (Owns.nil hbw1.size).fresh _ _, hbw1⟩
end Go.Proofs.Ytddkhkpdbjjboaa
