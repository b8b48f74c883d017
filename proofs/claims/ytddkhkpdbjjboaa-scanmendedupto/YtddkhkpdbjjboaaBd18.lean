/- Texts shared by the claims of this seat, in one. -/
import Derived.Test.YtddkhkpdbjjboaaBd12
import Derived.Test.YtddkhkpdbjjboaaBd17
import Derived.Test.YtddkhkpdbjjboaaBd11
import Derived.Test.YtddkhkpdbjjboaaBd4
import Derived.Deep.Cut
import Derived.Test.YtddkhkpdbjjboaaBd8
import Derived.Test.YtddkhkpdbjjboaaRows
import Derived.ProofKit
import Derived.OpenShut
import Derived.ChangeSame
import Derived.Deep.Slices
import Derived.SizedLaws
import Derived.Test.YtddkhkpdbjjboaaBd1
import Derived.ShutString
import Derived.ChangeOld
import Derived.JoinedCond
import Derived.Deep.SlicePairs
import Derived.Deep.Fields
import Derived.Test.YtddkhkpdbjjboaaBd2
import Derived.Lib.SmallJoins
import Derived.Test.YtddkhkpdbjjboaaBd9
/- scan.Decode: its contract. -/
namespace Go.Proofs.Ytddkhkpdbjjboaa
open Go.RowKit
set_option linter.unusedVariables false
set_option linter.unusedSimpArgs false
set_option maxRecDepth 100000

theorem rowsC_oneD {L : List (List Int)} : ∀ u ∈ rowsC L, u.oneCell' = true := by
  intro u hu
  obtain ⟨r, _, hr⟩ := List.mem_flatMap.1 hu
  exact ints_one u hr
set_option maxRecDepth 100000 in
set_option maxHeartbeats 2000000 in
theorem scanDecode_any : DecSpec := by
  intro cs syms A c cs2 syms2 A2 c2 G bs A3 c3 n every w hTI hby hl hcap3 hs3 hG
  obtain ⟨hcs, hn, hcap, hb, hs, hcs2, hn2, hcap2, hb2, hs2⟩ := hTI
  have h34 : (tabsCells cs A syms.length c cs2 A2 syms2.length c2).length = 34 := by unfold tabsCells; rw [List.length_append, tabCells_length hcs, tabCells_length hcs2]
  have HPi := veil (fun W h1 h2 h3 hG => scanSplit_any cs syms A c cs2 syms2 A2 c2 G bs A3 c3 n every W hcs hn hb h1 hcs2 hn2 hb2 h2 h3 hby (by omega) hG)
  have HDe := veil (fun p A' c' (m : Nat) G' W (h1 : Seen W G' A (ints .i64 syms)) h2 h3 (hp : Bytes p) (hpl : p.length ≤ 1048576) hG' => segDecode_any cs syms A c cs2 syms2 A2 c2 G' p A' c' (m : Int) W hcs hn hb h1 hcs2 hn2 hb2 h2 h3 hp (by omega) hG')
  have HRo := veil (fun (p : List Int) (hp : Bytes p) (m : Int) => oDec_rows (cs := cs) (syms := syms) (cs2 := cs2) (syms2 := syms2) hcs hcs2 hp m)
  have hb0 := below1 w (.cells (tabsCells cs A syms.length c cs2 A2 syms2.length c2).toArray 27)
  have hz0 : (w.alloc (.cells (tabsCells cs A syms.length c cs2 A2 syms2.length c2).toArray 27)).heap.size = w.heap.size + 1 := by simp
  have hTB := Blk.new w (tabsCells cs A syms.length c cs2 A2 syms2.length c2) 27
  have HPB := veil (fun p (h : p ∈ splitP bs) => (⟨splitP_bytes hby h, Nat.le_trans (splitP_in h).1 hl⟩ : Bytes p ∧ p.length ≤ 1048576))
  obtain ⟨E, hE⟩ : ∃ E, E = eScD cs syms cs2 syms2 bs n every := ⟨_, rfl⟩
  obtain ⟨O, hO⟩ : ∃ O, O = oScD cs syms cs2 syms2 bs n every := ⟨_, rfl⟩
  rw [← hE, ← hO]
  have HOe : Hid (E ≠ 0 → O = []) := by show _ → _; intro h; rw [hO]; exact oScD_err (by rw [← hE]; exact h)
  have HE := veil hE
  have HO := veil hO
  have H34 := veil h34
  have Hl := veil hl
  clear hcs hcs2 hb hb2 hE hO h34 hl hn hn2 hcap hcap2 hby
  unfold tabsV at HPi HDe ⊢
  generalize tabsCells cs A syms.length c cs2 A2 syms2.length c2 = zs at *
  have hr0 := hTB.range
  go_enter Try.func10, Try.ntmps10
  go_wp2_with (first
    | (refine wpList_load_mid rfl 27 (.tmp 4) rfl w.heap.size 0 rfl zs _ hr0 Try.underlying27 rfl (by rw [H34.out]; kernel_rfl) ?_)
    | fail)
  refine (HPi.out _ (hs.below hb0 hG) (hs2.below hb0 hG) (hs3.below hb0 hG) (by rw [hz0]; omega)).mono ?_
  rintro e w1 ⟨vs, Ap, cp, Am, cm, rfl, hsr, hsp', hsm', hb1⟩
  have hTB1 := hTB.below hb1 (by rw [hz0]; omega)
  have hbw1 := hb0.trans (hb1.mono (by rw [hz0]; omega))
  have hz1 := hb1.size
  rw [hz0] at hz1
  clear hr0 hb0 HPi hb1 hTB
  by_cases h0 : eHead cs syms cs2 syms2 bs n every = 0
  · have hP1 : headP cs syms cs2 syms2 bs n every = splitP bs := if_pos h0
    have hM1 : headM cs syms cs2 syms2 bs n every = splitM bs := if_pos h0
    rw [h0]
    rw [hP1] at hsr
    rw [hM1] at hsm' ⊢
    obtain ⟨hrg, hT0, hsp0⟩ := eHead_zero h0
    obtain ⟨Ev, hEv, hEv100⟩ : ∃ Ev : Nat, every = (Ev : Int) ∧ Ev ≤ 100 := ⟨every.toNat, by omega, by omega⟩
    obtain ⟨Nn, hNn, hNn400⟩ : ∃ Nn : Nat, n = (Nn : Int) ∧ Nn ≤ 400 := ⟨n.toNat, by omega, by omega⟩
    subst hEv hNn
    have hcnt := (splitP_count hsp0).2
    have hcn1 := (splitP_count hsp0).1
    have HC1 := veil (fun h2 => HE.out.trans (eScD_count (bs := bs) h0 h2))
    have HC2 := veil (fun h2 h3 => HE.out.trans (eScD_mark (bs := bs) h0 h2 h3))
    have HC3 := veil (fun h2 h3 => HE.out.trans (eScD_segs (bs := bs) h0 h2 h3))
    have HC4 : Hid (E = 0 → O = ((((splitP bs).zip (partsN Nn Ev)).map fun x => oDec cs syms cs2 syms2 x.1 x.2).flatten)) := by
      show _ → _
      intro h
      have h9 := HO.out.trans (if_pos (by rw [← HE.out]; exact h))
      rw [Int.toNat_natCast, Int.toNat_natCast] at h9
      exact h9
    unfold eSegs at HC3
    rw [Int.toNat_natCast, Int.toNat_natCast] at HC1 HC2 HC3
    have HPa := veil (sizes_any Nn Ev w1 (by omega) (by omega))
    have hps := partsN_sum Nn Ev
    have hpi := partsN_in Nn Ev
    have hpl := partsN_len Nn Ev
    obtain ⟨ps, hpsd⟩ : ∃ ps, ps = partsN Nn Ev := ⟨_, rfl⟩
    rw [← hpsd] at HC1 HC2 HC3 HC4 HPa hps hpi hpl
    have Hps := veil hps; have Hpi := veil hpi
    have hbl := Hl.out
    have hsrl := hsr.1
    obtain ⟨ms, hms⟩ : ∃ ms, ms = splitM bs := ⟨_, rfl⟩
    obtain ⟨pp, hpp⟩ : ∃ pp, pp = splitP bs := ⟨_, rfl⟩
    rw [← hms] at HC2 HC3 hsm' hcnt hcn1 ⊢
    rw [← hpp] at HC1 HC2 HC3 HC4 HPB hsr hsrl hcn1
    have Hcn1 := veil hcn1
    have Hsrl := veil hsrl
    clear hpsd hps hpi h0 hP1 hM1 hrg hT0 hsp0 HE HO hms hpp hsrl hcn1
    go_wp2_with fail
    refine HPa.out.mono ?_
    rintro e w2 ⟨lv, rfl, HOp, hb2⟩
    obtain ⟨Al, cl, hlv, hsl, _, _⟩ := HOp.seen (List.mem_cons_self ..)
    have hvv : lv = .slice Al ps.length cl := by
      have h9 : lv = .slice Al (ps.map Int.ofNat).length cl := hlv
      rw [List.length_map] at h9; exact h9
    subst lv
    have hz2 := hb2.size
    have hbw2 := hbw1.trans (hb2.mono hbw1.size)
    have Hsl : Hid (Seen w2 w2.heap.size Al (ints .i64 (ps.map Int.ofNat))) := hsl
    have HTB := veil (hTB1.below hb2 (by omega))
    have Hsp := veil ((hsp'.below hb2 (Nat.le_refl _)).up hz2)
    have Hsm := veil ((hsm'.below hb2 (Nat.le_refl _)).up hz2)
    have Hsr := veil ((hsr.below hb2 (Nat.le_refl _)).up hz2)
    have Hs := veil ((hs.below hbw2 hG).up (show G ≤ w2.heap.size by omega)); have Hs2 := veil ((hs2.below hbw2 hG).up (show G ≤ w2.heap.size by omega))
    have Hbw2 := veil hbw2
    have hT2 : w.heap.size < w2.heap.size := by omega
    have hG2 : G ≤ w2.heap.size := by omega
    have hvl : vs.length ≤ 1048577 := by have h1 := Hsrl.out; have h2 := Hcn1.out; omega
    clear HPa HOp hlv hsl hb2 hTB1 hsp' hsm' hsr hs hs2 hs3 hbw1 hbw2 hz1
    by_cases hcn : ps.length = vs.length
    · have hne : ((vs.length : Int) != (ps.length : Int)) = false := by simp; omega
      have HM0 : Hid (∀ (j : Nat) (m : Int), j < 0 → ms[j]? = some m → m = 208 + ((j % 8 : Nat) : Int)) := by show ∀ (j : Nat) (m : Int), _; intro j m h; omega
      have Hcn := veil hcn
      clear hcn
      go_wp2_with fail
      go_loopg [14, 15, 43] ms.length (fun gk kv mv iv wr => ∃ k : Nat, gk = ms.length - k ∧ k ≤ ms.length ∧ iv = .int .i64 (k : Int) ∧ Hid (∀ (j : Nat) (m : Int), j < k → ms[j]? = some m → m = 208 + ((j % 8 : Nat) : Int)) ∧ w2 = wr)
      case atStart => exact ⟨0, rfl, Nat.zero_le _, rfl, HM0, rfl⟩
      case round =>
        clear HM0
        obtain ⟨k, rfl, hk, rfl, HMk, rfl⟩ := hrel
        by_cases hlt : k < ms.length
        · have hltz : (k : Int) < (ms.length : Int) := by omega
          obtain ⟨gm, om, x, rfl, hgm, hx, hcx⟩ := Hsm.out.int hlt
          obtain ⟨q, hq⟩ : ∃ q : Nat, q = k % 8 := ⟨_, rfl⟩
          have hq8 : q < 8 := by omega
          have hqz : (k : Int) % 8 = (q : Int) := by omega
          have Hx := veil hx
          have HMa := veil (marker_any (k : Int) q (by omega) (by omega) (by omega) w2)
          by_cases hxq : x = 208 + (q : Int)
          · have hbx : (x != 208 + (q : Int)) = false := by simpa using hxq
            have HM2 : Hid (∀ (j : Nat) (m : Int), j < k + 1 → ms[j]? = some m → m = 208 + ((j % 8 : Nat) : Int)) := by
              show ∀ (j : Nat) (m : Int), _
              intro j m hj hm
              by_cases hjk : j < k
              · exact HMk.out j m hjk hm
              · obtain rfl : j = k := by omega
                rw [Hx.out] at hm
                injection hm with hm
                rw [← hm, hxq, hq]
            subst hxq
            clear hx hq hbx
            go_wp2_with fail
            refine HMa.out.mono ?_
            rintro e w9 ⟨rfl, hw9⟩
            have hw9' : w9 = w2 := hw9
            subst w9
            clear HMa
            go_wp2_with fail
            go_roundg (ms.length - (k + 1))
            case rel => exact ⟨k + 1, rfl, by omega, by go_num, HM2, rfl⟩
            case measure => omega
          · have hbx : (x != 208 + (q : Int)) = true := by simpa using hxq
            have hE1 := HC2.out (by rw [← Hsrl.out]; exact Hcn.out) (marksB_bad Hx.out (by rw [← hq]; exact hxq))
            have hO1 := HOe.out (by rw [hE1]; decide)
            have HE1 := veil hE1
            have HO1 := veil hO1
            clear hE1 hO1 hx hq hxq
            go_wp2_with fail
            refine HMa.out.mono ?_
            rintro e w9 ⟨rfl, hw9⟩
            have hw9' : w9 = w2 := hw9
            subst w9
            clear HMa
            go_wp2_with fail
            go_ret2
            exact ⟨_, ret_two rfl (by rw [HE1.out]; rfl), by rw [HO1.out]; exact (Owns.nil Hbw2.out.size).fresh _ _, Hbw2.out⟩
        · obtain rfl : k = ms.length := by omega
          have hmB : marksB ms = true := (marksB_iff ms).2 fun j m hm => HMk.out j m (List.getElem?_eq_some_iff.1 hm).1 hm
          have HEs := veil (HC3.out (by rw [← Hsrl.out]; exact Hcn.out) hmB)
          have hzl : (pp.zip ps).length = ps.length := by rw [List.length_zip, ← Hsrl.out, ← Hcn.out]; omega
          have Hzl := veil hzl
          have HZ0 : Hid (∀ x ∈ (((pp.zip ps).map fun x => eDec cs syms cs2 syms2 x.1 x.2).take 0), x = 0) := by show ∀ x ∈ _, _; simp
          have HA0 : Hid (([] : List (List Int)) = (((pp.zip ps).map fun x => oDec cs syms cs2 syms2 x.1 x.2).take 0).flatten) := by show _ = _; simp
          obtain ⟨cur, hmk, hcur⟩ := run_make_blocks Nn (by omega) w2
          have hO0 : Owns w2.heap.size [blkRow (.slice (some ⟨w2.heap.size, 0, none⟩) 0 Nn) []] (w2.alloc (.cells cur 42)) := (Owns.start w2).made 42 64 cur Nn (by unfold maxLen; omega) hcur
          have HO0 := veil hO0
          have hbr0 : Below w2.heap.size w2 (w2.alloc (.cells cur 42)) := below1 w2 (.cells cur 42)
          have Hbr0 := veil hbr0
          clear hmB HMk HC1 HC2 HC3 Hsm hzl hO0 hbr0 hlt hcur
          go_wp2_with fail
          go_loopg [16, 17, 18, 19, 20, 57] ps.length (fun gk ov kv nv bv ev iv wr => ∃ (k : Nat) (acc : List (List Int)), gk = ps.length - k ∧ k ≤ ps.length ∧ iv = .int .i64 (k : Int) ∧ Hid (∀ x ∈ (((pp.zip ps).map fun x => eDec cs syms cs2 syms2 x.1 x.2).take k), x = 0) ∧ Hid (acc = (((pp.zip ps).map fun x => oDec cs syms cs2 syms2 x.1 x.2).take k).flatten) ∧ acc.length = (ps.take k).sum ∧ Hid (Owns w2.heap.size [blkRow ov acc] wr) ∧ Hid (Below w2.heap.size w2 wr))
          case atStart => exact ⟨0, [], rfl, Nat.zero_le _, rfl, HZ0, HA0, by simp, HO0, Hbr0⟩
          case round =>
            clear HZ0 HA0 HO0 Hbr0
            obtain ⟨k, acc, rfl, hk, rfl, HZ, HA, hal, HOo, Hbr⟩ := hrel
            obtain ⟨Wr, hWr⟩ : ∃ Wr, Wr = wr := ⟨_, rfl⟩
            subst hWr
            have hzr := Hbr.out.size
            by_cases hlt : k < ps.length
            · have hltz : (k : Int) < (ps.length : Int) := by omega
              obtain ⟨gl, ol, x, rfl, hgl, hx, hcx⟩ := (Hsl.out.below Hbr.out (Nat.le_refl _)).int (k := k) (by rw [List.length_map]; exact hlt)
              obtain ⟨m, hm⟩ := some_at hlt
              obtain rfl : x = (m : Int) := by rw [List.getElem?_map, hm] at hx; simpa using hx.symm
              have hm400 := Hpi.out m (List.mem_of_getElem? hm)
              obtain ⟨A5, c5, p, hv5, hp5, hs5, hl5⟩ := (Hsr.out.below Hbr.out (Nat.le_refl _)).at (j := k) (by have h1 := Hsrl.out; have h2 := Hcn.out; omega)
              obtain ⟨gp, op, rfl, hgp, hcp⟩ := (Hsp.out.below Hbr.out (Nat.le_refl _)).cell hv5
              obtain ⟨hpb, hpl5⟩ := HPB.out p (List.mem_of_getElem? hp5)
              have hze : ((pp.zip ps).map fun x => eDec cs syms cs2 syms2 x.1 x.2)[k]? = some (eDec cs syms cs2 syms2 p m) := by rw [List.getElem?_map, zip_at hp5 hm]; rfl
              have hzo : ((pp.zip ps).map fun x => oDec cs syms cs2 syms2 x.1 x.2)[k]? = some (oDec cs syms cs2 syms2 p m) := by rw [List.getElem?_map, zip_at hp5 hm]; rfl
              obtain ⟨hrow, hcount⟩ := HRo.out p hpb (m : Int)
              have hbd : Below w2.heap.size w2 Wr.drew := Hbr.out.drew
              have hC := HDe.out p A5 c5 m w2.heap.size Wr.drew (Hs.out.below hbd (Nat.le_refl _)) (Hs2.out.below hbd (Nat.le_refl _)) (hs5.below (Below.refl w2.heap.size Wr).drew (Nat.le_refl _)) hpb hpl5 (by show w2.heap.size ≤ Wr.heap.size; omega)
              have hTBr := HTB.out.below Hbr.out hT2
              have hst : (ps.take (k + 1)).sum = (ps.take k).sum + m := by rw [fc_snoc hm]; simp
              have hsk := take_sum_le ps (k + 1)
              rw [Hps.out] at hsk
              obtain ⟨er, her⟩ : ∃ er, er = eDec cs syms cs2 syms2 p m := ⟨_, rfl⟩
              obtain ⟨ob, hob⟩ : ∃ ob, ob = oDec cs syms cs2 syms2 p m := ⟨_, rfl⟩
              rw [← her] at hC hze hcount
              rw [← hob] at hC hzo hrow hcount
              have HC := veil hC; have Hze := veil hze; have Hzo := veil hzo; have Hrow := veil hrow; have Hcount := veil hcount
              have Hst := veil hst; have Hsk := veil hsk
              clear hC hze hzo hrow hcount her hob hx hm hv5 hp5 hs5 hl5 hpb hpl5 hbd hst hsk
              go_upto_region 17 with fail
              refine wp_region_held_drew (S := fun w' => Blk w' w.heap.size zs 27 ∧ w'.cell? ⟨gp, op + k, none⟩ = some (.slice A5 p.length c5)) (by kernel_rfl) ⟨hTBr, hcp⟩ (fun hHeld0 => ?_)
              refine take_load 0 63 27 (.tmp 4) w.heap.size 0 zs _ rfl rfl (by kernel_rfl) (by kernel_rfl) (by kernel_rfl) (fun _ _ _ h => h) rfl rfl rfl (fun w' h => h.1.range) Try.underlying27 rfl (by rw [H34.out]; kernel_rfl) hHeld0 rfl ?_
              refine take_pure 1 64 (.slice (some ⟨gp, op, none⟩) vs.length cp) _ rfl rfl (by kernel_rfl) (by kernel_rfl) (by kernel_rfl) (fun _ _ _ h => h) rfl (fun w' hS => by go_simp) hHeld0 rfl ?_
              refine take_pure 2 65 (.int .i64 (k : Int)) _ rfl rfl (by kernel_rfl) (by kernel_rfl) (by kernel_rfl) (fun _ _ _ h => h) rfl (fun w' hS => by go_simp) hHeld0 rfl ?_
              have hkv : (k : Int) < (vs.length : Int) := by have := Hcn.out; omega
              refine take_pure 3 66 (.pointer (some ⟨gp, op + k, none⟩)) _ rfl rfl (by kernel_rfl) (by kernel_rfl) (by kernel_rfl) (fun _ _ _ h => h) rfl (fun w' hS => by go_simp) hHeld0 rfl ?_
              refine take_pure 4 67 (.slice A5 p.length c5) _ rfl rfl (by kernel_rfl) (by kernel_rfl) (by kernel_rfl) (fun _ _ _ h => h) rfl (fun w' hS => by have hc9 := hS.2; go_simp) hHeld0 rfl ?_
              refine take_pure 5 68 (.int .i64 (m : Int)) _ rfl rfl (by kernel_rfl) (by kernel_rfl) (by kernel_rfl) (fun _ _ _ h => h) rfl (fun w' hS => by go_simp) hHeld0 rfl ?_
              refine wpAnyH_ready (rs := [6]) (by kernel_rfl) (by simp) ?_
              refine AllReadyH.cons rfl (fun K hK => ?_) AllReadyH.nil
              go_simp
              refine HC.out.mono ?_
              rintro e w5 ⟨v5, rfl, HO5, hb5⟩
              have hb5' : Below Wr.heap.size Wr w5 := below_of_drew hb5
              refine hK.out _ _ ⟨hHeld0.1.below hb5 hHeld0.1.lt, (hb5.cell (by show gp < Wr.heap.size; omega)).trans hHeld0.2⟩ (fun hHeld1 => ?_)
              clear hK K
              refine take_pure 7 62 (.tuple #[v5, .int .i64 er]) _ rfl rfl (by kernel_rfl) (by kernel_rfl) (by kernel_rfl) (fun _ _ _ h => h) rfl (fun w' hS => by go_simp) hHeld1 rfl ?_
              refine take_pure 8 70 v5 _ rfl rfl (by kernel_rfl) (by kernel_rfl) (by kernel_rfl) (fun _ _ _ h => h) rfl (fun w' hS => by go_simp) hHeld1 rfl ?_
              refine take_pure 9 71 (.int .i64 er) _ rfl rfl (by kernel_rfl) (by kernel_rfl) (by kernel_rfl) (fun _ _ _ h => h) rfl (fun w' hS => by go_simp) hHeld1 rfl ?_
              refine take_pure 10 19 v5 _ rfl rfl (by kernel_rfl) (by kernel_rfl) (by kernel_rfl) (fun _ _ _ h => h) rfl (fun w' hS => by go_simp) hHeld1 rfl ?_
              refine take_pure 11 20 (.int .i64 er) _ rfl rfl (by kernel_rfl) (by kernel_rfl) (by kernel_rfl) (fun _ _ _ h => h) rfl (fun w' hS => by go_simp) hHeld1 rfl ?_
              refine wpAnyH_done (by kernel_rfl) ?_ _
              obtain ⟨A6, c6, hv6, hs6, hc6, hm6⟩ := HO5.seen (List.mem_cons_self ..)
              obtain rfl : v5 = .slice A6 ob.length c6 := hv6
              have hz5 := hb5'.size
              have Hbr5 := veil (Hbr.out.trans (hb5'.mono hzr))
              have HO6 := HOo.out.below hb5'
              have Hs6 := veil hs6
              clear HO5 hb5 hb5' hs6 hHeld0 hHeld1 hTBr HC HOo hcp hcx
              by_cases he : er = 0
              · subst he
                have hoc := Hcount.out rfl
                have hoc' : ob.length = m := by omega
                have hrl := rowsC_length Hrow.out
                have Hrl := veil hrl
                have HZ2 : Hid (∀ x ∈ (((pp.zip ps).map fun x => eDec cs syms cs2 syms2 x.1 x.2).take (k + 1)), x = 0) := mem_snoc Hze.out HZ.out rfl
                have HA2 : Hid (acc ++ ob = (((pp.zip ps).map fun x => oDec cs syms cs2 syms2 x.1 x.2).take (k + 1)).flatten) := by show _ = _; rw [take_snoc Hzo.out, List.flatten_append, ← HA.out]; simp
                have hsum := Hst.out
                have hsk := Hsk.out
                have hal2 : (acc ++ ob).length = (ps.take (k + 1)).sum := by rw [List.length_append]; omega
                have Hal2 := veil hal2
                have hab : acc.length + ob.length ≤ 400 := by omega
                clear hoc hrl hsum hsk hal2 hal hoc'
                go_wp2_with (first
                  | (at_builtin; go_loud (refine wpList_ownV w5 rfl (.tmp 75) (.tmp 76) _ rfl w2.heap.size 42 64 512 elem_blk u16 acc.length (rowsC acc) [] rfl HO6 w5.heap.size A6 ob.length c6 (rowsC ob) rfl Hs6.out Hrl.out rowsC_oneD (by unfold maxLen; omega) (by omega) ?_); intro v7 w7 HO7 hb7)
                  | fail)
                go_roundg (ps.length - (k + 1))
                case rel => exact ⟨k + 1, acc ++ ob, rfl, by omega, by go_num, HZ2, HA2, Hal2.out, veil (by rw [blkRow_append] at HO7; exact HO7), veil (Hbr5.out.trans hb7)⟩
                case measure => omega
              · have hE1 : E = er := HEs.out.trans (firstE_at HZ.out Hze.out he)
                have hO1 := HOe.out (by rw [hE1]; exact he)
                have HE1 := veil hE1
                have HO1 := veil hO1
                have hbe : (er != 0) = true := by simpa using he
                have hfin := Hbw2.out.trans (Hbr5.out.mono (by omega))
                clear hE1 hO1 he
                go_wp2_with fail
                go_ret2
                exact ⟨_, ret_two rfl (by rw [HE1.out]; rfl), by rw [HO1.out]; exact (Owns.nil hfin.size).fresh _ _, hfin⟩
            · obtain rfl : k = ps.length := by omega
              have hz := HZ.out
              rw [List.take_of_length_le (by rw [List.length_map, Hzl.out]; omega)] at hz
              have hE1 : E = 0 := HEs.out.trans ((firstE_zero _).2 hz)
              have hO1 := HC4.out hE1
              have hj := HA.out
              rw [List.take_of_length_le (by rw [List.length_map, Hzl.out]; omega)] at hj
              rw [← hj] at hO1
              have HE1 := veil hE1
              have HO1 := veil hO1
              have hfin := Hbw2.out.trans (Hbr.out.mono (by omega))
              clear hE1 hO1 hz hj
              go_wp2_with fail
              go_ret2
              exact ⟨_, ret_two rfl (by rw [HE1.out]; rfl), by rw [HO1.out]; exact HOo.out.down (by omega), hfin⟩
    · have hE1 := HC1.out (by rw [← Hsrl.out]; exact hcn)
      have hO1 := HOe.out (by rw [hE1]; decide)
      have HE1 := veil hE1
      have HO1 := veil hO1
      have hne : ((vs.length : Int) != (ps.length : Int)) = true := by simp; omega
      clear hE1 hO1
      go_wp2_with fail
      go_ret2
      exact ⟨_, ret_two rfl (by rw [HE1.out]; rfl), by rw [HO1.out]; exact (Owns.nil Hbw2.out.size).fresh _ _, Hbw2.out⟩
  · have hE1 := HE.out.trans (eScD_head h0)
    have hO1 := HOe.out (by rw [hE1]; exact h0)
    have HE1 := veil hE1
    have HO1 := veil hO1
    have hne : (eHead cs syms cs2 syms2 bs n every != 0) = true := by simpa using h0
    obtain ⟨er, her⟩ : ∃ er, er = eHead cs syms cs2 syms2 bs n every := ⟨_, rfl⟩
    rw [← her] at HE1 hne ⊢
    clear hE1 hO1 h0 her hsm' hsr
    generalize (headM cs syms cs2 syms2 bs n every).length = ml at *
    go_wp2_with fail
    go_ret2
    exact ⟨_, ret_two rfl (by rw [HE1.out]; rfl), by rw [HO1.out]; exact (Owns.nil hbw1.size).fresh _ _, hbw1⟩
end Go.Proofs.Ytddkhkpdbjjboaa

/- scan.decodePiece: its contract; blocks of zeros, just made. -/
namespace Go.Proofs.Ytddkhkpdbjjboaa
open Go.RowKit
set_option linter.unusedVariables false
set_option linter.unusedSimpArgs false
set_option maxRecDepth 100000

theorem zeros_own (m : Nat) (w : World) (h : m ≤ 1000000) : Owns w.heap.size [blkRow (.slice (some ⟨w.heap.size, 0, none⟩) m m) (List.replicate m zero64)] (w.alloc (.cells (rowsC (List.replicate m zero64)).toArray 42)) := by
  have hB := Blk.new w (rowsC (List.replicate m zero64)) 42
  have hl : (List.replicate m zero64).length = m := List.length_replicate
  have hrl := rowsC_length (zrow_len m)
  rw [hl] at hrl
  refine ⟨by simp, fun x hx => ?_, List.pairwise_singleton _ _⟩
  rw [List.mem_singleton.1 hx]
  refine ⟨?_, .inr ⟨w.heap.size, m, (rowsC (List.replicate m zero64)).toArray, ?_, Nat.le_refl _, hB, ?_, ?_, ?_, ?_⟩⟩
  · show (rowsC (List.replicate m zero64)).length = (List.replicate m zero64).length * 64
    rw [hrl, hl]
  · show Value.slice (some ⟨w.heap.size, 0, none⟩) m m = .slice (some ⟨w.heap.size, 0, none⟩) (List.replicate m zero64).length m
    rw [hl]
  · show (List.replicate m zero64).length ≤ m
    rw [hl]; exact Nat.le_refl _
  · unfold maxLen; omega
  · simpa using hrl
  · show ((rowsC (List.replicate m zero64)).toArray.toList.take ((List.replicate m zero64).length * 64)) = _
    rw [hl, ← hrl]; simp
/-- What decodePiece hands back: the segment's blocks, if they can be decoded. -/
def PieceRes (gd : Bool) (B : List (List Int)) (v : Value) (w w' : World) : Prop := ∃ O, (gd = true → O = B) ∧ Owns w.heap.size [blkRow v O] w' ∧ Below w.heap.size w w'
set_option maxRecDepth 100000 in
set_option maxHeartbeats 2000000 in
theorem decodePiece_any (cs syms : List Int) (A : Option Addr) (c : Nat) (cs2 syms2 : List Int) (A2 : Option Addr) (c2 G : Nat) (ps : List (List Int)) (vs : List Value) (Ap : Option Addr) (cp k m : Nat) (w : World)
    (hcs : cs.length = 16) (hn : syms.length ≤ maxLen) (hb : ∀ x ∈ cs, -9223372036854775808 ≤ x ∧ x ≤ 9223372036854775807) (hs : Seen w G A (ints .i64 syms))
    (hcs2 : cs2.length = 16) (hn2 : syms2.length ≤ maxLen) (hb2 : ∀ x ∈ cs2, -9223372036854775808 ≤ x ∧ x ≤ 9223372036854775807) (hs2 : Seen w G A2 (ints .i64 syms2))
    (hpb : ∀ p ∈ ps, Bytes p ∧ p.length ≤ 1048576) (hsr : SeenRows w G .u8 vs ps) (hsp : Seen w G Ap vs) (hvl : vs.length ≤ 2000000) (hk : k ≤ 2000000) (hG : G ≤ w.heap.size) :
    Calls Try.prog 29 #[tabsV cs A syms.length c cs2 A2 syms2.length c2, .slice Ap vs.length cp, .int .i64 (k : Int), .int .i64 (m : Int)] w fun e w' => ∃ v, e = .returned (.tuple #[v, .bool (goodM cs syms cs2 syms2 ps k m)]) ∧ PieceRes (goodM cs syms cs2 syms2 ps k m) (blkM cs syms cs2 syms2 ps k m) v w w' := by
  have h34 : (tabsCells cs A syms.length c cs2 A2 syms2.length c2).length = 34 := by unfold tabsCells; rw [List.length_append, tabCells_length hcs, tabCells_length hcs2]
  have HDe := veil (fun p A' c' (m : Nat) W (h1 : Seen W G A (ints .i64 syms)) h2 h3 (hp : Bytes p) (hpl : p.length ≤ 1048576) hG' => segDecode_any cs syms A c cs2 syms2 A2 c2 G p A' c' (m : Int) W hcs hn hb h1 hcs2 hn2 hb2 h2 h3 hp (by omega) hG')
  have hb0 := below1 w (.cells (tabsCells cs A syms.length c cs2 A2 syms2.length c2).toArray 27)
  have hz0 : (w.alloc (.cells (tabsCells cs A syms.length c cs2 A2 syms2.length c2).toArray 27)).heap.size = w.heap.size + 1 := by simp
  have hTB := Blk.new w (tabsCells cs A syms.length c cs2 A2 syms2.length c2) 27
  have hsrl := hsr.1
  obtain ⟨gd, hgd⟩ : ∃ gd, gd = goodM cs syms cs2 syms2 ps k m := ⟨_, rfl⟩
  rw [← hgd]
  have Hgd := veil hgd
  have H34 := veil h34
  clear hcs hcs2 hb hb2 h34 hn hn2 hgd
  unfold tabsV at HDe ⊢
  generalize tabsCells cs A syms.length c cs2 A2 syms2.length c2 = zs at *
  go_enter Try.func29, Try.ntmps29
  by_cases hkv : k < vs.length
  · have hkvz : (k : Int) < (vs.length : Int) := by omega
    have hkvn : ¬ (vs.length : Int) ≤ (k : Int) := by omega
    obtain ⟨A5, c5, p, hv5, hp5, hs5, hl5⟩ := (hsr.below hb0 hG).at (j := k) (by omega)
    obtain ⟨gp, op, rfl, hgp, hcp⟩ := (hsp.below hb0 hG).cell hv5
    obtain ⟨hpb5, hpl5⟩ := hpb p (List.mem_of_getElem? hp5)
    have hgood := goodM_some (cs := cs) (syms := syms) (cs2 := cs2) (syms2 := syms2) (m := m) hp5
    have hblk := blkM_good (cs := cs) (syms := syms) (cs2 := cs2) (syms2 := syms2) (m := m) hp5
    obtain ⟨W0, hW0⟩ : ∃ W0, W0 = w.alloc (.cells zs.toArray 27) := ⟨_, rfl⟩
    have HW0 := veil hW0
    rw [← hW0] at hb0 hz0 hTB hs5 hcp
    have hbd : Below w.heap.size w W0.drew := hb0.drew
    have hC := HDe.out p A5 c5 m W0.drew (hs.below hbd hG) (hs2.below hbd hG) (hs5.below (Below.refl G W0).drew (Nat.le_refl _)) hpb5 hpl5 (by show G ≤ W0.heap.size; omega)
    obtain ⟨er, her⟩ : ∃ er, er = eDec cs syms cs2 syms2 p m := ⟨_, rfl⟩
    obtain ⟨ob, hob⟩ : ∃ ob, ob = oDec cs syms cs2 syms2 p m := ⟨_, rfl⟩
    rw [← her] at hC hgood hblk
    rw [← hob] at hC hblk
    have HC := veil hC; have Hgood := veil hgood; have Hblk := veil hblk; have Hhz := veil hz0
    have hgpz : gp < W0.heap.size := by omega
    clear hC hgood hblk her hob hv5 hp5 hs5 hl5 hpb5 hpl5 hbd hW0 hpb hsr hsp hs hs2 HDe hgp
    go_upto_region 3 with fail
    rw [← HW0.out]
    refine wp_region_held_drew (S := fun w' => Blk w' w.heap.size zs 27 ∧ w'.cell? ⟨gp, op + k, none⟩ = some (.slice A5 p.length c5)) (by kernel_rfl) ⟨hTB, hcp⟩ (fun hHeld0 => ?_)
    refine take_load 0 17 27 (.tmp 4) w.heap.size 0 zs _ rfl rfl (by kernel_rfl) (by kernel_rfl) (by kernel_rfl) (fun _ _ _ h => h) rfl rfl rfl (fun w' h => h.1.range) Try.underlying27 rfl (by rw [H34.out]; kernel_rfl) hHeld0 rfl ?_
    refine take_pure 1 18 (.slice (some ⟨gp, op, none⟩) vs.length cp) _ rfl rfl (by kernel_rfl) (by kernel_rfl) (by kernel_rfl) (fun _ _ _ h => h) rfl (fun w' hS => by go_simp) hHeld0 rfl ?_
    refine take_pure 2 19 (.int .i64 (k : Int)) _ rfl rfl (by kernel_rfl) (by kernel_rfl) (by kernel_rfl) (fun _ _ _ h => h) rfl (fun w' hS => by go_simp) hHeld0 rfl ?_
    refine take_pure 3 20 (.pointer (some ⟨gp, op + k, none⟩)) _ rfl rfl (by kernel_rfl) (by kernel_rfl) (by kernel_rfl) (fun _ _ _ h => h) rfl (fun w' hS => by go_simp) hHeld0 rfl ?_
    refine take_pure 4 21 (.slice A5 p.length c5) _ rfl rfl (by kernel_rfl) (by kernel_rfl) (by kernel_rfl) (fun _ _ _ h => h) rfl (fun w' hS => by have hc9 := hS.2; go_simp) hHeld0 rfl ?_
    refine take_pure 5 22 (.int .i64 (m : Int)) _ rfl rfl (by kernel_rfl) (by kernel_rfl) (by kernel_rfl) (fun _ _ _ h => h) rfl (fun w' hS => by go_simp) hHeld0 rfl ?_
    refine wpAnyH_ready (rs := [6]) (by kernel_rfl) (by simp) ?_
    refine AllReadyH.cons rfl (fun K hK => ?_) AllReadyH.nil
    go_simp
    refine HC.out.mono ?_
    rintro e w5 ⟨v5, rfl, HO5, hb5⟩
    have hb5' : Below W0.heap.size W0 w5 := below_of_drew hb5
    refine hK.out _ _ ⟨hHeld0.1.below hb5 hHeld0.1.lt, (hb5.cell (by show gp < W0.heap.size; omega)).trans hHeld0.2⟩ (fun hHeld1 => ?_)
    clear hK K
    refine take_pure 7 16 (.tuple #[v5, .int .i64 er]) _ rfl rfl (by kernel_rfl) (by kernel_rfl) (by kernel_rfl) (fun _ _ _ h => h) rfl (fun w' hS => by go_simp) hHeld1 rfl ?_
    refine take_pure 8 24 v5 _ rfl rfl (by kernel_rfl) (by kernel_rfl) (by kernel_rfl) (fun _ _ _ h => h) rfl (fun w' hS => by go_simp) hHeld1 rfl ?_
    refine take_pure 9 25 (.int .i64 er) _ rfl rfl (by kernel_rfl) (by kernel_rfl) (by kernel_rfl) (fun _ _ _ h => h) rfl (fun w' hS => by go_simp) hHeld1 rfl ?_
    refine take_pure 10 10 v5 _ rfl rfl (by kernel_rfl) (by kernel_rfl) (by kernel_rfl) (fun _ _ _ h => h) rfl (fun w' hS => by go_simp) hHeld1 rfl ?_
    refine take_pure 11 11 (.int .i64 er) _ rfl rfl (by kernel_rfl) (by kernel_rfl) (by kernel_rfl) (fun _ _ _ h => h) rfl (fun w' hS => by go_simp) hHeld1 rfl ?_
    refine wpAnyH_done (by kernel_rfl) ?_ _
    have hfin := hb0.trans (hb5'.mono (by omega))
    have HO6 := veil (HO5.down (show w.heap.size ≤ W0.heap.size by omega))
    clear HO5 hb5 hb5' hHeld0 hHeld1 HC hcp hTB
    by_cases he : er = 0
    · subst he
      have h1 := Hgd.out.trans Hgood.out
      rw [decide_eq_true rfl] at h1
      have h2 := Hblk.out rfl
      have Hb := veil h2
      subst h1
      clear h2
      go_wp2_with fail
      go_ret2
      exact ⟨_, rfl, ob, fun _ => Hb.out.symm, HO6.out, hfin⟩
    · have h1 := Hgd.out.trans Hgood.out
      rw [decide_eq_false he] at h1
      have hbe : (er == 0) = false := by simpa using he
      subst h1
      clear he
      go_wp2_with fail
      go_ret2
      exact ⟨_, rfl, ob, (fun h => by cases h), HO6.out, hfin⟩
  · have hkvz : (vs.length : Int) ≤ (k : Int) := by omega
    have h1 := Hgd.out.trans (goodM_none (cs := cs) (syms := syms) (cs2 := cs2) (syms2 := syms2) (ps := ps) (k := k) (m := m) (by omega))
    subst h1
    go_wp2_with fail
    go_ret2
    exact ⟨_, rfl, [], (fun h => by cases h), (Owns.nil hb0.size).fresh _ _, hb0⟩
end Go.Proofs.Ytddkhkpdbjjboaa

/- scan.Mend: its contract. -/
namespace Go.Proofs.Ytddkhkpdbjjboaa
open Go.RowKit
set_option linter.unusedVariables false
set_option linter.unusedSimpArgs false
set_option maxRecDepth 100000

theorem rowsC_oneM {L : List (List Int)} : ∀ u ∈ rowsC L, u.oneCell' = true := by
  intro u hu
  obtain ⟨r, _, hr⟩ := List.mem_flatMap.1 hu
  exact ints_one u hr
theorem seen_blk {w : World} {B n c : Nat} {rs : List Row} {A : Option Addr} {L : List (List Int)} (h : Owns B rs w) (hr : blkRow (.slice A n c) L ∈ rs) : Seen w w.heap.size A (rowsC L) := by
  obtain ⟨A2, c2, e2, hs, _, _⟩ := h.seen hr
  have e' : (Value.slice A n c) = .slice A2 L.length c2 := e2
  obtain ⟨rfl, _, _⟩ : A = A2 ∧ n = L.length ∧ c = c2 := by simpa using e'
  exact hs
set_option maxRecDepth 100000 in
set_option maxHeartbeats 2000000 in
theorem scanMend_any : MendSpec := by
  intro cs syms A c cs2 syms2 A2 c2 G bs A3 c3 n every w hTI hby hl hcap3 hs3 hG
  obtain ⟨hcs, hn, hcap, hb, hs, hcs2, hn2, hcap2, hb2, hs2⟩ := hTI
  have h34 : (tabsCells cs A syms.length c cs2 A2 syms2.length c2).length = 34 := by unfold tabsCells; rw [List.length_append, tabCells_length hcs, tabCells_length hcs2]
  have HPi := veil (fun W h1 h2 h3 hG => scanSplit_any cs syms A c cs2 syms2 A2 c2 G bs A3 c3 n every W hcs hn hb h1 hcs2 hn2 hb2 h2 h3 hby (by omega) hG)
  have HDe := veil (fun G' ps vs Ap cp k m W (h1 : Seen W G' A (ints .i64 syms)) h2 hpb hsr hsp hvl hk hG' => decodePiece_any cs syms A c cs2 syms2 A2 c2 G' ps vs Ap cp k m W hcs hn hb h1 hcs2 hn2 hb2 h2 hpb hsr hsp hvl hk hG')
  have HMr := veil (fun (ns : List Nat) k h => mendO_rows (cs := cs) (syms := syms) (cs2 := cs2) (syms2 := syms2) (ps := splitP bs) hcs hcs2 (fun p hp => splitP_bytes hby hp) ns k h)
  have HBr := veil (fun k m => blkM_rows (cs := cs) (syms := syms) (cs2 := cs2) (syms2 := syms2) (ps := splitP bs) (k := k) (m := m) hcs hcs2 (fun p hp => splitP_bytes hby hp))
  have hb0 := below1 w (.cells (tabsCells cs A syms.length c cs2 A2 syms2.length c2).toArray 27)
  have hz0 : (w.alloc (.cells (tabsCells cs A syms.length c cs2 A2 syms2.length c2).toArray 27)).heap.size = w.heap.size + 1 := by simp
  have hTB := Blk.new w (tabsCells cs A syms.length c cs2 A2 syms2.length c2) 27
  have HPB := veil (fun p (h : p ∈ splitP bs) => (⟨splitP_bytes hby h, Nat.le_trans (splitP_in h).1 hl⟩ : Bytes p ∧ p.length ≤ 1048576))
  obtain ⟨O, hO⟩ : ∃ O, O = oMend cs syms cs2 syms2 bs n every := ⟨_, rfl⟩
  obtain ⟨Bd, hBd⟩ : ∃ Bd, Bd = bMend cs syms cs2 syms2 bs n every := ⟨_, rfl⟩
  rw [← hO, ← hBd]
  have HO := veil hO
  have HBd := veil hBd
  have H34 := veil h34
  have Hl := veil hl
  clear hcs hcs2 hb hb2 hO hBd h34 hl hn hn2 hcap hcap2 hby
  unfold tabsV at HPi HDe ⊢
  generalize tabsCells cs A syms.length c cs2 A2 syms2.length c2 = zs at *
  have hr0 := hTB.range
  go_enter Try.func11, Try.ntmps11
  go_wp2_with (first
    | (refine wpList_load_mid rfl 27 (.tmp 4) rfl w.heap.size 0 rfl zs _ hr0 Try.underlying27 rfl (by rw [H34.out]; kernel_rfl) ?_)
    | fail)
  refine (HPi.out _ (hs.below hb0 hG) (hs2.below hb0 hG) (hs3.below hb0 hG) (by rw [hz0]; omega)).mono ?_
  rintro e w1 ⟨vs, Ap, cp, Am, cm, rfl, hsr, hsp', _, hb1⟩
  have hTB1 := hTB.below hb1 (by rw [hz0]; omega)
  have hbw1 := hb0.trans (hb1.mono (by rw [hz0]; omega))
  have hz1 := hb1.size
  rw [hz0] at hz1
  clear hr0 hb0 HPi hb1 hTB
  by_cases h0 : eHead cs syms cs2 syms2 bs n every = 0
  · have hP1 : headP cs syms cs2 syms2 bs n every = splitP bs := if_pos h0
    rw [h0]
    rw [hP1] at hsr
    obtain ⟨hrg, hT0, hsp0⟩ := eHead_zero h0
    obtain ⟨Ev, hEv, hEv100⟩ : ∃ Ev : Nat, every = (Ev : Int) ∧ Ev ≤ 100 := ⟨every.toNat, by omega, by omega⟩
    obtain ⟨Nn, hNn, hNn400⟩ : ∃ Nn : Nat, n = (Nn : Int) ∧ Nn ≤ 400 := ⟨n.toNat, by omega, by omega⟩
    subst hEv hNn
    have hcnt := splitP_count hsp0
    have hO1 := HO.out.trans (if_pos h0)
    have hB1 := HBd.out.trans (if_pos h0)
    rw [Int.toNat_natCast, Int.toNat_natCast] at hO1 hB1
    obtain ⟨cur, hmk, hcur⟩ := run_make_blocks Nn (by omega) w1
    have hOa : Owns w1.heap.size [blkRow (.slice (some ⟨w1.heap.size, 0, none⟩) 0 Nn) []] (w1.alloc (.cells cur 42)) := (Owns.start w1).made 42 64 cur Nn (by unfold maxLen; omega) hcur
    have hb2 := below1 w1 (.cells cur 42)
    obtain ⟨W2, hW2⟩ : ∃ W2, W2 = w1.alloc (.cells cur 42) := ⟨_, rfl⟩
    have hz2 : W2.heap.size = w1.heap.size + 1 := by rw [hW2]; simp
    rw [← hW2] at hmk hb2 hOa
    obtain ⟨g, hg⟩ : ∃ g, g = w1.heap.size := ⟨_, rfl⟩
    have HPa := veil (sizes_any Nn Ev W2 (by omega) (by omega))
    have hps := partsN_sum Nn Ev
    have hpi := partsN_in Nn Ev
    have hpl := partsN_len Nn Ev
    obtain ⟨ps, hpsd⟩ : ∃ ps, ps = partsN Nn Ev := ⟨_, rfl⟩
    rw [← hpsd] at hO1 hB1 HPa hps hpi hpl
    have Hps := veil hps; have Hpi := veil hpi
    have hMr := HMr.out ps
    have hbl := Hl.out
    have hsrl := hsr.1
    have hpc : (splitP bs).length ≤ 1048577 := by omega
    obtain ⟨pp, hpp⟩ : ∃ pp, pp = splitP bs := ⟨_, rfl⟩
    rw [← hpp] at hO1 hB1 HPB hsr hsrl hMr hpc HBr
    have Hsrl := veil hsrl; have HO1 := veil hO1; have HB1 := veil hB1; have HMr := veil hMr
    have hTB2 := hTB1.below hb2 (by omega)
    have hbw2 := hbw1.trans (hb2.mono hbw1.size)
    have hvl : vs.length ≤ 1048577 := by omega
    rw [← hg] at hOa hz2 hmk hb2
    have HTB := veil hTB2; have Hsp := veil (hsp'.below hb2 (by omega)); have Hsr := veil (hsr.below hb2 (by omega)); have Hs := veil ((hs.below hbw2 hG).up (show G ≤ g by omega)); have Hs2 := veil ((hs2.below hbw2 hG).up (show G ≤ g by omega)); have Hbw2 := veil hbw2; have HOa := veil hOa
    rw [← hg] at Hsp Hsr
    have hTg : w.heap.size < g := by omega
    have H0 := veil h0
    have Hg := veil hg
    clear hpsd hps hpi h0 hP1 hrg hT0 hsp0 HO HBd hpp hsrl hO1 hB1 hMr hcnt hTB1 hTB2 hsp' hsr hbw1 hbw2 hs hs2 hs3 hb2 hW2 hpc hg hz1 hOa hcur
    go_wp2_with fail
    refine HPa.out.mono ?_
    rintro e w3 ⟨lv, rfl, HOp, hb3⟩
    obtain ⟨Al, cl, hlv, hsl, _, _⟩ := HOp.seen (List.mem_cons_self ..)
    have hvv : lv = .slice Al ps.length cl := by
      have h9 : lv = .slice Al (ps.map Int.ofNat).length cl := hlv
      rw [List.length_map] at h9; exact h9
    subst lv
    have hz3 := hb3.size
    have hO0 : Owns g [blkRow (.slice (some ⟨g, 0, none⟩) 0 Nn) [], intRow 3 .i64 (.slice none 0 0) [], intRow 3 .i64 (.slice Al ps.length cl) (ps.map Int.ofNat)] w3 := (((HOa.out.call hb3 HOp).swap.fresh 3 1).swap)
    have HO0 := veil hO0
    have hgW : Below g W2 w3 := hb3.mono (by omega)
    have HA0 : Hid (([] : List (List Int)) = mendO cs syms cs2 syms2 pp (ps.take 0)) := by show _ = _; simp [mendO]
    have HB0 : Hid (([] : List Int) = mendB cs syms cs2 syms2 pp (ps.take 0)) := by show _ = _; simp [mendB]
    have HG0 := veil hgW
    clear HOp hlv hsl hb3 hO0 HPa hmk hz3 hgW HOa
    go_wp2_with fail
    go_loopg [14, 15, 16, 17, 18, 19, 38] ps.length (fun gk ov bv kv sv lv fv iv wr => ∃ (k : Nat) (acc : List (List Int)) (bad : List Int), gk = ps.length - k ∧ k ≤ ps.length ∧ iv = .int .i64 (k : Int) ∧ bad.length ≤ k ∧ Hid (acc = mendO cs syms cs2 syms2 pp (ps.take k)) ∧ Hid (bad = mendB cs syms cs2 syms2 pp (ps.take k)) ∧ Hid (Owns g [blkRow ov acc, intRow 3 .i64 bv bad, intRow 3 .i64 (.slice Al ps.length cl) (ps.map Int.ofNat)] wr) ∧ Hid (Below g W2 wr))
    case atStart => exact ⟨0, [], [], rfl, Nat.zero_le _, rfl, by simp, HA0, HB0, HO0, HG0⟩
    case round =>
      clear HA0 HB0 HO0 HG0
      obtain ⟨k, acc, bad, rfl, hk, rfl, hbk, HA, HBa, HOo, HGr⟩ := hrel
      obtain ⟨Wr, hWr⟩ : ∃ Wr, Wr = wr := ⟨_, rfl⟩
      subst hWr
      have hzr := HGr.out.size
      have hMrk := HMr.out k hk
      rw [← HA.out] at hMrk
      obtain ⟨hacr, hacl⟩ := hMrk
      by_cases hlt : k < ps.length
      · have hltz : (k : Int) < (ps.length : Int) := by omega
        have hsl : Seen Wr Wr.heap.size Al (ints .i64 (ps.map Int.ofNat)) := by
          obtain ⟨A7, c7, e7, h7, _, _⟩ := HOo.out.seen (List.mem_cons_of_mem _ (List.mem_cons_of_mem _ (List.mem_cons_self ..)))
          have e7' : (Value.slice Al ps.length cl) = .slice A7 (ps.map Int.ofNat).length c7 := e7
          obtain ⟨rfl, _⟩ : Al = A7 ∧ cl = c7 := by rw [List.length_map] at e7'; simpa using e7'
          exact h7
        obtain ⟨gl, ol, x, rfl, hgl, hx, hcx⟩ := hsl.int (k := k) (by rw [List.length_map]; exact hlt)
        obtain ⟨m, hm⟩ := some_at hlt
        obtain rfl : x = (m : Int) := by rw [List.getElem?_map, hm] at hx; simpa using hx.symm
        have hm400 := Hpi.out m (List.mem_of_getElem? hm)
        have hst : (ps.take (k + 1)).sum = (ps.take k).sum + m := by rw [fc_snoc hm]; simp
        have hsk := take_sum_le ps (k + 1)
        rw [Hps.out, hst] at hsk
        have hmo := mendO_next (cs := cs) (syms := syms) (cs2 := cs2) (syms2 := syms2) (ps := pp) hm
        have hmb := mendB_next (cs := cs) (syms := syms) (cs2 := cs2) (syms2 := syms2) (ps := pp) hm
        rw [← HA.out] at hmo
        rw [← HBa.out] at hmb
        have Hmo := veil hmo; have Hmb := veil hmb
        have hbr := HBr.out k m
        have hlost := blkM_lost (cs := cs) (syms := syms) (cs2 := cs2) (syms2 := syms2) (ps := pp) (k := k) (m := m)
        obtain ⟨gd, hgd⟩ : ∃ gd, gd = goodM cs syms cs2 syms2 pp k m := ⟨_, rfl⟩
        obtain ⟨bl, hbl2⟩ : ∃ bl, bl = blkM cs syms cs2 syms2 pp k m := ⟨_, rfl⟩
        have hTBr := HTB.out.below HGr.out hTg
        have hrT := hTBr.range
        have hD := HDe.out g pp vs Ap cp k m Wr (Hs.out.below HGr.out (Nat.le_refl _)) (Hs2.out.below HGr.out (Nat.le_refl _)) HPB.out (Hsr.out.below HGr.out (Nat.le_refl _)) (Hsp.out.below HGr.out (Nat.le_refl _)) (by omega) (by omega) (by omega)
        rw [← hgd] at hD Hmb hlost
        rw [← hbl2] at hD Hmo hbr hlost
        have HD := veil hD; have Hlost := veil hlost; have Hbr := veil hbr
        have Hblm : Hid (bl.length = m) := hbr.2
        have haccl : acc.length + m ≤ 400 := by omega
        clear hmo hmb hst hx hm hsl hsk hgd hbl2 hbr hlost hD hTBr hacr hacl
        go_wp2_with (first
          | (refine wpList_load_mid rfl 27 (.tmp 4) rfl w.heap.size 0 rfl zs _ hrT Try.underlying27 rfl (by rw [H34.out]; kernel_rfl) ?_)
          | fail)
        refine HD.out.mono ?_
        rintro e w5 ⟨v5, rfl, O5, hO5, HO5, hb5⟩
        have HO5' := veil hO5
        have hz5 := hb5.size
        have HG5 := veil (HGr.out.trans (hb5.mono (by omega)))
        have HO6 := HOo.out.call hb5 HO5
        have HO7 := veil HO6
        clear hcx hrT HD HOo HO5 HO6 hb5 hO5
        cases gd with
        | true =>
          have h9 := HO5'.out rfl
          subst h9
          have HO8 := HO7.out.swap
          obtain ⟨A6, c6, hv6, hs6, hc6, hm6⟩ := HO7.out.seen (List.mem_cons_self ..)
          have hv6' : v5 = .slice A6 O5.length c6 := hv6
          subst hv6'
          have hs6' : Seen w5 w5.heap.size A6 (rowsC O5) := hs6
          have hrl := rowsC_length Hbr.out.1
          have Hrl := veil hrl; have Hs6 := veil hs6'
          have HA2 : Hid (acc ++ O5 = mendO cs syms cs2 syms2 pp (ps.take (k + 1))) := by show _ = _; rw [Hmo.out]
          have HB2 : Hid (bad = mendB cs syms cs2 syms2 pp (ps.take (k + 1))) := by show _ = _; rw [Hmb.out, if_pos rfl, List.append_nil]
          clear hv6 hs6 hs6' hrl HO7
          go_wp2_with (first
            | (at_builtin; go_loud (refine wpList_ownV w5 rfl (.tmp 59) (.tmp 60) _ rfl g 42 64 512 elem_blk u14 acc.length (rowsC acc) _ rfl HO8 w5.heap.size A6 O5.length c6 (rowsC O5) rfl Hs6.out Hrl.out rowsC_oneM (by unfold maxLen; rw [Hblm.out]; omega) (by rw [Hblm.out]; omega) ?_); intro v7 w7 HO9 hb7)
            | fail)
          go_roundg (ps.length - (k + 1))
          case rel => exact ⟨k + 1, acc ++ O5, bad, rfl, by omega, by go_num, by omega, HA2, HB2, veil (by rw [blkRow_append] at HO9; exact HO9.swap.tail), veil (HG5.out.trans hb7)⟩
          case measure => omega
        | false =>
          have hmz := run_make_zeros m (by omega) w5
          have hbz := below1 w5 (.cells (rowsC (List.replicate m zero64)).toArray 42)
          have hzo := zeros_own m w5 (by omega)
          obtain ⟨W6, hW6⟩ : ∃ W6, W6 = w5.alloc (.cells (rowsC (List.replicate m zero64)).toArray 42) := ⟨_, rfl⟩
          rw [← hW6] at hmz hbz hzo
          have hr8 : Owns g (blkRow (.slice (some ⟨w5.heap.size, 0, none⟩) m m) (List.replicate m zero64) :: _) W6 := HO7.out.tail.call hbz hzo
          have HOb := hr8.third
          have hz6 := hbz.size
          have HG6 := veil (HG5.out.trans (hbz.mono (by have := HG5.out.size; omega)))
          have hl := Hlost.out rfl
          subst hl
          have HA2 : Hid (acc ++ List.replicate m zero64 = mendO cs syms cs2 syms2 pp (ps.take (k + 1))) := by show _ = _; rw [Hmo.out]
          have HB2 : Hid (bad ++ [(k : Int)] = mendB cs syms cs2 syms2 pp (ps.take (k + 1))) := by show _ = _; rw [Hmb.out, if_neg (by decide)]
          have hrl := rowsC_length (zrow_len m)
          have Hrl := veil hrl
          rw [List.length_replicate] at Hrl
          obtain ⟨zz, hzz⟩ : ∃ zz, zz = w5.heap.size := ⟨_, rfl⟩
          rw [← hzz] at hmz HOb
          have HOb' := veil HOb
          clear hW6 hbz hzo HO7 HO5' hr8 hrl hzz Hblm Hbr Hlost HOb
          go_wp2_with (first
            | (at_builtin; go_loud (refine wpList_ownI W6 rfl (.tmp 55) (.tmp 57) _ rfl g 3 .i64 8 elem_int u15 bad _ rfl HOb'.out [(k : Int)] rfl (by unfold maxLen; simp; omega) (by simp; omega) ?_); intro v8 w8 HO8 hb8 hz8)
            | (at_builtin; go_loud (refine wpList_ownV w8 rfl (.tmp 59) (.tmp 60) _ rfl g 42 64 512 elem_blk u14 acc.length (rowsC acc) _ rfl HO8.third w8.heap.size (some ⟨zz, 0, none⟩) m m (rowsC (List.replicate m zero64)) rfl (seen_blk HO8 (List.mem_cons_of_mem _ (List.mem_cons_self ..))) Hrl.out rowsC_oneM (by unfold maxLen; omega) (by omega) ?_); intro v7 w7 HO9 hb7)
            | fail)
          go_roundg (ps.length - (k + 1))
          case rel => exact ⟨k + 1, acc ++ List.replicate m zero64, bad ++ [(k : Int)], rfl, by omega, by go_num, by simp; omega, HA2, HB2, veil (by rw [show acc.length + m = acc.length + (List.replicate m zero64).length by rw [List.length_replicate], blkRow_append] at HO9; exact HO9.third.tail), veil ((HG6.out.trans hb8).trans hb7)⟩
          case measure => omega
      · obtain rfl : k = ps.length := by omega
        have htk : ps.take ps.length = ps := List.take_of_length_le (Nat.le_refl _)
        have ha := HA.out
        have hb := HBa.out
        rw [htk] at ha hb
        have hO1 : O = acc := HO1.out.trans ha.symm
        have hB1 : Bd = bad := HB1.out.trans hb.symm
        have hown := (HOo.out.third.tail).down (show w.heap.size ≤ g by omega)
        have hfin := Hbw2.out.trans (HGr.out.mono (show w.heap.size ≤ g by omega))
        have Hown := veil hown; have HO2 := veil hO1; have HB2 := veil hB1
        clear ha hb hO1 hB1 hown hacr hacl htk HMr
        go_wp2_with fail
        go_ret3
        exact ⟨_, _, ret_three rfl rfl (by rw [H0.out]; rfl), by rw [HO2.out, HB2.out]; exact Hown.out, hfin⟩
  · obtain ⟨hO1, hB1⟩ := oMend_err h0
    have hO1 := HO.out.trans hO1
    have hB1 := HBd.out.trans hB1
    have HO1 := veil hO1
    have HB1 := veil hB1
    have hne : (eHead cs syms cs2 syms2 bs n every != 0) = true := by simpa using h0
    obtain ⟨er, her⟩ : ∃ er, er = eHead cs syms cs2 syms2 bs n every := ⟨_, rfl⟩
    rw [← her] at hne ⊢
    have Her := veil her
    clear hO1 hB1 h0 her hsr
    go_wp2_with fail
    go_ret3
    exact ⟨_, _, ret_three rfl rfl (by rw [← Her.out]; rfl), by rw [HO1.out, HB1.out]; exact ((Owns.nil hbw1.size).fresh _ _).fresh _ _, hbw1⟩
end Go.Proofs.Ytddkhkpdbjjboaa

/- From the form's reading of a slice of structs or arrays of integers to the words of Mem. -/
namespace Go.Proofs.Ytddkhkpdbjjboaa
open Go.RowKit Go.ChangeShapes Go.WideShapes Go.ChangeAt Go.Deep
set_option linter.unusedVariables false
set_option linter.unusedSimpArgs false
set_option maxRecDepth 100000

section
variable {H : Type} {enc : TypeId × Value → H}
end
end Go.Proofs.Ytddkhkpdbjjboaa

/- From the form's readings of the arguments to the words of Mem: slices of integers, slices of structs of integers. -/
namespace Go.Proofs.Ytddkhkpdbjjboaa
open Go.RowKit Go.ChangeShapes Go.WideShapes Go.ChangeAt Go.Deep
set_option linter.unusedVariables false
set_option linter.unusedSimpArgs false
set_option maxRecDepth 100000

theorem own : ownKnob Try.prog.godebug = none := by kernel_rfl
theorem laidOut : laidOutB Try.prog = true := by kernel_rfl

section
variable {H : Type} {enc : TypeId × Value → H}

theorem bulk_pos (d : DataW H) : 1 ≤ Rows.uptoBulk d := by
  cases d with
  | lit l => cases l <;> simp [Rows.uptoBulk]
  | nil => simp [Rows.uptoBulk]
  | ptr d => simp [Rows.uptoBulk]
  | slice elems spare => simp [Rows.uptoBulk]
  | agg parts => simp [Rows.uptoBulk]
  | iface t d => simp [Rows.uptoBulk]
  | map entries => simp [Rows.uptoBulk]
  | held h => simp [Rows.uptoBulk]
theorem bulk_length (l : List (DataW H)) : l.length ≤ Rows.uptoBulkAll l := by
  induction l with
  | nil => simp [Rows.uptoBulkAll]
  | cons x r ih => have := bulk_pos x; simp only [Rows.uptoBulkAll, List.length_cons]; omega

/-- A slice of integers that came in. -/
theorem openInts {W : World} {t e : TypeId} {k : IntKind} {a : Option Addr} {len cap : Nat} {d : DataW H} {p : List MemPlace} {sp : Nat → Bool} {hd : Bool}
    (ht : Try.prog.underlying t = some (.slice e)) (he : Try.prog.underlying e = some (.int k)) (hc : Try.prog.cellsOf e = 1)
    (h : DataW.Trod enc Try.prog W 0 sp hd t (.slice a len cap) d p) :
    ∃ xs : List Int, len = xs.length ∧ Seen W W.heap.size a (ints k xs) ∧ (∀ x ∈ xs, (Lit.int k x).wf = true) ∧ xs.length ≤ maxLen ∧ cap ≤ maxLen ∧ xs.length ≤ cap ∧ xs.length ≤ Rows.uptoBulk d := by
  obtain ⟨fuel, hf⟩ := h
  rcases open_ints ht he hc hf with ⟨hcs, _⟩ | ⟨x, l, c, zs, hcs, _, hl, hm, hz, hx, hcell, hwz⟩
  · simp [Value.cells] at hcs
    obtain ⟨rfl, rfl, rfl⟩ := hcs
    exact ⟨[], rfl, .inl rfl, by simp, Nat.zero_le _, Nat.zero_le _, Nat.zero_le _, Nat.zero_le _⟩
  · simp [Value.cells] at hcs
    obtain ⟨rfl, rfl, rfl⟩ := hcs
    have hlz : len ≤ zs.length := by rw [hz]; split <;> omega
    simp only [Prod.mk.injEq] at hx
    refine ⟨zs.take len, by simp [Nat.min_eq_left hlz], ?_, fun x hx => hwz x (List.mem_of_mem_take hx), by simp; omega, hm, by simp; omega, ?_⟩
    · by_cases h0 : len = 0
      · subst h0; exact .inl rfl
      · have h1 := hcell 0 (by omega)
        have hsp := World.cell?_spot h1
        have hb := World.block_lt_of_cell? W _ h1
        obtain ⟨b, o, s⟩ := x
        simp [Addr.add] at hsp hb
        subst hsp
        refine .inr ⟨b, o, rfl, hb, fun j u hu => ?_⟩
        have hj : j < zs.length := by
          have := (List.getElem?_eq_some_iff.1 hu).1
          simp [ints] at this; omega
        have h2 := hcell j hj
        have h3 : (ints k (zs.take len))[j]? = some (.int k (zs.getD j 0)) := by
          have hjl : j < len := by
            have := (List.getElem?_eq_some_iff.1 hu).1
            simp [ints] at this; omega
          simp [ints, List.getElem?_take, hjl, hj]
        rw [h3] at hu
        injection hu with hu
        subst hu
        rw [← h2]
        unfold Addr.add
        split
        · rename_i e; subst e; rfl
        · rfl
    · rw [hx.1]
      simp only [Rows.uptoBulk]
      have h1 := bulk_length (lits (H := H) k (zs.take len))
      have h2 : (lits (H := H) k (zs.take len)).length = (zs.take len).length := by simp [lits]
      omega

end
end Go.Proofs.Ytddkhkpdbjjboaa

/- From the form's reading of a table that came in to its counts and its symbols. -/
namespace Go.Proofs.Ytddkhkpdbjjboaa
open Go.RowKit Go.ChangeShapes Go.WideShapes Go.ChangeAt Go.Deep
set_option linter.unusedVariables false
set_option linter.unusedSimpArgs false
set_option maxRecDepth 100000
section
variable {H : Type} {enc : TypeId × Value → H}
theorem take_drop_one {α : Type} {l : List α} {i : Nat} {x : α} (h : l[i]? = some x) : (l.drop i).take 1 = [x] := by
  obtain ⟨hi, e⟩ := List.getElem?_eq_some_iff.1 h
  rw [List.drop_eq_getElem_cons hi, e]; rfl
/-- Cells that read as an array of integers. -/
theorem openArr {W : World} {t e : TypeId} {k : IntKind} {n fuel : Nat} {l : List Value} {x : DataW H × List MemPlace} {sp : Nat → Bool} {hd : Bool}
    (ht : Try.prog.underlying t = some (.array n e)) (he : Try.prog.underlying e = some (.int k)) (hc : Try.prog.cellsOf e = 1) (hct : Try.prog.cellsOf t = n)
    (h : DataW.trod enc Try.prog W 0 sp hd fuel t l = some x) : ∃ cs : List Int, l = ints k cs ∧ cs.length = n ∧ ∀ c ∈ cs, (Lit.int k c).wf = true := by
  obtain ⟨xs, m, _, _, hl, hx, hi⟩ := DataW.trod_array ht h
  rw [hct] at hl
  rw [hc] at hi
  have each : ∀ i, i < n → ∃ c : Int, l[i]? = some (.int k c) ∧ (Lit.int k c).wf = true := by
    intro i hin
    obtain ⟨v, hv⟩ := some_at (xs := l) (j := i) (by omega)
    have h2 := hi i hin
    rw [Nat.mul_one, take_drop_one hv] at h2
    obtain ⟨y, hy⟩ := some_at (xs := xs) (j := i) (by omega)
    rw [hy] at h2
    obtain ⟨c, e0, _, w0⟩ := DataW.trod_int he h2
    simp at e0
    exact ⟨c, by rw [hv, e0], w0⟩
  obtain ⟨q, hq⟩ := choose_lt each
  refine ⟨(List.range n).map q, ?_, by simp, ?_⟩
  · apply List.ext_getElem?
    intro i
    by_cases hin : i < n
    · rw [(hq i hin).1]; simp [ints, hin]
    · rw [List.getElem?_eq_none (by omega), List.getElem?_eq_none (by simp [ints]; omega)]
  · intro c hc
    obtain ⟨i, hi', rfl⟩ := List.mem_map.1 hc
    exact (hq i (by simpa using hi')).2
end
end Go.Proofs.Ytddkhkpdbjjboaa

/- From the form's reading of two tables, and of a slice of blocks, to the words of Mem. -/
namespace Go.Proofs.Ytddkhkpdbjjboaa
open Go.RowKit Go.ChangeShapes Go.WideShapes Go.ChangeAt Go.Deep
set_option linter.unusedVariables false
set_option linter.unusedSimpArgs false
set_option maxRecDepth 100000
section
variable {H : Type} {enc : TypeId × Value → H}
theorem tab_cells {W : World} {fuel : Nat} {L : List Value} {x : DataW H × List MemPlace} {sp : Nat → Bool} {hd : Bool} (hsz : L.length = 17) (hf : DataW.trod enc Try.prog W 0 sp hd fuel 25 L = some x) :
    ∃ (cs : List Int) (A : Option Addr) (c : Nat) (syms : List Int), L = tabCells cs A syms.length c ∧ cs.length = 16 ∧ (∀ x ∈ cs, -9223372036854775808 ≤ x ∧ x ≤ 9223372036854775807) ∧ Seen W W.heap.size A (ints .i64 syms) ∧ syms.length ≤ maxLen ∧ syms.length ≤ c := by
  obtain ⟨y0, y1, n, hx, _, h0, h1⟩ := trod_struct2 Try.underlying25 hf
  have c0 : Try.prog.cellsOf 22 = 16 := by kernel_rfl
  have c1 : Try.prog.cellsOf 23 = 1 := by kernel_rfl
  rw [c0] at h0
  rw [c1] at h1
  simp only [List.drop_zero] at h0
  obtain ⟨cs, e0, hcs, hwf⟩ := openArr Try.underlying22 Try.underlying3 (by kernel_rfl) c0 h0
  obtain ⟨A, len, cap, e1⟩ := Go.Joins.slice_form Try.underlying23 h1
  rw [e1] at h1
  obtain ⟨syms, rfl, hs, hw, hl, _, hlc, hb⟩ := openInts (W := W) (a := A) (len := len) (cap := cap) (d := y1.1) (p := y1.2) Try.underlying23 Try.underlying3 (by kernel_rfl) ⟨n, h1⟩
  have e2 : L = tabCells cs A syms.length cap := by
    rw [tabCells, ← e0, ← e1, List.take_of_length_le (l := L.drop 16) (by simp; omega), List.take_append_drop]
  exact ⟨cs, A, cap, syms, e2, hcs, fun x hx => bounds_i64 (hwf x hx), hs, hl, hlc⟩
/-- Two tables that came in. -/
theorem openTables {W : World} {base : Nat} {v : Value} {d : DataW H} {p : List MemPlace} {sp : Nat → Bool} {hd : Bool} (hv : Value.okWide Try.prog W .any base 27 v) (h : DataW.Trod enc Try.prog W 0 sp hd 27 v d p) :
    ∃ (cs : List Int) (A : Option Addr) (c : Nat) (syms : List Int) (cs2 : List Int) (A2 : Option Addr) (c2 : Nat) (syms2 : List Int), v = tabsV cs A syms.length c cs2 A2 syms2.length c2 ∧ cs.length = 16 ∧ (∀ x ∈ cs, -9223372036854775808 ≤ x ∧ x ≤ 9223372036854775807) ∧ Seen W W.heap.size A (ints .i64 syms) ∧ syms.length ≤ maxLen ∧ syms.length ≤ c ∧
      cs2.length = 16 ∧ (∀ x ∈ cs2, -9223372036854775808 ≤ x ∧ x ≤ 9223372036854775807) ∧ Seen W W.heap.size A2 (ints .i64 syms2) ∧ syms2.length ≤ maxLen ∧ syms2.length ≤ c2 := by
  obtain ⟨cells, rfl, hsz⟩ := okWide_struct Try.underlying27 hv
  have h34 : Try.prog.cellsOf 27 = 34 := by kernel_rfl
  rw [h34] at hsz
  obtain ⟨fuel, hf⟩ := h
  obtain ⟨y0, y1, n, hx, _, h0, h1⟩ := trod_struct2 Try.underlying27 hf
  have c0 : Try.prog.cellsOf 25 = 17 := by kernel_rfl
  simp only [Value.cells] at h0 h1
  rw [c0] at h0 h1
  obtain ⟨L⟩ := cells
  simp only [List.size_toArray] at hsz
  simp only [List.drop_zero] at h0
  obtain ⟨cs, A, c, syms, e0, g1, g2, g3, g4, g5⟩ := tab_cells (by simp; omega) h0
  obtain ⟨cs2, A2, c2, syms2, e1, k1, k2, k3, k4, k5⟩ := tab_cells (by simp; omega) h1
  have e2 : L = tabsCells cs A syms.length c cs2 A2 syms2.length c2 := by
    rw [tabsCells, ← e0, ← e1, List.take_of_length_le (l := L.drop 17) (by simp; omega), List.take_append_drop]
  exact ⟨cs, A, c, syms, cs2, A2, c2, syms2, by rw [tabsV, e2], g1, g2, g3, g4, g5, k1, k2, k3, k4, k5⟩
end
end Go.Proofs.Ytddkhkpdbjjboaa
