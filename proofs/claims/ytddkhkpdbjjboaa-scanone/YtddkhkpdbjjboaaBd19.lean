/- Texts shared by the claims of this seat, in one. -/
import Derived.Test.YtddkhkpdbjjboaaBd12
import Derived.Test.YtddkhkpdbjjboaaBd18
import Derived.Test.YtddkhkpdbjjboaaBd11
import Derived.Test.YtddkhkpdbjjboaaBd5
import Derived.Deep.Cut
import Derived.Test.YtddkhkpdbjjboaaBd8
import Derived.Test.YtddkhkpdbjjboaaRows
import Derived.ProofKit
import Derived.OpenShut
import Derived.ChangeSame
import Derived.Deep.Slices
import Derived.SizedLaws
import Derived.Test.YtddkhkpdbjjboaaBd1
import Derived.ShutString
import Derived.ChangeOld
import Derived.JoinedCond
import Derived.Deep.SlicePairs
import Derived.Deep.Fields
import Derived.Test.YtddkhkpdbjjboaaBd2
import Derived.Lib.SmallJoins
import Derived.Test.YtddkhkpdbjjboaaBd9
/- scan.Decode: its contract. -/
namespace Go.Proofs.Ytddkhkpdbjjboaa
open Go.RowKit
set_option linter.unusedVariables false
set_option linter.unusedSimpArgs false
set_option maxRecDepth 100000

theorem rowsC_oneD {L : List (List Int)} : ∀ u ∈ rowsC L, u.oneCell' = true := by
  intro u hu
  obtain ⟨r, _, hr⟩ := List.mem_flatMap.1 hu
  exact ints_one u hr
set_option maxRecDepth 100000 in
set_option maxHeartbeats 2000000 in
theorem scanDecode_any : DecSpec := by
  intro cs syms A c cs2 syms2 A2 c2 G bs A3 c3 n every w hTI hby hl hcap3 hs3 hG
  obtain ⟨hcs, hn, hcap, hb, hs, hcs2, hn2, hcap2, hb2, hs2⟩ := hTI
  have h34 : (tabsCells cs A syms.length c cs2 A2 syms2.length c2).length = 34 := by unfold tabsCells; rw [List.length_append, tabCells_length hcs, tabCells_length hcs2]
  have HPi := veil (fun W h1 h2 h3 hG => scanSplit_any cs syms A c cs2 syms2 A2 c2 G bs A3 c3 n every W hcs hn hb h1 hcs2 hn2 hb2 h2 h3 hby (by omega) hG)
  have HDe := veil (fun p A' c' (m : Nat) G' W (h1 : Seen W G' A (ints .i64 syms)) h2 h3 (hp : Bytes p) (hpl : p.length ≤ 1048576) hG' => segDecode_any cs syms A c cs2 syms2 A2 c2 G' p A' c' (m : Int) W hcs hn hb h1 hcs2 hn2 hb2 h2 h3 hp (by omega) hG')
  have HRo := veil (fun (p : List Int) (hp : Bytes p) (m : Int) => oDec_rows (cs := cs) (syms := syms) (cs2 := cs2) (syms2 := syms2) hcs hcs2 hp m)
  have hb0 := below1 w (.cells (tabsCells cs A syms.length c cs2 A2 syms2.length c2).toArray 27)
  have hz0 : (w.alloc (.cells (tabsCells cs A syms.length c cs2 A2 syms2.length c2).toArray 27)).heap.size = w.heap.size + 1 := by simp
  have hTB := Blk.new w (tabsCells cs A syms.length c cs2 A2 syms2.length c2) 27
  have HPB := veil (fun p (h : p ∈ splitP bs) => (⟨splitP_bytes hby h, Nat.le_trans (splitP_in h).1 hl⟩ : Bytes p ∧ p.length ≤ 1048576))
  obtain ⟨E, hE⟩ : ∃ E, E = eScD cs syms cs2 syms2 bs n every := ⟨_, rfl⟩
  obtain ⟨O, hO⟩ : ∃ O, O = oScD cs syms cs2 syms2 bs n every := ⟨_, rfl⟩
  rw [← hE, ← hO]
  have HOe : Hid (E ≠ 0 → O = []) := by show _ → _; intro h; rw [hO]; exact oScD_err (by rw [← hE]; exact h)
  have HE := veil hE
  have HO := veil hO
  have H34 := veil h34
  have Hl := veil hl
  clear hcs hcs2 hb hb2 hE hO h34 hl hn hn2 hcap hcap2 hby
  unfold tabsV at HPi HDe ⊢
  generalize tabsCells cs A syms.length c cs2 A2 syms2.length c2 = zs at *
  have hr0 := hTB.range
  go_enter Try.func10, Try.ntmps10
  go_wp2_with (first
    | (refine wpList_load_mid rfl 27 (.tmp 4) rfl w.heap.size 0 rfl zs _ hr0 Try.underlying27 rfl (by rw [H34.out]; kernel_rfl) ?_)
    | fail)
  refine (HPi.out _ (hs.below hb0 hG) (hs2.below hb0 hG) (hs3.below hb0 hG) (by rw [hz0]; omega)).mono ?_
  rintro e w1 ⟨vs, Ap, cp, Am, cm, rfl, hsr, hsp', hsm', hb1⟩
  have hTB1 := hTB.below hb1 (by rw [hz0]; omega)
  have hbw1 := hb0.trans (hb1.mono (by rw [hz0]; omega))
  have hz1 := hb1.size
  rw [hz0] at hz1
  clear hr0 hb0 HPi hb1 hTB
  by_cases h0 : eHead cs syms cs2 syms2 bs n every = 0
  · have hP1 : headP cs syms cs2 syms2 bs n every = splitP bs := if_pos h0
    have hM1 : headM cs syms cs2 syms2 bs n every = splitM bs := if_pos h0
    rw [h0]
    rw [hP1] at hsr
    rw [hM1] at hsm' ⊢
    obtain ⟨hrg, hT0, hsp0⟩ := eHead_zero h0
    obtain ⟨Ev, hEv, hEv100⟩ : ∃ Ev : Nat, every = (Ev : Int) ∧ Ev ≤ 100 := ⟨every.toNat, by omega, by omega⟩
    obtain ⟨Nn, hNn, hNn400⟩ : ∃ Nn : Nat, n = (Nn : Int) ∧ Nn ≤ 400 := ⟨n.toNat, by omega, by omega⟩
    subst hEv hNn
    have hcnt := (splitP_count hsp0).2
    have hcn1 := (splitP_count hsp0).1
    have HC1 := veil (fun h2 => HE.out.trans (eScD_count (bs := bs) h0 h2))
    have HC2 := veil (fun h2 h3 => HE.out.trans (eScD_mark (bs := bs) h0 h2 h3))
    have HC3 := veil (fun h2 h3 => HE.out.trans (eScD_segs (bs := bs) h0 h2 h3))
    have HC4 : Hid (E = 0 → O = ((((splitP bs).zip (partsN Nn Ev)).map fun x => oDec cs syms cs2 syms2 x.1 x.2).flatten)) := by
      show _ → _
      intro h
      have h9 := HO.out.trans (if_pos (by rw [← HE.out]; exact h))
      rw [Int.toNat_natCast, Int.toNat_natCast] at h9
      exact h9
    unfold eSegs at HC3
    rw [Int.toNat_natCast, Int.toNat_natCast] at HC1 HC2 HC3
    have HPa := veil (sizes_any Nn Ev w1 (by omega) (by omega))
    have hps := partsN_sum Nn Ev
    have hpi := partsN_in Nn Ev
    have hpl := partsN_len Nn Ev
    obtain ⟨ps, hpsd⟩ : ∃ ps, ps = partsN Nn Ev := ⟨_, rfl⟩
    rw [← hpsd] at HC1 HC2 HC3 HC4 HPa hps hpi hpl
    have Hps := veil hps; have Hpi := veil hpi
    have hbl := Hl.out
    have hsrl := hsr.1
    obtain ⟨ms, hms⟩ : ∃ ms, ms = splitM bs := ⟨_, rfl⟩
    obtain ⟨pp, hpp⟩ : ∃ pp, pp = splitP bs := ⟨_, rfl⟩
    rw [← hms] at HC2 HC3 hsm' hcnt hcn1 ⊢
    rw [← hpp] at HC1 HC2 HC3 HC4 HPB hsr hsrl hcn1
    have Hcn1 := veil hcn1
    have Hsrl := veil hsrl
    clear hpsd hps hpi h0 hP1 hM1 hrg hT0 hsp0 HE HO hms hpp hsrl hcn1
    go_wp2_with fail
    refine HPa.out.mono ?_
    rintro e w2 ⟨lv, rfl, HOp, hb2⟩
    obtain ⟨Al, cl, hlv, hsl, _, _⟩ := HOp.seen (List.mem_cons_self ..)
    have hvv : lv = .slice Al ps.length cl := by
      have h9 : lv = .slice Al (ps.map Int.ofNat).length cl := hlv
      rw [List.length_map] at h9; exact h9
    subst lv
    have hz2 := hb2.size
    have hbw2 := hbw1.trans (hb2.mono hbw1.size)
    have Hsl : Hid (Seen w2 w2.heap.size Al (ints .i64 (ps.map Int.ofNat))) := hsl
    have HTB := veil (hTB1.below hb2 (by omega))
    have Hsp := veil ((hsp'.below hb2 (Nat.le_refl _)).up hz2)
    have Hsm := veil ((hsm'.below hb2 (Nat.le_refl _)).up hz2)
    have Hsr := veil ((hsr.below hb2 (Nat.le_refl _)).up hz2)
    have Hs := veil ((hs.below hbw2 hG).up (show G ≤ w2.heap.size by omega)); have Hs2 := veil ((hs2.below hbw2 hG).up (show G ≤ w2.heap.size by omega))
    have Hbw2 := veil hbw2
    have hT2 : w.heap.size < w2.heap.size := by omega
    have hG2 : G ≤ w2.heap.size := by omega
    have hvl : vs.length ≤ 1048577 := by have h1 := Hsrl.out; have h2 := Hcn1.out; omega
    clear HPa HOp hlv hsl hb2 hTB1 hsp' hsm' hsr hs hs2 hs3 hbw1 hbw2 hz1
    by_cases hcn : ps.length = vs.length
    · have hne : ((vs.length : Int) != (ps.length : Int)) = false := by simp; omega
      have HM0 : Hid (∀ (j : Nat) (m : Int), j < 0 → ms[j]? = some m → m = 208 + ((j % 8 : Nat) : Int)) := by show ∀ (j : Nat) (m : Int), _; intro j m h; omega
      have Hcn := veil hcn
      clear hcn
      go_wp2_with fail
      go_loopg [14, 15, 43] ms.length (fun gk kv mv iv wr => ∃ k : Nat, gk = ms.length - k ∧ k ≤ ms.length ∧ iv = .int .i64 (k : Int) ∧ Hid (∀ (j : Nat) (m : Int), j < k → ms[j]? = some m → m = 208 + ((j % 8 : Nat) : Int)) ∧ w2 = wr)
      case atStart => exact ⟨0, rfl, Nat.zero_le _, rfl, HM0, rfl⟩
      case round =>
        clear HM0
        obtain ⟨k, rfl, hk, rfl, HMk, rfl⟩ := hrel
        by_cases hlt : k < ms.length
        · have hltz : (k : Int) < (ms.length : Int) := by omega
          obtain ⟨gm, om, x, rfl, hgm, hx, hcx⟩ := Hsm.out.int hlt
          obtain ⟨q, hq⟩ : ∃ q : Nat, q = k % 8 := ⟨_, rfl⟩
          have hq8 : q < 8 := by omega
          have hqz : (k : Int) % 8 = (q : Int) := by omega
          have Hx := veil hx
          have HMa := veil (marker_any (k : Int) q (by omega) (by omega) (by omega) w2)
          by_cases hxq : x = 208 + (q : Int)
          · have hbx : (x != 208 + (q : Int)) = false := by simpa using hxq
            have HM2 : Hid (∀ (j : Nat) (m : Int), j < k + 1 → ms[j]? = some m → m = 208 + ((j % 8 : Nat) : Int)) := by
              show ∀ (j : Nat) (m : Int), _
              intro j m hj hm
              by_cases hjk : j < k
              · exact HMk.out j m hjk hm
              · obtain rfl : j = k := by omega
                rw [Hx.out] at hm
                injection hm with hm
                rw [← hm, hxq, hq]
            subst hxq
            clear hx hq hbx
            go_wp2_with fail
            refine HMa.out.mono ?_
            rintro e w9 ⟨rfl, hw9⟩
            have hw9' : w9 = w2 := hw9
            subst w9
            clear HMa
            go_wp2_with fail
            go_roundg (ms.length - (k + 1))
            case rel => exact ⟨k + 1, rfl, by omega, by go_num, HM2, rfl⟩
            case measure => omega
          · have hbx : (x != 208 + (q : Int)) = true := by simpa using hxq
            have hE1 := HC2.out (by rw [← Hsrl.out]; exact Hcn.out) (marksB_bad Hx.out (by rw [← hq]; exact hxq))
            have hO1 := HOe.out (by rw [hE1]; decide)
            have HE1 := veil hE1
            have HO1 := veil hO1
            clear hE1 hO1 hx hq hxq
            go_wp2_with fail
            refine HMa.out.mono ?_
            rintro e w9 ⟨rfl, hw9⟩
            have hw9' : w9 = w2 := hw9
            subst w9
            clear HMa
            go_wp2_with fail
            go_ret2
            exact ⟨_, ret_two rfl (by rw [HE1.out]; rfl), by rw [HO1.out]; exact (Owns.nil Hbw2.out.size).fresh _ _, Hbw2.out⟩
        · obtain rfl : k = ms.length := by omega
          have hmB : marksB ms = true := (marksB_iff ms).2 fun j m hm => HMk.out j m (List.getElem?_eq_some_iff.1 hm).1 hm
          have HEs := veil (HC3.out (by rw [← Hsrl.out]; exact Hcn.out) hmB)
          have hzl : (pp.zip ps).length = ps.length := by rw [List.length_zip, ← Hsrl.out, ← Hcn.out]; omega
          have Hzl := veil hzl
          have HZ0 : Hid (∀ x ∈ (((pp.zip ps).map fun x => eDec cs syms cs2 syms2 x.1 x.2).take 0), x = 0) := by show ∀ x ∈ _, _; simp
          have HA0 : Hid (([] : List (List Int)) = (((pp.zip ps).map fun x => oDec cs syms cs2 syms2 x.1 x.2).take 0).flatten) := by show _ = _; simp
          obtain ⟨cur, hmk, hcur⟩ := run_make_blocks Nn (by omega) w2
          have hO0 : Owns w2.heap.size [blkRow (.slice (some ⟨w2.heap.size, 0, none⟩) 0 Nn) []] (w2.alloc (.cells cur 42)) := (Owns.start w2).made 42 64 cur Nn (by unfold maxLen; omega) hcur
          have HO0 := veil hO0
          have hbr0 : Below w2.heap.size w2 (w2.alloc (.cells cur 42)) := below1 w2 (.cells cur 42)
          have Hbr0 := veil hbr0
          clear hmB HMk HC1 HC2 HC3 Hsm hzl hO0 hbr0 hlt hcur
          go_wp2_with fail
          go_loopg [16, 17, 18, 19, 20, 57] ps.length (fun gk ov kv nv bv ev iv wr => ∃ (k : Nat) (acc : List (List Int)), gk = ps.length - k ∧ k ≤ ps.length ∧ iv = .int .i64 (k : Int) ∧ Hid (∀ x ∈ (((pp.zip ps).map fun x => eDec cs syms cs2 syms2 x.1 x.2).take k), x = 0) ∧ Hid (acc = (((pp.zip ps).map fun x => oDec cs syms cs2 syms2 x.1 x.2).take k).flatten) ∧ acc.length = (ps.take k).sum ∧ Hid (Owns w2.heap.size [blkRow ov acc] wr) ∧ Hid (Below w2.heap.size w2 wr))
          case atStart => exact ⟨0, [], rfl, Nat.zero_le _, rfl, HZ0, HA0, by simp, HO0, Hbr0⟩
          case round =>
            clear HZ0 HA0 HO0 Hbr0
            obtain ⟨k, acc, rfl, hk, rfl, HZ, HA, hal, HOo, Hbr⟩ := hrel
            obtain ⟨Wr, hWr⟩ : ∃ Wr, Wr = wr := ⟨_, rfl⟩
            subst hWr
            have hzr := Hbr.out.size
            by_cases hlt : k < ps.length
            · have hltz : (k : Int) < (ps.length : Int) := by omega
              obtain ⟨gl, ol, x, rfl, hgl, hx, hcx⟩ := (Hsl.out.below Hbr.out (Nat.le_refl _)).int (k := k) (by rw [List.length_map]; exact hlt)
              obtain ⟨m, hm⟩ := some_at hlt
              obtain rfl : x = (m : Int) := by rw [List.getElem?_map, hm] at hx; simpa using hx.symm
              have hm400 := Hpi.out m (List.mem_of_getElem? hm)
              obtain ⟨A5, c5, p, hv5, hp5, hs5, hl5⟩ := (Hsr.out.below Hbr.out (Nat.le_refl _)).at (j := k) (by have h1 := Hsrl.out; have h2 := Hcn.out; omega)
              obtain ⟨gp, op, rfl, hgp, hcp⟩ := (Hsp.out.below Hbr.out (Nat.le_refl _)).cell hv5
              obtain ⟨hpb, hpl5⟩ := HPB.out p (List.mem_of_getElem? hp5)
              have hze : ((pp.zip ps).map fun x => eDec cs syms cs2 syms2 x.1 x.2)[k]? = some (eDec cs syms cs2 syms2 p m) := by rw [List.getElem?_map, zip_at hp5 hm]; rfl
              have hzo : ((pp.zip ps).map fun x => oDec cs syms cs2 syms2 x.1 x.2)[k]? = some (oDec cs syms cs2 syms2 p m) := by rw [List.getElem?_map, zip_at hp5 hm]; rfl
              obtain ⟨hrow, hcount⟩ := HRo.out p hpb (m : Int)
              have hbd : Below w2.heap.size w2 Wr.drew := Hbr.out.drew
              have hC := HDe.out p A5 c5 m w2.heap.size Wr.drew (Hs.out.below hbd (Nat.le_refl _)) (Hs2.out.below hbd (Nat.le_refl _)) (hs5.below (Below.refl w2.heap.size Wr).drew (Nat.le_refl _)) hpb hpl5 (by show w2.heap.size ≤ Wr.heap.size; omega)
              have hTBr := HTB.out.below Hbr.out hT2
              have hst : (ps.take (k + 1)).sum = (ps.take k).sum + m := by rw [fc_snoc hm]; simp
              have hsk := take_sum_le ps (k + 1)
              rw [Hps.out] at hsk
              obtain ⟨er, her⟩ : ∃ er, er = eDec cs syms cs2 syms2 p m := ⟨_, rfl⟩
              obtain ⟨ob, hob⟩ : ∃ ob, ob = oDec cs syms cs2 syms2 p m := ⟨_, rfl⟩
              rw [← her] at hC hze hcount
              rw [← hob] at hC hzo hrow hcount
              have HC := veil hC; have Hze := veil hze; have Hzo := veil hzo; have Hrow := veil hrow; have Hcount := veil hcount
              have Hst := veil hst; have Hsk := veil hsk
              clear hC hze hzo hrow hcount her hob hx hm hv5 hp5 hs5 hl5 hpb hpl5 hbd hst hsk
              go_upto_region 17 with fail
              refine wp_region_held_drew (S := fun w' => Blk w' w.heap.size zs 27 ∧ w'.cell? ⟨gp, op + k, none⟩ = some (.slice A5 p.length c5)) (by kernel_rfl) ⟨hTBr, hcp⟩ (fun hHeld0 => ?_)
              refine take_load 0 63 27 (.tmp 4) w.heap.size 0 zs _ rfl rfl (by kernel_rfl) (by kernel_rfl) (by kernel_rfl) (fun _ _ _ h => h) rfl rfl rfl (fun w' h => h.1.range) Try.underlying27 rfl (by rw [H34.out]; kernel_rfl) hHeld0 rfl ?_
              refine take_pure 1 64 (.slice (some ⟨gp, op, none⟩) vs.length cp) _ rfl rfl (by kernel_rfl) (by kernel_rfl) (by kernel_rfl) (fun _ _ _ h => h) rfl (fun w' hS => by go_simp) hHeld0 rfl ?_
              refine take_pure 2 65 (.int .i64 (k : Int)) _ rfl rfl (by kernel_rfl) (by kernel_rfl) (by kernel_rfl) (fun _ _ _ h => h) rfl (fun w' hS => by go_simp) hHeld0 rfl ?_
              have hkv : (k : Int) < (vs.length : Int) := by have := Hcn.out; omega
              refine take_pure 3 66 (.pointer (some ⟨gp, op + k, none⟩)) _ rfl rfl (by kernel_rfl) (by kernel_rfl) (by kernel_rfl) (fun _ _ _ h => h) rfl (fun w' hS => by go_simp) hHeld0 rfl ?_
              refine take_pure 4 67 (.slice A5 p.length c5) _ rfl rfl (by kernel_rfl) (by kernel_rfl) (by kernel_rfl) (fun _ _ _ h => h) rfl (fun w' hS => by have hc9 := hS.2; go_simp) hHeld0 rfl ?_
              refine take_pure 5 68 (.int .i64 (m : Int)) _ rfl rfl (by kernel_rfl) (by kernel_rfl) (by kernel_rfl) (fun _ _ _ h => h) rfl (fun w' hS => by go_simp) hHeld0 rfl ?_
              refine wpAnyH_ready (rs := [6]) (by kernel_rfl) (by simp) ?_
              refine AllReadyH.cons rfl (fun K hK => ?_) AllReadyH.nil
              go_simp
              refine HC.out.mono ?_
              rintro e w5 ⟨v5, rfl, HO5, hb5⟩
              have hb5' : Below Wr.heap.size Wr w5 := below_of_drew hb5
              refine hK.out _ _ ⟨hHeld0.1.below hb5 hHeld0.1.lt, (hb5.cell (by show gp < Wr.heap.size; omega)).trans hHeld0.2⟩ (fun hHeld1 => ?_)
              clear hK K
              refine take_pure 7 62 (.tuple #[v5, .int .i64 er]) _ rfl rfl (by kernel_rfl) (by kernel_rfl) (by kernel_rfl) (fun _ _ _ h => h) rfl (fun w' hS => by go_simp) hHeld1 rfl ?_
              refine take_pure 8 70 v5 _ rfl rfl (by kernel_rfl) (by kernel_rfl) (by kernel_rfl) (fun _ _ _ h => h) rfl (fun w' hS => by go_simp) hHeld1 rfl ?_
              refine take_pure 9 71 (.int .i64 er) _ rfl rfl (by kernel_rfl) (by kernel_rfl) (by kernel_rfl) (fun _ _ _ h => h) rfl (fun w' hS => by go_simp) hHeld1 rfl ?_
              refine take_pure 10 19 v5 _ rfl rfl (by kernel_rfl) (by kernel_rfl) (by kernel_rfl) (fun _ _ _ h => h) rfl (fun w' hS => by go_simp) hHeld1 rfl ?_
              refine take_pure 11 20 (.int .i64 er) _ rfl rfl (by kernel_rfl) (by kernel_rfl) (by kernel_rfl) (fun _ _ _ h => h) rfl (fun w' hS => by go_simp) hHeld1 rfl ?_
              refine wpAnyH_done (by kernel_rfl) ?_ _
              obtain ⟨A6, c6, hv6, hs6, hc6, hm6⟩ := HO5.seen (List.mem_cons_self ..)
              obtain rfl : v5 = .slice A6 ob.length c6 := hv6
              have hz5 := hb5'.size
              have Hbr5 := veil (Hbr.out.trans (hb5'.mono hzr))
              have HO6 := HOo.out.below hb5'
              have Hs6 := veil hs6
              clear HO5 hb5 hb5' hs6 hHeld0 hHeld1 hTBr HC HOo hcp hcx
              by_cases he : er = 0
              · subst he
                have hoc := Hcount.out rfl
                have hoc' : ob.length = m := by omega
                have hrl := rowsC_length Hrow.out
                have Hrl := veil hrl
                have HZ2 : Hid (∀ x ∈ (((pp.zip ps).map fun x => eDec cs syms cs2 syms2 x.1 x.2).take (k + 1)), x = 0) := mem_snoc Hze.out HZ.out rfl
                have HA2 : Hid (acc ++ ob = (((pp.zip ps).map fun x => oDec cs syms cs2 syms2 x.1 x.2).take (k + 1)).flatten) := by show _ = _; rw [take_snoc Hzo.out, List.flatten_append, ← HA.out]; simp
                have hsum := Hst.out
                have hsk := Hsk.out
                have hal2 : (acc ++ ob).length = (ps.take (k + 1)).sum := by rw [List.length_append]; omega
                have Hal2 := veil hal2
                have hab : acc.length + ob.length ≤ 400 := by omega
                clear hoc hrl hsum hsk hal2 hal hoc'
                go_wp2_with (first
                  | (at_builtin; go_loud (refine wpList_ownV w5 rfl (.tmp 75) (.tmp 76) _ rfl w2.heap.size 42 64 512 elem_blk u16 acc.length (rowsC acc) [] rfl HO6 w5.heap.size A6 ob.length c6 (rowsC ob) rfl Hs6.out Hrl.out rowsC_oneD (by unfold maxLen; omega) (by omega) ?_); intro v7 w7 HO7 hb7)
                  | fail)
                go_roundg (ps.length - (k + 1))
                case rel => exact ⟨k + 1, acc ++ ob, rfl, by omega, by go_num, HZ2, HA2, Hal2.out, veil (by rw [blkRow_append] at HO7; exact HO7), veil (Hbr5.out.trans hb7)⟩
                case measure => omega
              · have hE1 : E = er := HEs.out.trans (firstE_at HZ.out Hze.out he)
                have hO1 := HOe.out (by rw [hE1]; exact he)
                have HE1 := veil hE1
                have HO1 := veil hO1
                have hbe : (er != 0) = true := by simpa using he
                have hfin := Hbw2.out.trans (Hbr5.out.mono (by omega))
                clear hE1 hO1 he
                go_wp2_with fail
                go_ret2
                exact ⟨_, ret_two rfl (by rw [HE1.out]; rfl), by rw [HO1.out]; exact (Owns.nil hfin.size).fresh _ _, hfin⟩
            · obtain rfl : k = ps.length := by omega
              have hz := HZ.out
              rw [List.take_of_length_le (by rw [List.length_map, Hzl.out]; omega)] at hz
              have hE1 : E = 0 := HEs.out.trans ((firstE_zero _).2 hz)
              have hO1 := HC4.out hE1
              have hj := HA.out
              rw [List.take_of_length_le (by rw [List.length_map, Hzl.out]; omega)] at hj
              rw [← hj] at hO1
              have HE1 := veil hE1
              have HO1 := veil hO1
              have hfin := Hbw2.out.trans (Hbr.out.mono (by omega))
              clear hE1 hO1 hz hj
              go_wp2_with fail
              go_ret2
              exact ⟨_, ret_two rfl (by rw [HE1.out]; rfl), by rw [HO1.out]; exact HOo.out.down (by omega), hfin⟩
    · have hE1 := HC1.out (by rw [← Hsrl.out]; exact hcn)
      have hO1 := HOe.out (by rw [hE1]; decide)
      have HE1 := veil hE1
      have HO1 := veil hO1
      have hne : ((vs.length : Int) != (ps.length : Int)) = true := by simp; omega
      clear hE1 hO1
      go_wp2_with fail
      go_ret2
      exact ⟨_, ret_two rfl (by rw [HE1.out]; rfl), by rw [HO1.out]; exact (Owns.nil Hbw2.out.size).fresh _ _, Hbw2.out⟩
  · have hE1 := HE.out.trans (eScD_head h0)
    have hO1 := HOe.out (by rw [hE1]; exact h0)
    have HE1 := veil hE1
    have HO1 := veil hO1
    have hne : (eHead cs syms cs2 syms2 bs n every != 0) = true := by simpa using h0
    obtain ⟨er, her⟩ : ∃ er, er = eHead cs syms cs2 syms2 bs n every := ⟨_, rfl⟩
    rw [← her] at HE1 hne ⊢
    clear hE1 hO1 h0 her hsm' hsr
    generalize (headM cs syms cs2 syms2 bs n every).length = ml at *
    go_wp2_with fail
    go_ret2
    exact ⟨_, ret_two rfl (by rw [HE1.out]; rfl), by rw [HO1.out]; exact (Owns.nil hbw1.size).fresh _ _, hbw1⟩
end Go.Proofs.Ytddkhkpdbjjboaa

/- From the form's reading of a slice of structs or arrays of integers to the words of Mem. -/
namespace Go.Proofs.Ytddkhkpdbjjboaa
open Go.RowKit Go.ChangeShapes Go.WideShapes Go.ChangeAt Go.Deep
set_option linter.unusedVariables false
set_option linter.unusedSimpArgs false
set_option maxRecDepth 100000

section
variable {H : Type} {enc : TypeId × Value → H}
/-- A slice whose elements are n integers each. -/
theorem openRows {W : World} {t e : TypeId} {n : Nat} {a : Option Addr} {len cap : Nat} {d : DataW H} {p : List MemPlace} {sp : Nat → Bool} {hd : Bool}
    (ht : Try.prog.underlying t = some (.slice e)) (hn : Try.prog.cellsOf e = n) (hp : 0 < n)
    (hel : ∀ (fuel : Nat) (cs : List Value) (x : DataW H × List MemPlace), DataW.trod enc Try.prog W 0 sp hd fuel e cs = some x → ∃ is : List Int, cs = ints .i64 is ∧ is.length = n ∧ ∀ c ∈ is, (Lit.int .i64 c).wf = true)
    (h : DataW.Trod enc Try.prog W 0 sp hd t (.slice a len cap) d p) :
    ∃ L : List (List Int), len = L.length ∧ Seen W W.heap.size a (rowsC L) ∧ (∀ r ∈ L, r.length = n ∧ ∀ c ∈ r, (Lit.int .i64 c).wf = true) ∧ L.length ≤ maxLen ∧ cap ≤ maxLen ∧ L.length ≤ cap := by
  obtain ⟨fuel, hf⟩ := h
  rcases open_slice ht hf with ⟨hcs, _⟩ | ⟨x, l, c, m, k, D, Pl, hcs, _, hl, hm, hmm, hx, hi⟩
  · simp [Value.cells] at hcs
    obtain ⟨rfl, rfl, rfl⟩ := hcs
    exact ⟨[], rfl, .inl rfl, by simp, Nat.zero_le _, Nat.zero_le _, Nat.zero_le _⟩
  · simp [Value.cells] at hcs
    obtain ⟨rfl, rfl, rfl⟩ := hcs
    have hlm : len ≤ m := by rw [hmm]; split <;> omega
    have each : ∀ i, i < len → ∃ is : List Int, is.length = n ∧ (∀ c ∈ is, (Lit.int .i64 c).wf = true) ∧ ∀ j u, (ints .i64 is)[j]? = some u → W.cell? (x.add (i * n + j)) = some u := by
      intro i hil
      obtain ⟨cs', h1, h2⟩ := hi i (by omega)
      obtain ⟨is, rfl, h3, h4⟩ := hel _ _ _ h2
      rw [hn] at h1
      obtain ⟨_, hlen, hcell⟩ := World.cells?_some h1
      refine ⟨is, h3, h4, fun j u hu => ?_⟩
      have hj : j < n := by have := (List.getElem?_eq_some_iff.1 hu).1; rw [ints_length] at this; omega
      have h5 := hcell j hj
      rw [add_add] at h5
      rw [h5]
      simpa using hu
    obtain ⟨q, hq⟩ := choose_lt each
    have hlens : ∀ r ∈ (List.range len).map q, r.length = n := by
      intro r hr
      obtain ⟨i, hi', rfl⟩ := List.mem_map.1 hr
      exact (hq i (by simpa using hi')).1
    refine ⟨(List.range len).map q, by simp, ?_, ?_, by simp; omega, hm, by simpa using hl⟩
    · by_cases hz : len = 0
      · subst hz; exact .inl rfl
      · obtain ⟨v0, hv0⟩ := some_at (xs := ints .i64 (q 0)) (j := 0) (by rw [ints_length, (hq 0 (by omega)).1]; exact hp)
        have h1 := (hq 0 (by omega)).2.2 0 v0 hv0
        have hsp := World.cell?_spot h1
        have hb := World.block_lt_of_cell? W _ h1
        obtain ⟨b, o, s⟩ := x
        simp [Addr.add] at hsp hb
        subst hsp
        refine .inr ⟨b, o, rfl, hb, fun j u hu => ?_⟩
        have hjl := (List.getElem?_eq_some_iff.1 hu).1
        rw [rowsC_length hlens, List.length_map, List.length_range] at hjl
        have hi' : j / n < len := Nat.div_lt_of_lt_mul (by rw [Nat.mul_comm]; exact hjl)
        have hjn : j % n < n := Nat.mod_lt _ hp
        have hdm : j / n * n + j % n = j := by rw [Nat.mul_comm]; exact Nat.div_add_mod j n
        have hg : ((List.range len).map q)[j / n]? = some (q (j / n)) := by simp [hi']
        have h6 := rowsC_at hlens hg hjn
        rw [hdm] at h6
        rw [h6] at hu
        have h7 := (hq _ hi').2.2 _ _ hu
        rw [hdm] at h7
        have add' : (⟨b, o, none⟩ : Addr).add j = ⟨b, o + j, none⟩ := by
          unfold Addr.add; split
          · rename_i e; subst e; rfl
          · rfl
        rw [add'] at h7
        exact h7
    · intro r hr
      obtain ⟨i, hi', rfl⟩ := List.mem_map.1 hr
      exact ⟨(hq i (by simpa using hi')).1, (hq i (by simpa using hi')).2.1⟩
end
end Go.Proofs.Ytddkhkpdbjjboaa

/- From the form's readings of the arguments to the words of Mem: slices of integers, slices of structs of integers. -/
namespace Go.Proofs.Ytddkhkpdbjjboaa
open Go.RowKit Go.ChangeShapes Go.WideShapes Go.ChangeAt Go.Deep
set_option linter.unusedVariables false
set_option linter.unusedSimpArgs false
set_option maxRecDepth 100000

theorem own : ownKnob Try.prog.godebug = none := by kernel_rfl
theorem laidOut : laidOutB Try.prog = true := by kernel_rfl

section
variable {H : Type} {enc : TypeId × Value → H}

end
end Go.Proofs.Ytddkhkpdbjjboaa

/- From the form's reading of a table that came in to its counts and its symbols. -/
namespace Go.Proofs.Ytddkhkpdbjjboaa
open Go.RowKit Go.ChangeShapes Go.WideShapes Go.ChangeAt Go.Deep
set_option linter.unusedVariables false
set_option linter.unusedSimpArgs false
set_option maxRecDepth 100000
section
variable {H : Type} {enc : TypeId × Value → H}
theorem take_drop_one {α : Type} {l : List α} {i : Nat} {x : α} (h : l[i]? = some x) : (l.drop i).take 1 = [x] := by
  obtain ⟨hi, e⟩ := List.getElem?_eq_some_iff.1 h
  rw [List.drop_eq_getElem_cons hi, e]; rfl
/-- Cells that read as an array of integers. -/
theorem openArr {W : World} {t e : TypeId} {k : IntKind} {n fuel : Nat} {l : List Value} {x : DataW H × List MemPlace} {sp : Nat → Bool} {hd : Bool}
    (ht : Try.prog.underlying t = some (.array n e)) (he : Try.prog.underlying e = some (.int k)) (hc : Try.prog.cellsOf e = 1) (hct : Try.prog.cellsOf t = n)
    (h : DataW.trod enc Try.prog W 0 sp hd fuel t l = some x) : ∃ cs : List Int, l = ints k cs ∧ cs.length = n ∧ ∀ c ∈ cs, (Lit.int k c).wf = true := by
  obtain ⟨xs, m, _, _, hl, hx, hi⟩ := DataW.trod_array ht h
  rw [hct] at hl
  rw [hc] at hi
  have each : ∀ i, i < n → ∃ c : Int, l[i]? = some (.int k c) ∧ (Lit.int k c).wf = true := by
    intro i hin
    obtain ⟨v, hv⟩ := some_at (xs := l) (j := i) (by omega)
    have h2 := hi i hin
    rw [Nat.mul_one, take_drop_one hv] at h2
    obtain ⟨y, hy⟩ := some_at (xs := xs) (j := i) (by omega)
    rw [hy] at h2
    obtain ⟨c, e0, _, w0⟩ := DataW.trod_int he h2
    simp at e0
    exact ⟨c, by rw [hv, e0], w0⟩
  obtain ⟨q, hq⟩ := choose_lt each
  refine ⟨(List.range n).map q, ?_, by simp, ?_⟩
  · apply List.ext_getElem?
    intro i
    by_cases hin : i < n
    · rw [(hq i hin).1]; simp [ints, hin]
    · rw [List.getElem?_eq_none (by omega), List.getElem?_eq_none (by simp [ints]; omega)]
  · intro c hc
    obtain ⟨i, hi', rfl⟩ := List.mem_map.1 hc
    exact (hq i (by simpa using hi')).2
end
end Go.Proofs.Ytddkhkpdbjjboaa

/- From the form's reading of two tables, and of a slice of blocks, to the words of Mem. -/
namespace Go.Proofs.Ytddkhkpdbjjboaa
open Go.RowKit Go.ChangeShapes Go.WideShapes Go.ChangeAt Go.Deep
set_option linter.unusedVariables false
set_option linter.unusedSimpArgs false
set_option maxRecDepth 100000
section
variable {H : Type} {enc : TypeId × Value → H}
theorem block_cells {W : World} {sp : Nat → Bool} {hd : Bool} (fuel : Nat) (cs : List Value) (x : DataW H × List MemPlace) (h : DataW.trod enc Try.prog W 0 sp hd fuel 42 cs = some x) : ∃ is : List Int, cs = ints .i64 is ∧ is.length = 64 ∧ ∀ c ∈ is, (Lit.int .i64 c).wf = true :=
  openArr Try.underlying42 Try.underlying3 (by kernel_rfl) (by kernel_rfl) h
/-- The same, with its capacity. -/
theorem openBlocksC {W : World} {a : Option Addr} {len cap : Nat} {d : DataW H} {p : List MemPlace} {sp : Nat → Bool} {hd : Bool} (h : DataW.Trod enc Try.prog W 0 sp hd 28 (.slice a len cap) d p) :
    ∃ L : List (List Int), len = L.length ∧ Seen W W.heap.size a (rowsC L) ∧ (∀ r ∈ L, r.length = 64) ∧ L.length ≤ maxLen ∧ L.length ≤ cap := by
  obtain ⟨L, h1, h2, h3, h4, _, h6⟩ := openRows Try.underlying28 (by kernel_rfl) (by omega) block_cells h
  exact ⟨L, h1, h2, fun r hr => (h3 r hr).1, h4, h6⟩
end
end Go.Proofs.Ytddkhkpdbjjboaa
