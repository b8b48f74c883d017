/- Texts shared by the claims of this seat, in one. -/
import Derived.Test.YtddkhkpdbjjboaaGreatBd11
import Derived.Test.YtddkhkpdbjjboaaGreatBd9
import Derived.Test.YtddkhkpdbjjboaaGreatBd5
import Derived.Test.YtddkhkpdbjjboaaGreatBd4
import Derived.Test.YtddkhkpdbjjboaaGreatBd10
import Derived.Test.YtddkhkpdbjjboaaGreatBd1
import Derived.Laws.CopyOwn
/- seg.Decode: its contract. -/
namespace Go.Proofs.YtddkhkpdbjjboaaGreat
open Go.RowKit
set_option linter.unusedVariables false
set_option linter.unusedSimpArgs false
set_option maxRecDepth 100000

theorem eTs_one {cs syms cs2 syms2 : List Int} (h : checkErr cs syms ≠ 0) : eTs cs syms cs2 syms2 = checkErr cs syms := if_neg h
theorem eTs_two {cs syms cs2 syms2 : List Int} (h : checkErr cs syms = 0) : eTs cs syms cs2 syms2 = checkErr cs2 syms2 := if_pos h
section
variable {cs syms cs2 syms2 bs : List Int} {n : Int}
theorem eDec_tab (h : eTs cs syms cs2 syms2 ≠ 0) : eDec cs syms cs2 syms2 bs n = eTs cs syms cs2 syms2 := if_pos h
theorem eDec_n (h : eTs cs syms cs2 syms2 = 0) (h2 : n < 0 ∨ 400 < n) : eDec cs syms cs2 syms2 bs n = 1 := by unfold eDec; rw [if_neg (by rw [h]; decide), if_pos h2]
theorem eDec_plain (h : eTs cs syms cs2 syms2 = 0) (h2 : ¬ (n < 0 ∨ 400 < n)) (h3 : plainErr bs ≠ 0) : eDec cs syms cs2 syms2 bs n = plainErr bs := by unfold eDec; rw [if_neg (by rw [h]; decide), if_neg h2, if_pos h3]
theorem eDec_dec (h : eTs cs syms cs2 syms2 = 0) (h2 : ¬ (n < 0 ∨ 400 < n)) (h3 : plainErr bs = 0) (h4 : (segD cs syms cs2 syms2 bs n.toNat).1 ≠ 0) : eDec cs syms cs2 syms2 bs n = (segD cs syms cs2 syms2 bs n.toNat).1 := by unfold eDec; rw [if_neg (by rw [h]; decide), if_neg h2, if_neg (by rw [h3]; decide), if_pos h4]
theorem eDec_fill (h : eTs cs syms cs2 syms2 = 0) (h2 : ¬ (n < 0 ∨ 400 < n)) (h3 : plainErr bs = 0) (h4 : (segD cs syms cs2 syms2 bs n.toNat).1 = 0) : eDec cs syms cs2 syms2 bs n = if fillB (segD cs syms cs2 syms2 bs n.toNat).2.2 = true then 0 else 4 := by unfold eDec; rw [if_neg (by rw [h]; decide), if_neg h2, if_neg (by rw [h3]; decide), if_neg (by rw [h4]; decide)]
end
theorem plainR_mem : ∀ (bs p : List Int), plainR bs = some p → ∀ x ∈ p, x ∈ bs
  | [], p, h, x, hx => by simp [plainR] at h; subst h; simp at hx
  | [y], p, h, x, hx => by
    by_cases hy : y = 255
    · subst hy; rw [plainR_end] at h; cases h
    · simp [plainR, hy] at h; subst h; exact hx
  | y :: z :: r, p, h, x, hx => by
    by_cases hy : y = 255
    · subst hy
      by_cases hz : z = 0
      · subst hz
        rw [plainR_lead] at h
        obtain ⟨q, hq, rfl⟩ := Option.map_eq_some_iff.1 h
        rcases List.mem_cons.1 hx with rfl | hx
        · simp
        · have := plainR_mem r q hq x hx; simp [this]
      · rw [plainR_bad hz] at h; cases h
    · rw [plainR_other hy] at h
      obtain ⟨q, hq, rfl⟩ := Option.map_eq_some_iff.1 h
      rcases List.mem_cons.1 hx with rfl | hx
      · simp
      · have := plainR_mem (z :: r) q hq x hx
        exact List.mem_cons_of_mem _ this
theorem plain_bytes {bs : List Int} (h : Bytes bs) : Bytes (plainOut bs) := by
  cases hp : plainR bs with
  | none => rw [(plain_none hp).1]; intro x hx; simp at hx
  | some p => rw [(plain_some hp).1]; exact fun x hx => h x (plainR_mem bs p hp x hx)
theorem plain_length (bs : List Int) : (plainOut bs).length ≤ bs.length := by
  cases hp : plainR bs with
  | none => rw [(plain_none hp).1]; simp
  | some p =>
    have := length_le_stuffB p
    rw [stuffB_plainR bs p hp] at this
    rw [(plain_some hp).1]; exact this
theorem words_pf {cs syms : List Int} (hcs : cs.length = 16) (h : checkErr cs syms = 0) : PF (outWords cs syms) ∧ ∀ t ∈ outWords cs syms, 0 ≤ t.1 ∧ t.1 ≤ 255 := by
  obtain ⟨l, hf, how, hll⟩ := fine_of h
  rw [how]
  exact ⟨hf.pf hcs, fun t ht => (hf.word hcs ht).1⟩
set_option maxRecDepth 100000 in
set_option maxHeartbeats 8000000 in
theorem segDecode_any (cs syms : List Int) (A : Option Addr) (c : Nat) (cs2 syms2 : List Int) (A2 : Option Addr) (c2 G : Nat) (bs : List Int) (A3 : Option Addr) (c3 : Nat) (n : Int) (w : World)
    (hcs : cs.length = 16) (hn : syms.length ≤ maxLen) (hb : ∀ x ∈ cs, -9223372036854775808 ≤ x ∧ x ≤ 9223372036854775807) (hs : Seen w G A (ints .i64 syms))
    (hcs2 : cs2.length = 16) (hn2 : syms2.length ≤ maxLen) (hb2 : ∀ x ∈ cs2, -9223372036854775808 ≤ x ∧ x ≤ 9223372036854775807) (hs2 : Seen w G A2 (ints .i64 syms2))
    (hs3 : Seen w G A3 (ints .u8 bs)) (hby : Bytes bs) (hl : bs.length ≤ 140737488355328) (hG : G ≤ w.heap.size) :
    Calls Tryz.prog 15 #[tabsV cs A syms.length c cs2 A2 syms2.length c2, .slice A3 bs.length c3, .int .i64 n] w fun e w' => ∃ v, e = .returned (.tuple #[v, .int .i64 (eDec cs syms cs2 syms2 bs n)]) ∧ Owns w.heap.size [blkRow v (oDec cs syms cs2 syms2 bs n)] w' ∧ Below w.heap.size w w' := by
  have h17 : (tabCells cs A syms.length c).length = 17 := tabCells_length hcs
  have h17b : (tabCells cs2 A2 syms2.length c2).length = 17 := tabCells_length hcs2
  have HC1 := veil (fun W h hG => symbols_any cs syms A c G W hcs hn hb h hG)
  have HC2 := veil (fun W h hG => symbols_any cs2 syms2 A2 c2 G W hcs2 hn2 hb2 h hG)
  have hb0 := below1 w (.cells (tabsCells cs A syms.length c cs2 A2 syms2.length c2).toArray 27)
  have hz0 : (w.alloc (.cells (tabsCells cs A syms.length c cs2 A2 syms2.length c2).toArray 27)).heap.size = w.heap.size + 1 := by simp
  have hr := range_new w (tabsCells cs A syms.length c cs2 A2 syms2.length c2) 27
  have hr1 := range_left hr
  have hr2 := range_right hr
  rw [h17] at hr2
  have HPl := veil (fun W h hG => plain_any A3 c3 G bs W h hG hl)
  have Hby := veil hby
  have Hcs := veil hcs
  have Hcs2 := veil hcs2
  obtain ⟨E, hE⟩ : ∃ E, E = eDec cs syms cs2 syms2 bs n := ⟨_, rfl⟩
  obtain ⟨O, hO⟩ : ∃ O, O = oDec cs syms cs2 syms2 bs n := ⟨_, rfl⟩
  rw [← hE, ← hO]
  have HOe : Hid (E ≠ 0 → O = []) := by show _ → _; intro h; rw [hO]; exact oDec_err (by rw [← hE]; exact h)
  have HE := veil hE
  have HO := veil hO
  have H17 := veil h17
  have H17b := veil h17b
  have Hl := veil hl
  clear hr h17 h17b hcs hcs2 hb hb2 hby hE hO hl
  unfold tabsV
  unfold tabV at HC1 HC2
  generalize tabsCells cs A syms.length c cs2 A2 syms2.length c2 = zs at *
  generalize tabCells cs A syms.length c = xs at *
  generalize tabCells cs2 A2 syms2.length c2 = ys at *
  go_enter Tryz.func15, Tryz.ntmps15
  go_wp2_with (first
    | (refine wpList_load_mid rfl 25 (.tmp 18) rfl w.heap.size 0 rfl xs _ hr1 Tryz.underlying25 rfl (by rw [H17.out]; exact info_tab) ?_)
    | fail)
  refine (HC1.out _ (hs.below hb0 hG) (by rw [hz0]; omega)).mono ?_
  rintro e w1 ⟨v1, rfl, hok1, hbad1, hb1⟩
  have hr2' := range_below hr2 hb1 (by rw [hz0]; omega)
  have hbw := hb0.trans (hb1.mono (by rw [hz0]; omega))
  have hz1 := hb1.size
  rw [hz0] at hz1
  clear hr1 hr2 hb0 HC1
  by_cases h0 : checkErr cs syms = 0
  · obtain ⟨b1, rfl, hb1l, HM1⟩ := hok1 h0
    rw [h0]
    rw [hz0] at hb1l
    have H0 := veil h0
    have HM1 := veil HM1
    have hb1z := HM1.out.lt
    clear hok1 hbad1 h0 hb1
    go_wp2_with (first
      | (refine wpList_load_mid rfl 25 (.tmp 27) rfl w.heap.size 17 rfl ys _ (by simpa using hr2') Tryz.underlying25 rfl (by rw [H17b.out]; exact info_tab) ?_)
      | fail)
    refine (HC2.out _ (hs2.below hbw hG) (by omega)).mono ?_
    rintro e w2 ⟨v2, rfl, hok2, hbad2, hb2⟩
    have hbw2 := hbw.trans (hb2.mono hbw.size)
    have hz2 := hb2.size
    have HM12 := HM1.out.below hb2 hb1z
    clear hr2' HC2 HM1
    by_cases h0b : checkErr cs2 syms2 = 0
    · obtain ⟨b2, rfl, hb2l, HM2⟩ := hok2 h0b
      rw [h0b]
      have hb2z := HM2.lt
      have HT0 : Hid (eTs cs syms cs2 syms2 = 0) := by show _ = _; rw [eTs_two H0.out]; exact h0b
      have H0b := veil h0b
      have HM1 := veil HM12
      have HM2 := veil HM2
      clear hok2 hbad2 h0b HM12 hb2
      by_cases hrg : n < 0 ∨ 400 < n
      · have hE1 := eDec_n (bs := bs) HT0.out hrg
        rw [← HE.out] at hE1
        have hO1 := HOe.out (by rw [hE1]; decide)
        have HE1 := veil hE1
        have HO1 := veil hO1
        clear hE1 hO1
        by_cases hn0 : n < 0
        · clear hrg
          go_wp2
          go_ret2
          exact ⟨_, ret_two rfl (by rw [HE1.out]; rfl), by rw [HO1.out]; exact (Owns.nil hbw2.size).fresh _ _, hbw2⟩
        · have hn1 : 400 < n := by omega
          clear hrg
          go_wp2
          go_ret2
          exact ⟨_, ret_two rfl (by rw [HE1.out]; rfl), by rw [HO1.out]; exact (Owns.nil hbw2.size).fresh _ _, hbw2⟩
      · have Hrg := veil hrg
        obtain ⟨N, hN, hN400⟩ : ∃ N : Nat, n = (N : Int) ∧ N ≤ 400 := ⟨n.toNat, by omega, by omega⟩
        subst hN
        have hg1 : ¬ (N : Int) < 0 := by omega
        have hg2 : ¬ (400 : Int) < (N : Int) := by omega
        clear hrg
        go_wp2_with fail
        refine (HPl.out _ (hs3.below hbw2 hG) (by omega)).mono ?_
        rintro e w3 ⟨v3, rfl, HO3, hb3⟩
        have hz3 := hb3.size
        have hbw3 := hbw2.trans (hb3.mono hbw2.size)
        have HM13 := HM1.out.below hb3 (by omega)
        have HM23 := HM2.out.below hb3 hb2z
        clear hg1 hg2 HM1 HM2
        by_cases hp : plainErr bs = 0
        · rw [hp]
          obtain ⟨P, hP, hPby, hPl⟩ : ∃ P, P = plainOut bs ∧ Bytes P ∧ P.length ≤ 140737488355328 := ⟨_, rfl, plain_bytes Hby.out, by
            have := plain_length bs
            have := Hl.out
            omega⟩
          rw [← hP] at HO3
          obtain ⟨Ap, cp, e3, hsp, hcp, hmp⟩ := HO3.seen (List.mem_cons_self ..)
          simp only [byteRow, intRow] at e3 hsp hcp
          subst e3
          obtain ⟨fw, hfw⟩ : ∃ fw, fw = outWords cs syms := ⟨_, rfl⟩
          obtain ⟨rw_, hrw⟩ : ∃ rw_, rw_ = outWords cs2 syms2 := ⟨_, rfl⟩
          obtain ⟨hpf1, hsm1⟩ : PF fw ∧ ∀ t ∈ fw, 0 ≤ t.1 ∧ t.1 ≤ 255 := by rw [hfw]; exact words_pf Hcs.out H0.out
          obtain ⟨hpf2, hsm2⟩ : PF rw_ ∧ ∀ t ∈ rw_, 0 ≤ t.1 ∧ t.1 ≤ 255 := by rw [hrw]; exact words_pf Hcs2.out H0b.out
          rw [← hfw] at HM13
          rw [← hrw] at HM23
          have hSD : segD cs syms cs2 syms2 bs N = decS fw rw_ N 0 (unpack P) := by unfold segD; rw [hfw, hrw, hP]
          have HED : Hid ((segD cs syms cs2 syms2 bs N).1 ≠ 0 → E = (segD cs syms cs2 syms2 bs N).1) := fun h => HE.out.trans (eDec_dec HT0.out Hrg.out hp (by rw [Int.toNat_natCast]; exact h))
          have HEF : Hid ((segD cs syms cs2 syms2 bs N).1 = 0 → E = if fillB (segD cs syms cs2 syms2 bs N).2.2 = true then 0 else 4) := fun h => HE.out.trans (by rw [eDec_fill HT0.out Hrg.out hp (by rw [Int.toNat_natCast]; exact h), Int.toNat_natCast])
          have HOO : Hid (E = 0 → O = (segD cs syms cs2 syms2 bs N).2.1) := fun h => HO.out.trans (by unfold oDec; rw [if_pos (by rw [← HE.out]; exact h), Int.toNat_natCast])
          rw [hSD] at HED HEF HOO
          have hbX := below1 w3 (.cells #[.slice Ap P.length cp, .int .i64 0, .map (some b1), .map (some b2)] 64)
          have hTR0 : TR Ap cp w3.heap.size w3.heap.size P b1 syms.length fw b2 syms2.length rw_ (w3.alloc (.cells #[.slice Ap P.length cp, .int .i64 0, .map (some b1), .map (some b2)] 64)) (unpack P) :=
            ⟨0, ⟨Blk.new w3 [.slice Ap P.length cp, .int .i64 0, .map (some b1), .map (some b2)] 64, hsp.below hbX (Nat.le_refl _), hcp, hmp, hPl, by omega, Nat.le_refl _⟩, HM13.below hbX (by omega), HM23.below hbX (by omega), by omega, by omega, rfl⟩
          have HBk := veil (fun (before : Int) W s (h : TR Ap cp w3.heap.size w3.heap.size P b1 syms.length fw b2 syms2.length rw_ W s) (hb : -2047 ≤ before ∧ before ≤ 2047) => segBlock_any Ap cp w3.heap.size w3.heap.size P b1 syms.length fw b2 syms2.length rw_ before W s h hPby hpf1 hsm1 hpf2 hsm2 hb)
          have HFl := veil (fun at_ W (h : Rd Ap cp w3.heap.size w3.heap.size P (.map (some b1)) (.map (some b2)) at_ W) => onlyFill_any Ap cp w3.heap.size w3.heap.size P _ _ at_ W h hPby)
          have HTR0 := veil hTR0
          have hbwX := hbw3.trans (hbX.mono hbw3.size)
          have hzX : (w3.alloc (.cells #[.slice Ap P.length cp, .int .i64 0, .map (some b1), .map (some b2)] 64)).heap.size = w3.heap.size + 1 := by simp
          obtain ⟨cur, hmk, hcur⟩ := run_make_blocks N (by omega) (w3.alloc (.cells #[.slice Ap P.length cp, .int .i64 0, .map (some b1), .map (some b2)] 64))
          obtain ⟨g, hg⟩ : ∃ g, g = w3.heap.size := ⟨_, rfl⟩
          have Hcur := veil hcur
          have HDS0 := veil (DS.start fw rw_ N (unpack P))
          have hgw : w.heap.size ≤ g := by rw [hg]; omega
          have hb1g : b1 < g := by omega
          have hb2g : b2 < g := by omega
          clear HO3 hsp hpf1 hpf2 hsm1 hsm2 hfw hrw HM13 HM23 hSD hP hPby hbX hTR0 hp HPl hs hs2 hs3 hb3 hbw hbw2 hbw3 hcur
          go_wp2_with fail
          clear hmk
          have hrow0 := (Owns.start (w3.alloc (.cells #[.slice Ap P.length cp, .int .i64 0, .map (some b1), .map (some b2)] 64))).made 37 64 cur N (by unfold maxLen; omega) Hcur.out
          rw [hzX] at hrow0
          have hbY := below1 (w3.alloc (.cells #[.slice Ap P.length cp, .int .i64 0, .map (some b1), .map (some b2)] 64)) (.cells cur 37)
          have hTRY := HTR0.out.belowB hbY (by rw [hzX]; omega)
          have hbwY := hbwX.trans (hbY.mono hbwX.size)
          rw [← hg] at HBk HFl hTRY hrow0 ⊢
          have Hg := veil hg
          clear hg
          go_loopg [13, 14, 15, 16, 58] N (fun gk v13 v14 v15 v16 iv wr => ∃ (k : Nat) (acc : List (List Int)) (before : Int) (s : List Bool), gk = N - k ∧ k ≤ N ∧ iv = .int .i64 (k : Int) ∧ v14 = .int .i64 before ∧ Hid (DS fw rw_ N (unpack P) k acc before s) ∧ Hid (TR Ap cp g g P b1 syms.length fw b2 syms2.length rw_ wr s) ∧ Owns (g + 1) [blkRow v13 acc] wr ∧ Below w.heap.size w wr)
          case atStart => exact ⟨0, [], 0, unpack P, rfl, Nat.zero_le _, rfl, rfl, HDS0, hTRY, hrow0, hbwY⟩
          case round =>
            obtain ⟨k, acc, before, s, rfl, hk, rfl, rfl, HDS, HTR, hO, hbw⟩ := hrel
            have hTz := HTR.out.lt
            clear HDS0 hTRY hrow0 hbwY hbY
            by_cases hlt : k < N
            · have hltz : (k : Int) < (N : Int) := by omega
              have HB := veil (HBk.out before wr s HTR.out HDS.out.2.1)
              go_wp2_with fail
              refine HB.out.mono ?_
              rintro e w4 ⟨rfl, hg4, hs4⟩
              have hosl := outBk_length (step := stepS fw rw_) before s
              obtain ⟨D, hD⟩ : ∃ D, D = gB (stepS fw rw_) before s := ⟨_, rfl⟩
              have HD := veil hD
              rw [← hD] at hs4 hosl ⊢
              obtain ⟨er, her⟩ : ∃ er, er = D.1 := ⟨_, rfl⟩
              obtain ⟨os, hos⟩ : ∃ os, os = outBk D := ⟨_, rfl⟩
              have Her := veil her
              have Hos := veil hos
              rw [← her, ← hos]
              rw [← hos] at hosl
              have Hosl : Hid ((ints .i64 os).length = 64) := by show _ = _; rw [ints_length, hosl]
              have hone := ints_one (k := .i64) (l := os)
              have hz4 := hg4.size
              have hO4 := hO.kept hg4 (by omega)
              have hbw4 := hbw.grown hg4 hbw.size (fun j hj => by injection hj with hj; omega)
              have hown := fun j hj => ((hO4.head).lt j hj).2
              have hr5 := range_new w4 (ints .i64 os) 37
              have hb5 := below1 w4 (.cells (ints .i64 os).toArray 37)
              have hO5 := hO4.alloc (.cells (ints .i64 os).toArray 37)
              have hbw5 := hbw4.trans (hb5.mono hbw4.size)
              obtain ⟨zs5, hys⟩ : ∃ zs5, zs5 = ints .i64 os := ⟨_, rfl⟩
              have Hys := veil hys
              have hz0' : zs5[0]? = some (.int .i64 (os.headD 0)) := by
                rw [hys]
                match os, hosl with
                | o :: os, _ => rfl
              unfold blkV
              rw [← hys] at hr5 hb5 hO5 hbw5 Hosl hone ⊢
              clear hD her hos hys HB hO hbw
              by_cases he : er = 0
              · have he' : (gB (stepS fw rw_) before s).1 = 0 := by rw [← HD.out, ← Her.out]; exact he
                obtain ⟨_, _, ⟨s', hs'⟩, _⟩ := gB_in (fun _ _ _ h => stepS_ne h) he'
                have hnext := HDS.out.next hlt he' hs'
                rw [← HD.out, ← Hos.out] at hnext
                rw [← HD.out] at hs'
                have hTR4 := hs4 s' hs'
                have hTR5 := hTR4.belowB hb5 (by omega)
                have Hnext := veil hnext
                have HTR5 := veil hTR5
                have hacc : acc.length + 1 ≤ 1000000 := by have := HDS.out.1; omega
                have Hacc := veil hacc
                subst he
                clear he' hs' hs4 hnext hTR4 hTR5 HDS HTR hacc
                go_upto_region 21 with (first
                  | (refine wpList_store_new w4 rfl 37 (.tmp 15) (.tmp 64) rfl zeroB.toArray zs5 rfl rfl (info_blkn Hosl.out) (by rw [Hosl.out]; rfl) hone ?_)
                  | (refine wpList_load_mid rfl 37 (.tmp 15) rfl w4.heap.size 0 rfl zs5 _ hr5 Tryz.underlying37 rfl (info_blkn Hosl.out) ?_)
                  | (refine wpList_buildBlk rfl (.tmp 70) rfl zs5 rfl Hosl.out ?_)
                  | (refine wpList_ownB (w4.alloc (.cells zs5.toArray 37)) rfl (.tmp 69) (.tmp 71) rfl (g + 1) u13 acc [] rfl hO5 os zs5 Hys.out hosl rfl Hacc.out ?_; intro v' w6 hO6 hg6 hb6 hs6)
                  | fail)
                have hc5 := hr5 0 _ hz0'
                have hne6 : some w4.heap.size ≠ u13.ownBlock := fun e => by have := hown _ e.symm; omega
                have hc6 := reg_far hg6 hne6 (i := 0) (u := .int .i64 (os.headD 0)) (by rw [World.cell?_of_block (Below.heap_alloc _ _ _ (by simp))]; simpa using hc5)
                have HTR6 := veil (HTR5.out.belowB hb6 (by omega))
                have hbw6 := hbw5.trans (hb6.mono (by omega))
                clear hc5 hg6 hb6 hO5 hbw5 hr5 hb5 HTR5 hO4 hbw4 hg4 hz0'
                go_wp2_with fail
                go_roundg (N - (k + 1))
                case rel => exact ⟨k + 1, acc ++ [os], os.headD 0, s', rfl, by omega, by go_num, by rw [List.headD_eq_head?_getD], Hnext, HTR6, hO6, hbw6⟩
                case measure => omega
              · have he' : (gB (stepS fw rw_) before s).1 ≠ 0 := by rw [← HD.out, ← Her.out]; exact he
                have hq := HDS.out.err hlt he'
                rw [← HD.out, ← Her.out] at hq
                have hE1 : E = er := by rw [HED.out (by rw [hq]; exact he), hq]
                have hO1 := HOe.out (by rw [hE1]; exact he)
                have HE1 := veil hE1
                have HO1 := veil hO1
                have hbe : (er != 0) = true := by simpa using he
                clear he he' hq hE1 hO1 hs4
                go_wp2_with (first
                  | (refine wpList_store_new w4 rfl 37 (.tmp 15) (.tmp 64) rfl zeroB.toArray zs5 rfl rfl (info_blkn Hosl.out) (by rw [Hosl.out]; rfl) hone ?_)
                  | fail)
                go_ret2
                exact ⟨_, ret_two rfl (by rw [HE1.out]; rfl), by rw [HO1.out]; exact (Owns.nil hbw5.size).fresh _ _, hbw5⟩
            · obtain rfl : k = N := by omega
              have hq := HDS.out.done
              obtain ⟨at_, hR, _, _, _, _, hsa⟩ := HTR.out
              have HF := veil (HFl.out at_ wr hR)
              rw [← hsa] at HF
              have hE1 : E = if fillB s = true then 0 else 4 := by rw [HEF.out (by rw [hq]), hq]
              have HQ := veil hq
              have Hgw := veil hgw
              clear hR hsa hq HTR
              go_wp2_with fail
              refine HF.out.mono ?_
              rintro e w4 ⟨rfl, hg4⟩
              have hO4 := hO.kept hg4 (by omega)
              have hbw4 := hbw.grown hg4 hbw.size (fun j hj => by injection hj with hj; omega)
              cases hfl : fillB s with
              | true =>
                rw [hfl, if_pos rfl] at hE1
                have hO1 := HOO.out hE1
                rw [HQ.out] at hO1
                have HE1 := veil hE1
                have HO1 := veil hO1
                clear hE1 hO1 hfl HF
                go_wp2_with fail
                go_ret2
                exact ⟨_, ret_two rfl (by rw [HE1.out]; rfl), by rw [HO1.out]; exact hO4.down (by omega), hbw4⟩
              | false =>
                rw [hfl, if_neg (by decide)] at hE1
                have hO1 := HOe.out (by rw [hE1]; decide)
                have HE1 := veil hE1
                have HO1 := veil hO1
                clear hE1 hO1 hfl HF hO4 hO
                go_wp2_with fail
                go_ret2
                exact ⟨_, ret_two rfl (by rw [HE1.out]; rfl), by rw [HO1.out]; exact (Owns.nil hbw4.size).fresh _ _, hbw4⟩
        · have hE1 := eDec_plain (bs := bs) HT0.out Hrg.out hp
          have hne : (plainErr bs != 0) = true := by simpa using hp
          rw [← HE.out] at hE1
          have hO1 := HOe.out (by rw [hE1]; exact hp)
          have HO1 := veil hO1
          have HE1 := veil hE1
          obtain ⟨er, her⟩ : ∃ er, er = plainErr bs := ⟨_, rfl⟩
          rw [← her] at hne HE1 ⊢
          clear hE1 hO1 HO3 hp her
          go_wp2
          go_ret2
          exact ⟨_, ret_two rfl (by rw [HE1.out]; rfl), by rw [HO1.out]; exact (Owns.nil hbw3.size).fresh _ _, hbw3⟩
    · have hE1 := eDec_tab (cs := cs) (syms := syms) (cs2 := cs2) (syms2 := syms2) (bs := bs) (n := n) (by rw [eTs_two H0.out]; exact h0b)
      rw [eTs_two H0.out, ← HE.out] at hE1
      have hO1 := HOe.out (by rw [hE1]; exact h0b)
      have hne : (checkErr cs2 syms2 != 0) = true := by simpa using h0b
      have HO1 := veil hO1
      have HE1 := veil hE1
      obtain ⟨er, her⟩ : ∃ er, er = checkErr cs2 syms2 := ⟨_, rfl⟩
      rw [← her] at hne HE1 ⊢
      clear hE1 hO1 h0b her hok2 hbad2
      go_wp2
      go_ret2
      exact ⟨_, ret_two rfl (by rw [HE1.out]; rfl), by rw [HO1.out]; exact (Owns.nil hbw2.size).fresh _ _, hbw2⟩
  · have hE1 := eDec_tab (cs := cs) (syms := syms) (cs2 := cs2) (syms2 := syms2) (bs := bs) (n := n) (by rw [eTs_one h0]; exact h0)
    rw [eTs_one h0, ← HE.out] at hE1
    have hO1 := HOe.out (by rw [hE1]; exact h0)
    have hne : (checkErr cs syms != 0) = true := by simpa using h0
    have HO1 := veil hO1
    have HE1 := veil hE1
    obtain ⟨er, her⟩ : ∃ er, er = checkErr cs syms := ⟨_, rfl⟩
    rw [← her] at hne HE1 ⊢
    clear hE1 hO1 h0 her hok1 hbad1
    go_wp2
    go_ret2
    exact ⟨_, ret_two rfl (by rw [HE1.out]; rfl), by rw [HO1.out]; exact (Owns.nil hbw.size).fresh _ _, hbw⟩
end Go.Proofs.YtddkhkpdbjjboaaGreat

/- Segments in numbers: what Encode, Decode and Mend of scan answer. -/
namespace Go.Proofs.YtddkhkpdbjjboaaGreat
set_option linter.unusedVariables false
set_option linter.unusedSimpArgs false
set_option maxRecDepth 100000

/-- Bits as bytes, the last one filled with ones. -/
def packB (b : List Bool) : List Int :=
  if h : b = [] then [] else (valB (b.take 8 ++ List.replicate (8 - (b.take 8).length) true) : Int) :: packB (b.drop 8)
termination_by b.length
decreasing_by
  have : 0 < b.length := List.length_pos_iff.2 h
  rw [List.length_drop]; omega
theorem packB_nil : packB [] = [] := by rw [packB, dif_pos rfl]
theorem packB_cons {b : List Bool} (h : b ≠ []) : packB b = (valB (b.take 8 ++ List.replicate (8 - (b.take 8).length) true) : Int) :: packB (b.drop 8) := by rw [packB, dif_neg h]
theorem packB_bytes (b : List Bool) : Bytes (packB b) := by
  have : ∀ n (b : List Bool), b.length = n → Bytes (packB b) := by
    intro n
    induction n using Nat.strongRecOn with
    | _ n ih =>
      intro b hb
      by_cases h : b = []
      · subst h; rw [packB_nil]; intro x hx; simp at hx
      · rw [packB_cons h]
        intro x hx
        rcases List.mem_cons.1 hx with rfl | hx
        · have h1 := valB_lt (b.take 8 ++ List.replicate (8 - (b.take 8).length) true)
          have h2 : (b.take 8 ++ List.replicate (8 - (b.take 8).length) true).length = 8 := by
            have : (b.take 8).length ≤ 8 := by rw [List.length_take]; omega
            rw [List.length_append, List.length_replicate]; omega
          rw [h2] at h1
          omega
        · have : 0 < b.length := List.length_pos_iff.2 h
          exact ih (b.drop 8).length (by rw [List.length_drop]; omega) _ rfl x hx
  exact this _ b rfl
theorem unpack_packB (b : List Bool) : ∃ p, p < 8 ∧ unpack (packB b) = b ++ List.replicate p true := by
  have : ∀ n (b : List Bool), b.length = n → ∃ p, p < 8 ∧ unpack (packB b) = b ++ List.replicate p true := by
    intro n
    induction n using Nat.strongRecOn with
    | _ n ih =>
      intro b hb
      by_cases h : b = []
      · subst h; rw [packB_nil]; exact ⟨0, by omega, rfl⟩
      · have hp : 0 < b.length := List.length_pos_iff.2 h
        obtain ⟨p, hp8, hu⟩ := ih (b.drop 8).length (by rw [List.length_drop]; omega) _ rfl
        have h2 : (b.take 8 ++ List.replicate (8 - (b.take 8).length) true).length = 8 := by
          have : (b.take 8).length ≤ 8 := by rw [List.length_take]; omega
          rw [List.length_append, List.length_replicate]; omega
        have h3 := bitsN_valB (b.take 8 ++ List.replicate (8 - (b.take 8).length) true)
        rw [h2] at h3
        rw [packB_cons h, unpack_cons, Int.toNat_natCast, h3, hu]
        by_cases hl : 8 ≤ b.length
        · refine ⟨p, hp8, ?_⟩
          rw [show 8 - (b.take 8).length = 0 by rw [List.length_take]; omega, List.replicate_zero, List.append_nil, ← List.append_assoc, List.take_append_drop]
        · have hd : b.drop 8 = [] := List.drop_of_length_le (by omega)
          have ht : b.take 8 = b := List.take_of_length_le (by omega)
          rw [hd, packB_nil] at hu
          have hp0 : p = 0 := by have := congrArg List.length hu; simpa [unpack_nil] using this.symm
          subst hp0
          refine ⟨8 - b.length, by omega, ?_⟩
          rw [hd, ht]; simp
  exact this _ b rfl
section
variable (cs syms cs2 syms2 : List Int)
/-- A segment's bytes. -/
def segF (L : List (List Int)) : List Int := if eEnc cs syms cs2 syms2 L = 0 then stuffB (packB (segBits (outWords cs syms) (outWords cs2 syms2) (toksB 0 L))) else []
theorem segOut_is {L : List (List Int)} {out : List Int} (h : SegOut cs syms cs2 syms2 L out) : out = segF cs syms cs2 syms2 L := by
  unfold segF
  by_cases h0 : eEnc cs syms cs2 syms2 L = 0
  · rw [if_pos h0]
    obtain ⟨raw, rfl, hb, p, hp, hu⟩ := h.2 h0
    obtain ⟨q, hq, hv⟩ := unpack_packB (segBits (outWords cs syms) (outWords cs2 syms2) (toksB 0 L))
    have h1 := congrArg List.length hu
    have h2 := congrArg List.length hv
    rw [unpack_length, List.length_append, List.length_replicate] at h1 h2
    have : p = q := by omega
    subst this
    rw [unpack_inj hb (packB_bytes _) (hu.trans hv.symm)]
  · rw [if_neg h0]; exact h.1 h0
/-- Segments with the marks between them. -/
def joinM : Nat → List (List Int) → List Int
  | _, [] => []
  | k, o :: os => (if k = 0 then ([] : List Int) else ([255, 208 + (((k + 7) % 8 : Nat) : Int)] : List Int)) ++ o ++ joinM (k + 1) os
theorem joinM_snoc : ∀ (os : List (List Int)) (k : Nat) (o : List Int), joinM k (os ++ [o]) = joinM k os ++ ((if k + os.length = 0 then [] else ([255, 208 + (((k + os.length + 7) % 8 : Nat) : Int)] : List Int)) ++ o)
  | [], k, o => by simp [joinM]
  | a :: os, k, o => by
    rw [List.cons_append, joinM, joinM_snoc os (k + 1) o, joinM, List.length_cons, show k + 1 + os.length = k + (os.length + 1) by omega]
    simp
def segs (L : List (List Int)) (every : Int) : List (List (List Int)) := segsOf (partsN L.length every.toNat) L
/-- Encode's error and bytes. -/
def eScan (L : List (List Int)) (every : Int) : Int :=
  if every < 0 ∨ 100 < every then 1 else if eTs cs syms cs2 syms2 ≠ 0 then eTs cs syms cs2 syms2 else if eL L ≠ 0 then eL L else firstE ((segs L every).map (eEnc cs syms cs2 syms2))
def oScan (L : List (List Int)) (every : Int) : List Int := if eScan cs syms cs2 syms2 L every = 0 then joinM 0 ((segs L every).map (segF cs syms cs2 syms2)) else []
/-- What Decode and Mend ask ahead of the segments. -/
def eHead (bs : List Int) (n every : Int) : Int :=
  if every < 0 ∨ 100 < every ∨ n < 0 ∨ 400 < n then 1 else if eTs cs syms cs2 syms2 ≠ 0 then eTs cs syms cs2 syms2 else splitErr bs
/-- Are these the marks that are awaited? -/
def marksB (ms : List Int) : Bool := (ms.zipIdx).all fun x => decide (x.1 = 208 + ((x.2 % 8 : Nat) : Int))
def eSegs (bs : List Int) (n every : Int) : Int := firstE (((splitP bs).zip (partsN n.toNat every.toNat)).map fun x => eDec cs syms cs2 syms2 x.1 x.2)
def eScD (bs : List Int) (n every : Int) : Int :=
  if eHead cs syms cs2 syms2 bs n every ≠ 0 then eHead cs syms cs2 syms2 bs n every
  else if (partsN n.toNat every.toNat).length ≠ (splitP bs).length then 4 else if marksB (splitM bs) = false then 6 else eSegs cs syms cs2 syms2 bs n every
def oScD (bs : List Int) (n every : Int) : List (List Int) :=
  if eScD cs syms cs2 syms2 bs n every = 0 then (((splitP bs).zip (partsN n.toNat every.toNat)).map fun x => oDec cs syms cs2 syms2 x.1 x.2).flatten else []
end
end Go.Proofs.YtddkhkpdbjjboaaGreat

/- How long tokens are as bits; what tokens blocks have. -/
namespace Go.Proofs.YtddkhkpdbjjboaaGreat
open Go.RowKit
set_option linter.unusedVariables false
set_option linter.unusedSimpArgs false
set_option maxRecDepth 100000

theorem tokBits_len {ws : List (Int × Nat × Nat)} (hpf : PF ws) {t : Int × Int × Int} (hg : goodT t) : (tokBits ws t).length ≤ 28 := by
  unfold tokBits symBits
  rw [List.length_append, bitsN_length, bitsN_length]
  have h1 := (goodT_fit hg).1
  have h2 : (((symF ws t.1).getD (0, 0)).1).toNat ≤ 16 := by
    cases hq : symF ws t.1 with
    | none => simp
    | some p => obtain ⟨p1, p2⟩ := p; exact sym_short hpf hq
  omega
theorem segBits_len {fw rw_ : List (Int × Nat × Nat)} (h1 : PF fw) (h2 : PF rw_) : ∀ (l : List (Bool × Int × Int × Int)), (∀ x ∈ l, goodT x.2) → (segBits fw rw_ l).length ≤ 28 * l.length
  | [], _ => by simp [segBits]
  | x :: l, h => by
    have ih := segBits_len h1 h2 l fun y hy => h y (by simp [hy])
    have hx := h x (by simp)
    have h3 : (tokBits (wsOf fw rw_ x.1) x.2).length ≤ 28 := by
      unfold wsOf; split
      · exact tokBits_len h1 hx
      · exact tokBits_len h2 hx
    have e : segBits fw rw_ (x :: l) = tokBits (wsOf fw rw_ x.1) x.2 ++ segBits fw rw_ l := by simp [segBits]
    rw [e, List.length_append, List.length_cons]; omega
theorem flag_good : ∀ {l : List (Int × Int × Int)}, (∀ t ∈ l, goodT t) → ∀ x ∈ flagT l, goodT x.2
  | [], _, x, hx => by simp [flagT] at hx
  | t :: l, h, x, hx => by
    rcases List.mem_cons.1 hx with rfl | hx
    · exact h t (by simp)
    · obtain ⟨y, hy, rfl⟩ := List.mem_map.1 hx
      exact h y (by simp [hy])
theorem toksB_good : ∀ (L : List (List Int)) (b : Int), (∀ r ∈ L, r.length = 64) → (∀ r ∈ L, inB (-2047) 2047 r = true) → (-2047 ≤ b ∧ b ≤ 2047) → ∀ x ∈ toksB b L, goodT x.2
  | [], b, _, _, _, x, hx => by simp [toksB] at hx
  | r :: L, b, hl, hin, hb, x, hx => by
    have h1 := hl r (by simp)
    have h2 := hin r (by simp)
    rw [toksB] at hx
    rcases List.mem_append.1 hx with hx | hx
    · exact flag_good (toks_good hb (toL_in h1 h2)) x hx
    · refine toksB_good L _ (fun y hy => hl y (by simp [hy])) (fun y hy => hin y (by simp [hy])) ?_ x hx
      match r, h1, h2 with
      | z :: r, _, h2 => exact inB_mem.1 h2 z (by simp)
end Go.Proofs.YtddkhkpdbjjboaaGreat

/- What Encode makes: no marks, and not too long. -/
namespace Go.Proofs.YtddkhkpdbjjboaaGreat
open Go.RowKit
set_option linter.unusedVariables false
set_option linter.unusedSimpArgs false
set_option maxRecDepth 100000

theorem eEnc_none {cs syms cs2 syms2 : List Int} {L : List (List Int)} (h : eEnc cs syms cs2 syms2 L = 0) : checkErr cs syms = 0 ∧ checkErr cs2 syms2 = 0 ∧ eL L = 0 := by
  by_cases h1 : checkErr cs syms = 0
  · by_cases h2 : checkErr cs2 syms2 = 0
    · by_cases h3 : eL L = 0
      · exact ⟨h1, h2, h3⟩
      · rw [eEnc_blk h1 h2 h3] at h; exact absurd h h3
    · rw [eEnc_two h1 h2] at h; exact absurd h h2
  · rw [eEnc_one h1] at h; exact absurd h h1
end Go.Proofs.YtddkhkpdbjjboaaGreat

/- Segments encoded, in numbers: errors and lengths. -/
namespace Go.Proofs.YtddkhkpdbjjboaaGreat
open Go.RowKit
set_option linter.unusedVariables false
set_option linter.unusedSimpArgs false
set_option maxRecDepth 100000

section
variable {cs syms cs2 syms2 : List Int} {L : List (List Int)} {every : Int}
theorem eScan_every (h : every < 0 ∨ 100 < every) : eScan cs syms cs2 syms2 L every = 1 := if_pos h
theorem eScan_tab (h : ¬ (every < 0 ∨ 100 < every)) (h2 : eTs cs syms cs2 syms2 ≠ 0) : eScan cs syms cs2 syms2 L every = eTs cs syms cs2 syms2 := by unfold eScan; rw [if_neg h, if_pos h2]
theorem eScan_blk (h : ¬ (every < 0 ∨ 100 < every)) (h2 : eTs cs syms cs2 syms2 = 0) (h3 : eL L ≠ 0) : eScan cs syms cs2 syms2 L every = eL L := by unfold eScan; rw [if_neg h, if_neg (by rw [h2]; decide), if_pos h3]
theorem eScan_seg (h : ¬ (every < 0 ∨ 100 < every)) (h2 : eTs cs syms cs2 syms2 = 0) (h3 : eL L = 0) : eScan cs syms cs2 syms2 L every = firstE ((segs L every).map (eEnc cs syms cs2 syms2)) := by unfold eScan; rw [if_neg h, if_neg (by rw [h2]; decide), if_neg (by rw [h3]; decide)]
theorem oScan_err (h : eScan cs syms cs2 syms2 L every ≠ 0) : oScan cs syms cs2 syms2 L every = [] := if_neg h
theorem segF_len (hcs : cs.length = 16) (hcs2 : cs2.length = 16) (hl : ∀ r ∈ L, r.length = 64) : (segF cs syms cs2 syms2 L).length ≤ 250002 := by
  unfold segF
  by_cases h0 : eEnc cs syms cs2 syms2 L = 0
  · rw [if_pos h0]
    obtain ⟨h1, h2, h3⟩ := eEnc_none h0
    obtain ⟨h400, hin⟩ := eL_zero h3
    have h5 := segBits_len (words_pf2 hcs h1) (words_pf2 hcs2 h2) (toksB 0 L) (toksB_good L 0 hl hin (by omega))
    have h6 := toksB_len L 0
    obtain ⟨p, hp, hu⟩ := unpack_packB (segBits (outWords cs syms) (outWords cs2 syms2) (toksB 0 L))
    have h7 := congrArg List.length hu
    rw [unpack_length, List.length_append, List.length_replicate] at h7
    have h8 := stuffB_length_le (packB (segBits (outWords cs syms) (outWords cs2 syms2) (toksB 0 L)))
    omega
  · rw [if_neg h0]; simp
end
theorem u8_208 (q : Nat) (h : q < 8) : IntKind.u8.wrap (208 + (q : Int)) = 208 + (q : Int) := by
  have : q = 0 ∨ q = 1 ∨ q = 2 ∨ q = 3 ∨ q = 4 ∨ q = 5 ∨ q = 6 ∨ q = 7 := by omega
  rcases this with rfl | rfl | rfl | rfl | rfl | rfl | rfl | rfl <;> rfl
theorem seen_second {w : World} {B : Nat} {r : Row} {A : Option Addr} {c : Nat} {xs : List Int} (h : Owns B [r, byteRow (.slice A xs.length c) xs] w) : Seen w w.heap.size A (ints .u8 xs) := by
  obtain ⟨A2, c2, e, hs, _, _⟩ := h.seen (List.mem_cons_of_mem _ (List.mem_cons_self ..))
  have e' : (Value.slice A xs.length c) = .slice A2 xs.length c2 := e
  obtain ⟨rfl, rfl⟩ : A = A2 ∧ c = c2 := by simpa using e'
  exact hs
end Go.Proofs.YtddkhkpdbjjboaaGreat

/- Blocks out of bits: the bits of their tokens are what was read. -/
namespace Go.Proofs.YtddkhkpdbjjboaaGreat
set_option linter.unusedVariables false
set_option linter.unusedSimpArgs false
set_option maxRecDepth 100000

theorem symF_mine {ws : List (Int × Nat × Nat)} (hnd : (ws.map (·.1)).Nodup) {t : Int × Nat × Nat} (ht : t ∈ ws) : symF ws t.1 = some (fi t) := by
  induction ws using snoc_ind with
  | h0 => simp at ht
  | h1 ws u ih =>
    rw [List.map_append, List.nodup_append] at hnd
    rw [symF_snoc]
    unfold upd
    by_cases e : t.1 = u.1
    · rw [if_pos e]
      rcases List.mem_append.1 ht with h | h
      · exact absurd e (hnd.2.2 t.1 (List.mem_map_of_mem h) u.1 (by simp))
      · simp at h; rw [h]
    · rw [if_neg e]
      rcases List.mem_append.1 ht with h | h
      · exact ih hnd.1 h
      · simp at h; rw [h] at e; exact absurd rfl e
theorem next_word {ws : List (Int × Nat × Nat)} {b : List Bool} (h : nextE ws b = 0) : ∃ t ∈ ws, nextS ws b = t.1 ∧ nextL ws b = t.2.1 ∧ bitsN t.2.1 t.2.2 <+: b := by
  unfold nextE at h
  split at h
  · rename_i h1
    obtain ⟨⟨s, n⟩, hp⟩ := Option.isSome_iff_exists.1 h1
    obtain ⟨t, ht, e1, e2, h2⟩ := find1_mem hp
    exact ⟨t, ht, by unfold nextS; rw [hp, e1]; rfl, by unfold nextL; rw [hp, e2]; rfl, h2⟩
  · split at h <;> cases h
/-- Words of symbols that are all different. -/
def Own1 (ws : List (Int × Nat × Nat)) : Prop := (ws.map (·.1)).Nodup
theorem step_bits {fw rw_ : List (Int × Nat × Nat)} {first : Bool} (hnd : Own1 (wsOf fw rw_ first)) {b s : List Bool} {t : Int × Int × Int} (h : stepS fw rw_ first b = .inr (t, s)) :
    b = tokBits (wsOf fw rw_ first) t ++ s ∧ (symF (wsOf fw rw_ first) t.1).isSome = true := by
  unfold stepS at h
  by_cases h1 : nextE (wsOf fw rw_ first) b = 0
  · rw [if_neg (by rw [h1]; decide)] at h
    split at h
    · cases h
    · rename_i h2
      split at h
      · cases h
      · rename_i h3
        injection h with h
        injection h with h4 h5
        obtain ⟨u, hu, e1, e2, h6⟩ := next_word h1
        have hs := symF_mine hnd hu
        have hb := List.prefix_iff_eq_take.1 h6
        rw [bitsN_length] at hb
        rw [e1, e2] at h3 h4 h5
        generalize hW : widS first u.1 = W at *
        subst h4 h5
        refine ⟨?_, by rw [hs]; rfl⟩
        unfold tokBits symBits
        simp only [hs, Option.getD_some, fi, Int.toNat_natCast]
        have h7 := bitsN_valB (((b.drop u.2.1).take W.toNat))
        rw [show ((b.drop u.2.1).take W.toNat).length = W.toNat by rw [List.length_take]; omega] at h7
        rw [h7, hb, List.append_assoc, List.take_append_drop, List.take_append_drop]
  · rw [if_pos h1] at h; cases h
theorem rest_bits {fw rw_ : List (Int × Nat × Nat)} (hnd : Own1 rw_) : ∀ (k : Nat) (b : List Bool), (gR (stepS fw rw_) k b).1 = 0 → ∃ s', (gR (stepS fw rw_) k b).2.2.2 = some s' ∧
    b = ((gR (stepS fw rw_) k b).2.2.1.flatMap (tokBits rw_)) ++ s' ∧ ∀ t ∈ (gR (stepS fw rw_) k b).2.2.1, (symF rw_ t.1).isSome = true := by
  intro k
  induction k using Nat.strongRecOn with
  | _ k ih =>
    intro b h
    cases k with
    | zero => rw [gR]; exact ⟨b, rfl, rfl, by simp⟩
    | succ k =>
      rw [gR] at h ⊢
      cases hst : stepS fw rw_ false b with
      | inl e => rw [hst] at h; exact absurd h (stepS_ne hst)
      | inr q =>
        obtain ⟨t, s2⟩ := q
        obtain ⟨g1, g2⟩ := step_bits (first := false) hnd hst
        rw [show wsOf fw rw_ false = rw_ from rfl] at g1 g2
        rw [hst] at h
        simp only [] at h ⊢
        by_cases h1 : okT t = true
        · rw [if_pos h1] at h ⊢
          by_cases h2 : t.1 = 0
          · rw [if_pos h2]
            exact ⟨s2, rfl, by simp only [List.flatMap_cons, List.flatMap_nil, List.append_nil]; exact g1, fun u hu => by rw [List.mem_singleton.1 hu]; exact g2⟩
          · rw [if_neg h2] at h ⊢
            by_cases h3 : k + 1 < farT t
            · rw [if_pos h3] at h; simp at h
            · rw [if_neg h3] at h ⊢
              have hp : 0 < farT t := by unfold farT; omega
              by_cases h4 : (gR (stepS fw rw_) (k + 1 - farT t) s2).1 = 0
              · obtain ⟨s', e1, e2, e3⟩ := ih (k + 1 - farT t) (by omega) s2 h4
                rw [if_pos h4]
                refine ⟨s', e1, ?_, fun u hu => ?_⟩
                · simp only [List.flatMap_cons, List.append_assoc]
                  rw [← e2]; exact g1
                · rcases List.mem_cons.1 hu with rfl | hu
                  · exact g2
                  · exact e3 u hu
              · rw [if_neg h4] at h; exact absurd h h4
        · rw [if_neg h1] at h; simp at h
theorem flag_bits (fw rw_ : List (Int × Nat × Nat)) (t : Int × Int × Int) (l : List (Int × Int × Int)) : segBits fw rw_ (flagT (t :: l)) = tokBits fw t ++ l.flatMap (tokBits rw_) := by
  unfold segBits flagT
  simp [List.flatMap_cons, wsOf, List.flatMap_map]
theorem flag_all {fw rw_ : List (Int × Nat × Nat)} {t : Int × Int × Int} {l : List (Int × Int × Int)} (h1 : (symF fw t.1).isSome = true) (h2 : ∀ u ∈ l, (symF rw_ u.1).isSome = true) : AllW fw rw_ (flagT (t :: l)) := by
  intro x hx
  unfold flagT at hx
  rcases List.mem_cons.1 hx with rfl | hx
  · exact h1
  · obtain ⟨u, hu, rfl⟩ := List.mem_map.1 hx
    exact h2 u hu
theorem blk_bits {fw rw_ : List (Int × Nat × Nat)} (hnd1 : Own1 fw) (hnd2 : Own1 rw_) {before : Int} {b : List Bool} (h : (gB (stepS fw rw_) before b).1 = 0) : ∃ s', (gB (stepS fw rw_) before b).2.2.2 = some s' ∧
    b = segBits fw rw_ (flagT (gB (stepS fw rw_) before b).2.2.1) ++ s' ∧ AllW fw rw_ (flagT (gB (stepS fw rw_) before b).2.2.1) := by
  cases hst : stepS fw rw_ true b with
  | inl e => rw [gB_none hst] at h; exact absurd h (stepS_ne hst)
  | inr q =>
    obtain ⟨t, s2⟩ := q
    obtain ⟨g1, g2⟩ := step_bits (first := true) hnd1 hst
    rw [show wsOf fw rw_ true = fw from rfl] at g1 g2
    by_cases hf : firstT before t
    · rw [gB_go hst hf] at h ⊢
      by_cases h4 : (gR (stepS fw rw_) 63 s2).1 = 0
      · obtain ⟨s', e1, e2, e3⟩ := rest_bits (fw := fw) hnd2 63 s2 h4
        unfold joinG at h ⊢
        rw [if_pos h4] at h ⊢
        unfold finG at h ⊢
        rw [if_pos rfl] at h ⊢
        by_cases h5 : toksZ before ([before + numT t] ++ (gR (stepS fw rw_) 63 s2).2.1) = [t] ++ (gR (stepS fw rw_) 63 s2).2.2.1
        · rw [if_pos h5]
          refine ⟨s', e1, ?_, ?_⟩
          · show b = segBits fw rw_ (flagT ([t] ++ (gR (stepS fw rw_) 63 s2).2.2.1)) ++ s'
            rw [List.singleton_append, flag_bits, List.append_assoc, ← e2]; exact g1
          · show AllW fw rw_ (flagT ([t] ++ (gR (stepS fw rw_) 63 s2).2.2.1))
            rw [List.singleton_append]; exact flag_all g2 e3
        · rw [if_neg h5] at h; simp at h
      · unfold joinG at h
        rw [if_neg h4] at h
        unfold finG at h
        rw [if_neg h4] at h
        exact absurd h h4
    · rw [gB_bad hst hf] at h; simp at h
theorem decS_bits {fw rw_ : List (Int × Nat × Nat)} (hnd1 : Own1 fw) (hnd2 : Own1 rw_) : ∀ (n : Nat) (before : Int) (b : List Bool), (decS fw rw_ n before b).1 = 0 →
    b = segBits fw rw_ (toksB before (decS fw rw_ n before b).2.1) ++ (decS fw rw_ n before b).2.2 ∧ AllW fw rw_ (toksB before (decS fw rw_ n before b).2.1) ∧ (decS fw rw_ n before b).2.1.length = n ∧ ∀ r ∈ (decS fw rw_ n before b).2.1, r.length = 64 ∧ inB (-2047) 2047 r = true
  | 0, before, b, _ => by
    rw [decS]
    exact ⟨rfl, fun x hx => by simp [toksB] at hx, rfl, by simp⟩
  | n + 1, before, b, h => by
    rw [decS] at h ⊢
    by_cases h1 : (gB (stepS fw rw_) before b).1 = 0
    · rw [if_pos h1] at h ⊢
      obtain ⟨s', e1, e2, e3⟩ := blk_bits hnd1 hnd2 h1
      obtain ⟨g1, g2, _, g4⟩ := gB_in (fun _ _ _ h => stepS_ne h) h1
      simp only [e1, Option.getD_some] at h ⊢
      by_cases h2 : (decS fw rw_ n ((fromL (gB (stepS fw rw_) before b).2.1).headD 0) s').1 = 0
      · rw [if_pos h2]
        obtain ⟨i1, i2, i3, i4⟩ := decS_bits hnd1 hnd2 n _ s' h2
        have et : toksZ before (toL (fromL (gB (stepS fw rw_) before b).2.1)) = (gB (stepS fw rw_) before b).2.2.1 := by rw [to_from g1]; exact g4
        refine ⟨?_, ?_, ?_, fun r hr => ?_⟩
        · simp only [toksB]
          rw [et, segBits_append, List.append_assoc, ← i1]; exact e2
        · simp only [toksB]
          rw [et]; exact e3.append i2
        · simp only [List.length_cons]; rw [i3]
        · rcases List.mem_cons.1 hr with rfl | hr
          · exact ⟨fromL_length _, inB_from g1 g2⟩
          · exact i4 r hr
      · rw [if_neg h2] at h; exact absurd h h2
    · rw [if_neg h1] at h; exact absurd h h1
theorem own1_of {cs syms : List Int} (h : checkErr cs syms = 0) : Own1 (outWords cs syms) := by
  obtain ⟨l, hf, hw, hll⟩ := fine_of h
  unfold Own1
  rw [hw, mkWords_fst hll]; exact hf.nodup
theorem all_true : ∀ {s : List Bool}, s.all id = true → s = List.replicate s.length true
  | [], _ => rfl
  | x :: s, h => by
    simp only [List.all_cons, Bool.and_eq_true, id] at h
    rw [h.1, List.length_cons, List.replicate_succ, ← all_true h.2]
/-- What was decoded is encoded as just these bytes. -/
theorem again_ok {cs syms cs2 syms2 bs : List Int} {n : Int} (hcs : cs.length = 16) (hcs2 : cs2.length = 16) (hby : Bytes bs) (h : eDec cs syms cs2 syms2 bs n = 0) :
    (∀ r ∈ oDec cs syms cs2 syms2 bs n, r.length = 64) ∧ ((oDec cs syms cs2 syms2 bs n).length : Int) = n ∧ n ≤ 400 ∧ eEnc cs syms cs2 syms2 (oDec cs syms cs2 syms2 bs n) = 0 ∧ ∀ out, SegOut cs syms cs2 syms2 (oDec cs syms cs2 syms2 bs n) out → out = bs := by
  have ho : oDec cs syms cs2 syms2 bs n = (segD cs syms cs2 syms2 bs n.toNat).2.1 := if_pos h
  have h1 : checkErr cs syms = 0 := by
    refine Classical.byContradiction fun h1 => ?_
    unfold eDec eTs at h
    simp [h1] at h
  have h2 : checkErr cs2 syms2 = 0 := by
    refine Classical.byContradiction fun h2 => ?_
    unfold eDec eTs at h
    simp [h1, h2] at h
  have hT : eTs cs syms cs2 syms2 = 0 := by unfold eTs; rw [if_pos h1]; exact h2
  unfold eDec at h
  rw [if_neg (by rw [hT]; decide)] at h
  by_cases h3 : n < 0 ∨ 400 < n
  · rw [if_pos h3] at h; cases h
  · rw [if_neg h3] at h
    by_cases h4 : plainErr bs = 0
    · rw [if_neg (by rw [h4]; decide)] at h
      by_cases h5 : (segD cs syms cs2 syms2 bs n.toNat).1 = 0
      · rw [if_neg (by rw [h5]; decide)] at h
        by_cases h6 : fillB (segD cs syms cs2 syms2 bs n.toNat).2.2 = true
        · obtain ⟨b1, b2, b3, b4⟩ := decS_bits (own1_of h1) (own1_of h2) n.toNat 0 (unpack (plainOut bs)) h5
          rw [ho]
          unfold segD at h6 ⊢
          generalize hO : (decS (outWords cs syms) (outWords cs2 syms2) n.toNat 0 (unpack (plainOut bs))).2.1 = O at *
          generalize hS : (decS (outWords cs syms) (outWords cs2 syms2) n.toNat 0 (unpack (plainOut bs))).2.2 = s at *
          have hE : eL O = 0 := eL_ok (by omega) fun r hr => (b4 r hr).2
          have hen : eEnc cs syms cs2 syms2 O = 0 := by rw [eEnc_end h1 h2 hE, if_pos b2]
          refine ⟨fun r hr => (b4 r hr).1, by omega, by omega, hen, fun out hout => ?_⟩
          obtain ⟨raw, rfl, hrb, p, hp, hu⟩ := hout.2 hen
          unfold fillB at h6
          simp only [Bool.and_eq_true, decide_eq_true_eq] at h6
          have hs := all_true h6.2
          cases hpl : plainR bs with
          | none => rw [(plain_none hpl).2] at h4; cases h4
          | some q =>
            rw [(plain_some hpl).1] at b1
            have hqb : Bytes q := by
              exact fun x hx => hby x (plainR_mem bs q hpl x hx)
            have l1 := congrArg List.length b1
            have l2 := congrArg List.length hu
            rw [unpack_length, List.length_append] at l1 l2
            rw [List.length_replicate] at l2
            have hps : p = s.length := by omega
            rw [hps, ← hs, ← b1] at hu
            rw [unpack_inj hrb hqb hu]
            exact stuffB_plainR bs q hpl
        · rw [if_neg h6] at h; cases h
      · rw [if_pos h5] at h; exact absurd h h5
    · rw [if_pos h4] at h; exact absurd h h4
end Go.Proofs.YtddkhkpdbjjboaaGreat

/- Segments decoded, in numbers: pieces, marks, errors. -/
namespace Go.Proofs.YtddkhkpdbjjboaaGreat
set_option linter.unusedVariables false
set_option linter.unusedSimpArgs false
set_option maxRecDepth 100000

theorem zip_at {α β : Type} {a : List α} {b : List β} {k : Nat} {x : α} {y : β} (ha : a[k]? = some x) (hb : b[k]? = some y) : (a.zip b)[k]? = some (x, y) := by
  rw [List.getElem?_zip_eq_some]; exact ⟨ha, hb⟩
/-- What pieces and marks are made of. -/
theorem splitR_in : ∀ (bs cur : List Int) (q : List (List Int) × List Int), splitR bs cur = some q → (∀ p ∈ q.1, p.length ≤ cur.length + bs.length ∧ ∀ x ∈ p, x ∈ cur ∨ x ∈ bs) ∧ (∀ y ∈ q.2, y ∈ bs) ∧ q.1.length = q.2.length + 1 ∧ q.2.length ≤ bs.length
  | [], cur, q, h => by
    simp [splitR] at h; subst h
    simp
  | [x], cur, q, h => by
    by_cases hx : x = 255
    · subst hx; rw [splitR_end] at h; cases h
    · rw [splitR_other hx] at h
      simp [splitR] at h; subst h
      simp
  | x :: y :: r, cur, q, h => by
    by_cases hx : x = 255
    · subst hx
      by_cases hy : y = 255
      · subst hy; rw [splitR_two] at h; cases h
      · by_cases hy0 : y = 0
        · subst hy0
          rw [splitR_pad] at h
          obtain ⟨h1, h2, h3, h4⟩ := splitR_in r (cur ++ [255, 0]) q h
          refine ⟨fun p hp => ?_, fun z hz => ?_, h3, by simp; omega⟩
          · obtain ⟨g1, g2⟩ := h1 p hp
            refine ⟨by simp at g1 ⊢; omega, fun z hz => ?_⟩
            rcases g2 z hz with g | g
            · rcases List.mem_append.1 g with g | g
              · exact .inl g
              · exact .inr (by simp at g ⊢; rcases g with g | g <;> simp [g])
            · exact .inr (by simp [g])
          · have := h2 z hz; simp [this]
        · rw [splitR_mark hy hy0] at h
          obtain ⟨q', hq', rfl⟩ := Option.map_eq_some_iff.1 h
          obtain ⟨h1, h2, h3, h4⟩ := splitR_in r [] q' hq'
          refine ⟨fun p hp => ?_, fun z hz => ?_, by simp [h3], by simp; omega⟩
          · rcases List.mem_cons.1 hp with rfl | hp
            · exact ⟨by omega, fun z hz => .inl hz⟩
            · obtain ⟨g1, g2⟩ := h1 p hp
              refine ⟨by simp at g1 ⊢; omega, fun z hz => ?_⟩
              rcases g2 z hz with g | g
              · simp at g
              · exact .inr (by simp [g])
          · rcases List.mem_cons.1 hz with rfl | hz
            · simp
            · have := h2 z hz; simp [this]
    · rw [splitR_other hx] at h
      obtain ⟨h1, h2, h3, h4⟩ := splitR_in (y :: r) (cur ++ [x]) q h
      refine ⟨fun p hp => ?_, fun z hz => ?_, h3, by simp at h4 ⊢; omega⟩
      · obtain ⟨g1, g2⟩ := h1 p hp
        refine ⟨by simp at g1 ⊢; omega, fun z hz => ?_⟩
        rcases g2 z hz with g | g
        · rcases List.mem_append.1 g with g | g
          · exact .inl g
          · exact .inr (by simp at g; simp [g])
        · exact .inr (List.mem_cons_of_mem _ g)
      · exact List.mem_cons_of_mem _ (h2 z hz)
theorem splitP_in {bs p : List Int} (h : p ∈ splitP bs) : p.length ≤ bs.length ∧ ∀ x ∈ p, x ∈ bs := by
  cases hs : splitR bs [] with
  | none => rw [(split_none hs).1] at h; simp at h
  | some q =>
    rw [(split_some hs).1] at h
    obtain ⟨g1, g2⟩ := (splitR_in bs [] q hs).1 p h
    refine ⟨by simpa using g1, fun x hx => ?_⟩
    rcases g2 x hx with g | g
    · simp at g
    · exact g
theorem splitP_bytes {bs p : List Int} (hb : Bytes bs) (h : p ∈ splitP bs) : Bytes p := fun x hx => hb x ((splitP_in h).2 x hx)
theorem splitP_count {bs : List Int} (h : splitErr bs = 0) : (splitP bs).length = (splitM bs).length + 1 ∧ (splitM bs).length ≤ bs.length := by
  cases hs : splitR bs [] with
  | none => rw [(split_none hs).2.2] at h; cases h
  | some q =>
    rw [(split_some hs).1, (split_some hs).2.1]
    exact ⟨(splitR_in bs [] q hs).2.2.1, (splitR_in bs [] q hs).2.2.2⟩
theorem marksB_iff (ms : List Int) : marksB ms = true ↔ ∀ (j : Nat) (m : Int), ms[j]? = some m → m = 208 + ((j % 8 : Nat) : Int) := by
  unfold marksB
  rw [List.all_eq_true]
  constructor
  · intro h j m hm
    have := h (m, j) (by rw [List.mem_zipIdx_iff_getElem?]; exact hm)
    simpa using this
  · intro h x hx
    obtain ⟨m, j⟩ := x
    rw [List.mem_zipIdx_iff_getElem?] at hx
    simpa using h j m hx
theorem marksB_bad {ms : List Int} {j : Nat} {m : Int} (hm : ms[j]? = some m) (h : m ≠ 208 + ((j % 8 : Nat) : Int)) : marksB ms = false := by
  cases hb : marksB ms with
  | false => rfl
  | true => exact absurd ((marksB_iff ms).1 hb j m hm) h
section
variable {cs syms cs2 syms2 bs : List Int} {n every : Int}
theorem eScD_head (h : eHead cs syms cs2 syms2 bs n every ≠ 0) : eScD cs syms cs2 syms2 bs n every = eHead cs syms cs2 syms2 bs n every := if_pos h
theorem eScD_count (h : eHead cs syms cs2 syms2 bs n every = 0) (h2 : (partsN n.toNat every.toNat).length ≠ (splitP bs).length) : eScD cs syms cs2 syms2 bs n every = 4 := by unfold eScD; rw [if_neg (by rw [h]; decide), if_pos h2]
theorem eScD_mark (h : eHead cs syms cs2 syms2 bs n every = 0) (h2 : (partsN n.toNat every.toNat).length = (splitP bs).length) (h3 : marksB (splitM bs) = false) : eScD cs syms cs2 syms2 bs n every = 6 := by unfold eScD; rw [if_neg (by rw [h]; decide), if_neg (by rw [h2]; simp), if_pos h3]
theorem eScD_segs (h : eHead cs syms cs2 syms2 bs n every = 0) (h2 : (partsN n.toNat every.toNat).length = (splitP bs).length) (h3 : marksB (splitM bs) = true) : eScD cs syms cs2 syms2 bs n every = eSegs cs syms cs2 syms2 bs n every := by unfold eScD; rw [if_neg (by rw [h]; decide), if_neg (by rw [h2]; simp), if_neg (by rw [h3]; decide)]
theorem oScD_err (h : eScD cs syms cs2 syms2 bs n every ≠ 0) : oScD cs syms cs2 syms2 bs n every = [] := if_neg h
theorem eHead_zero (h : eHead cs syms cs2 syms2 bs n every = 0) : ¬ (every < 0 ∨ 100 < every ∨ n < 0 ∨ 400 < n) ∧ eTs cs syms cs2 syms2 = 0 ∧ splitErr bs = 0 := by
  unfold eHead at h
  by_cases h1 : every < 0 ∨ 100 < every ∨ n < 0 ∨ 400 < n
  · rw [if_pos h1] at h; cases h
  · rw [if_neg h1] at h
    by_cases h2 : eTs cs syms cs2 syms2 = 0
    · rw [if_neg (by rw [h2]; decide)] at h; exact ⟨h1, h2, h⟩
    · rw [if_pos h2] at h; exact absurd h h2
/-- What a piece is decoded to: its blocks have 64 numbers each, and there are so many. -/
theorem oDec_rows (hcs : cs.length = 16) (hcs2 : cs2.length = 16) {p : List Int} (hb : Bytes p) (m : Int) : (∀ r ∈ oDec cs syms cs2 syms2 p m, r.length = 64) ∧ (eDec cs syms cs2 syms2 p m = 0 → ((oDec cs syms cs2 syms2 p m).length : Int) = m) := by
  by_cases h : eDec cs syms cs2 syms2 p m = 0
  · obtain ⟨h1, h2, _⟩ := again_ok hcs hcs2 hb h
    exact ⟨h1, fun _ => h2⟩
  · rw [oDec_err h]; exact ⟨by simp, fun h2 => absurd h2 h⟩
end
end Go.Proofs.YtddkhkpdbjjboaaGreat

/- What Decode and Mend ask first, in numbers. -/
namespace Go.Proofs.YtddkhkpdbjjboaaGreat
open Go.RowKit
set_option linter.unusedVariables false
set_option linter.unusedSimpArgs false
set_option maxRecDepth 100000

section
variable {cs syms cs2 syms2 bs : List Int} {n every : Int}
theorem eHead_arg (h : every < 0 ∨ 100 < every ∨ n < 0 ∨ 400 < n) : eHead cs syms cs2 syms2 bs n every = 1 := if_pos h
theorem eHead_tab (h : ¬ (every < 0 ∨ 100 < every ∨ n < 0 ∨ 400 < n)) (h2 : eTs cs syms cs2 syms2 ≠ 0) : eHead cs syms cs2 syms2 bs n every = eTs cs syms cs2 syms2 := by unfold eHead; rw [if_neg h, if_pos h2]
theorem eHead_split (h : ¬ (every < 0 ∨ 100 < every ∨ n < 0 ∨ 400 < n)) (h2 : eTs cs syms cs2 syms2 = 0) : eHead cs syms cs2 syms2 bs n every = splitErr bs := by unfold eHead; rw [if_neg h, if_neg (by rw [h2]; decide)]
end
section
variable (cs syms cs2 syms2 bs : List Int) (n every : Int)
/-- The pieces and the marks behind what Decode and Mend ask first. -/
def headP : List (List Int) := if eHead cs syms cs2 syms2 bs n every = 0 then splitP bs else []
def headM : List Int := if eHead cs syms cs2 syms2 bs n every = 0 then splitM bs else []
end
theorem head_split {cs syms cs2 syms2 bs : List Int} {n every : Int} (h : ¬ (every < 0 ∨ 100 < every ∨ n < 0 ∨ 400 < n)) (h2 : eTs cs syms cs2 syms2 = 0) : headP cs syms cs2 syms2 bs n every = splitP bs ∧ headM cs syms cs2 syms2 bs n every = splitM bs := by
  unfold headP headM
  rw [eHead_split h h2]
  cases hs : splitR bs [] with
  | none => obtain ⟨h1, h2, h3⟩ := split_none hs; rw [h1, h2]; simp
  | some q => obtain ⟨_, _, h3⟩ := split_some hs; rw [h3]; simp
end Go.Proofs.YtddkhkpdbjjboaaGreat

/- copy of blocks into a block of memory that is known. -/
namespace Go.Proofs.YtddkhkpdbjjboaaGreat
open Go.RowKit
set_option linter.unusedVariables false
set_option linter.unusedSimpArgs false
set_option maxRecDepth 100000

end Go.Proofs.YtddkhkpdbjjboaaGreat

/- Mend in numbers, step by step; blocks of zeros made. -/
namespace Go.Proofs.YtddkhkpdbjjboaaGreat
open Go.RowKit
set_option linter.unusedVariables false
set_option linter.unusedSimpArgs false
set_option maxRecDepth 100000

section
variable {cs syms cs2 syms2 : List Int} {ps : List (List Int)} {ns : List Nat} {k m : Nat}
end
end Go.Proofs.YtddkhkpdbjjboaaGreat

/- Rows of blocks written in place; what Mend answers where it refuses. -/
namespace Go.Proofs.YtddkhkpdbjjboaaGreat
open Go.RowKit
set_option linter.unusedVariables false
set_option linter.unusedSimpArgs false
set_option maxRecDepth 100000

section
variable {cs syms cs2 syms2 bs : List Int} {n every : Int}
end
end Go.Proofs.YtddkhkpdbjjboaaGreat

/- What scan's Encode, Decode and Mend are to do, as the laws use it. -/
namespace Go.Proofs.YtddkhkpdbjjboaaGreat
open Go.RowKit
set_option linter.unusedVariables false
set_option linter.unusedSimpArgs false
set_option maxRecDepth 100000

/-- Two tables in memory. -/
structure TabsIn (cs syms : List Int) (A : Option Addr) (c : Nat) (cs2 syms2 : List Int) (A2 : Option Addr) (c2 G : Nat) (w : World) : Prop where
  len : cs.length = 16
  max : syms.length ≤ maxLen
  cap : syms.length ≤ c
  bnd : ∀ x ∈ cs, -9223372036854775808 ≤ x ∧ x ≤ 9223372036854775807
  see : Seen w G A (ints .i64 syms)
  len2 : cs2.length = 16
  max2 : syms2.length ≤ maxLen
  cap2 : syms2.length ≤ c2
  bnd2 : ∀ x ∈ cs2, -9223372036854775808 ≤ x ∧ x ≤ 9223372036854775807
  see2 : Seen w G A2 (ints .i64 syms2)
theorem TabsIn.below {cs syms : List Int} {A : Option Addr} {c : Nat} {cs2 syms2 : List Int} {A2 : Option Addr} {c2 G B : Nat} {w w' : World} (h : TabsIn cs syms A c cs2 syms2 A2 c2 G w) (hb : Below B w w') (hG : G ≤ B) : TabsIn cs syms A c cs2 syms2 A2 c2 G w' :=
  ⟨h.len, h.max, h.cap, h.bnd, h.see.below hb hG, h.len2, h.max2, h.cap2, h.bnd2, h.see2.below hb hG⟩
theorem TabsIn.up {cs syms : List Int} {A : Option Addr} {c : Nat} {cs2 syms2 : List Int} {A2 : Option Addr} {c2 G G' : Nat} {w : World} (h : TabsIn cs syms A c cs2 syms2 A2 c2 G w) (hG : G ≤ G') : TabsIn cs syms A c cs2 syms2 A2 c2 G' w :=
  ⟨h.len, h.max, h.cap, h.bnd, h.see.up hG, h.len2, h.max2, h.cap2, h.bnd2, h.see2.up hG⟩
/-- scan.Encode's contract. -/
def EncSpec : Prop := ∀ (cs syms : List Int) (A : Option Addr) (c : Nat) (cs2 syms2 : List Int) (A2 : Option Addr) (c2 G : Nat) (L : List (List Int)) (A3 : Option Addr) (c3 : Nat) (every : Int) (w : World),
  TabsIn cs syms A c cs2 syms2 A2 c2 G w → (∀ r ∈ L, r.length = 64) → L.length ≤ maxLen → L.length ≤ c3 → Seen w G A3 (rowsC L) → G ≤ w.heap.size →
    Calls Tryz.prog 7 #[tabsV cs A syms.length c cs2 A2 syms2.length c2, .slice A3 L.length c3, .int .i64 every] w fun e w' => ∃ v, e = .returned (.tuple #[v, .int .i64 (eScan cs syms cs2 syms2 L every)]) ∧ Owns w.heap.size [byteRow v (oScan cs syms cs2 syms2 L every)] w' ∧ Below w.heap.size w w'
/-- scan.Decode's contract. -/
def DecSpec : Prop := ∀ (cs syms : List Int) (A : Option Addr) (c : Nat) (cs2 syms2 : List Int) (A2 : Option Addr) (c2 G : Nat) (bs : List Int) (A3 : Option Addr) (c3 : Nat) (n every : Int) (w : World),
  TabsIn cs syms A c cs2 syms2 A2 c2 G w → Bytes bs → bs.length ≤ 1048576 → bs.length ≤ c3 → Seen w G A3 (ints .u8 bs) → G ≤ w.heap.size →
    Calls Tryz.prog 5 #[tabsV cs A syms.length c cs2 A2 syms2.length c2, .slice A3 bs.length c3, .int .i64 n, .int .i64 every] w fun e w' => ∃ v, e = .returned (.tuple #[v, .int .i64 (eScD cs syms cs2 syms2 bs n every)]) ∧ Owns w.heap.size [blkRow v (oScD cs syms cs2 syms2 bs n every)] w' ∧ Below w.heap.size w w'
/-- Encode of no blocks in segments that may not be. -/
theorem encNeg_any (HS : EncSpec) {cs syms : List Int} {A : Option Addr} {c : Nat} {cs2 syms2 : List Int} {A2 : Option Addr} {c2 G : Nat} {w : World} (hT : TabsIn cs syms A c cs2 syms2 A2 c2 G w) (hG : G ≤ w.heap.size) :
    Calls Tryz.prog 7 #[tabsV cs A syms.length c cs2 A2 syms2.length c2, .slice none 0 0, .int .i64 (-1)] w fun e w' => ∃ A2 n2 c2, e = .returned (.tuple #[.slice A2 n2 c2, .int .i64 1]) ∧ Below w.heap.size w w' := by
  refine (HS cs syms A c cs2 syms2 A2 c2 G [] none 0 (-1) w hT (by intro r hr; cases hr) (by unfold maxLen; decide) (by simp) (.inl rfl) hG).mono ?_
  rintro e w' ⟨v, rfl, HO, hb⟩
  obtain ⟨A2, c2, hv, _⟩ := HO.seen (List.mem_cons_self ..)
  rw [eScan_every (by omega)]
  exact ⟨A2, _, c2, by rw [show v = _ from hv], hb⟩
theorem tabs34 {cs syms : List Int} {A : Option Addr} {c : Nat} {cs2 syms2 : List Int} {A2 : Option Addr} {c2 : Nat} (h : cs.length = 16) (h2 : cs2.length = 16) : (tabsCells cs A syms.length c cs2 A2 syms2.length c2).length = 34 := by unfold tabsCells; rw [List.length_append, tabCells_length h, tabCells_length h2]
end Go.Proofs.YtddkhkpdbjjboaaGreat
