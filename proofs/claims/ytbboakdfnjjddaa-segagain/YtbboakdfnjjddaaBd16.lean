/- Texts shared by the claims of this seat, in one. -/
import Derived.Test.YtbboakdfnjjddaaBd15
import Derived.Test.YtbboakdfnjjddaaBd13
import Derived.Test.YtbboakdfnjjddaaBd12
import Derived.Test.YtbboakdfnjjddaaBd14
import Derived.Test.YtbboakdfnjjddaaBd1
import Derived.Test.YtbboakdfnjjddaaRows
import Derived.Test.YtbboakdfnjjddaaBd6
import Derived.ProofKit
import Derived.OpenShut
import Derived.ChangeSame
import Derived.Deep.Slices
import Derived.SizedLaws
import Derived.ShutString
import Derived.ChangeOld
import Derived.JoinedCond
import Derived.Deep.SlicePairs
import Derived.Deep.Fields
import Derived.Test.YtbboakdfnjjddaaBd2
import Derived.Lib.SmallJoins
import Derived.Test.YtbboakdfnjjddaaBd11
/- seg.Decode: its contract. -/
namespace Go.Proofs.Ytbboakdfnjjddaa
open Go.RowKit
set_option linter.unusedVariables false
set_option linter.unusedSimpArgs false
set_option maxRecDepth 100000

theorem eTs_one {cs syms cs2 syms2 : List Int} (h : checkErr cs syms ≠ 0) : eTs cs syms cs2 syms2 = checkErr cs syms := if_neg h
theorem eTs_two {cs syms cs2 syms2 : List Int} (h : checkErr cs syms = 0) : eTs cs syms cs2 syms2 = checkErr cs2 syms2 := if_pos h
section
variable {cs syms cs2 syms2 bs : List Int} {n : Int}
theorem eDec_tab (h : eTs cs syms cs2 syms2 ≠ 0) : eDec cs syms cs2 syms2 bs n = eTs cs syms cs2 syms2 := if_pos h
theorem eDec_n (h : eTs cs syms cs2 syms2 = 0) (h2 : n < 0 ∨ 400 < n) : eDec cs syms cs2 syms2 bs n = 1 := by unfold eDec; rw [if_neg (by rw [h]; decide), if_pos h2]
theorem eDec_plain (h : eTs cs syms cs2 syms2 = 0) (h2 : ¬ (n < 0 ∨ 400 < n)) (h3 : plainErr bs ≠ 0) : eDec cs syms cs2 syms2 bs n = plainErr bs := by unfold eDec; rw [if_neg (by rw [h]; decide), if_neg h2, if_pos h3]
theorem eDec_dec (h : eTs cs syms cs2 syms2 = 0) (h2 : ¬ (n < 0 ∨ 400 < n)) (h3 : plainErr bs = 0) (h4 : (segD cs syms cs2 syms2 bs n.toNat).1 ≠ 0) : eDec cs syms cs2 syms2 bs n = (segD cs syms cs2 syms2 bs n.toNat).1 := by unfold eDec; rw [if_neg (by rw [h]; decide), if_neg h2, if_neg (by rw [h3]; decide), if_pos h4]
theorem eDec_fill (h : eTs cs syms cs2 syms2 = 0) (h2 : ¬ (n < 0 ∨ 400 < n)) (h3 : plainErr bs = 0) (h4 : (segD cs syms cs2 syms2 bs n.toNat).1 = 0) : eDec cs syms cs2 syms2 bs n = if fillB (segD cs syms cs2 syms2 bs n.toNat).2.2 = true then 0 else 4 := by unfold eDec; rw [if_neg (by rw [h]; decide), if_neg h2, if_neg (by rw [h3]; decide), if_neg (by rw [h4]; decide)]
end
theorem plainR_mem : ∀ (bs p : List Int), plainR bs = some p → ∀ x ∈ p, x ∈ bs
  | [], p, h, x, hx => by simp [plainR] at h; subst h; simp at hx
  | [y], p, h, x, hx => by
    by_cases hy : y = 255
    · subst hy; rw [plainR_end] at h; cases h
    · simp [plainR, hy] at h; subst h; exact hx
  | y :: z :: r, p, h, x, hx => by
    by_cases hy : y = 255
    · subst hy
      by_cases hz : z = 0
      · subst hz
        rw [plainR_lead] at h
        obtain ⟨q, hq, rfl⟩ := Option.map_eq_some_iff.1 h
        rcases List.mem_cons.1 hx with rfl | hx
        · simp
        · have := plainR_mem r q hq x hx; simp [this]
      · rw [plainR_bad hz] at h; cases h
    · rw [plainR_other hy] at h
      obtain ⟨q, hq, rfl⟩ := Option.map_eq_some_iff.1 h
      rcases List.mem_cons.1 hx with rfl | hx
      · simp
      · have := plainR_mem (z :: r) q hq x hx
        exact List.mem_cons_of_mem _ this
theorem plain_bytes {bs : List Int} (h : Bytes bs) : Bytes (plainOut bs) := by
  cases hp : plainR bs with
  | none => rw [(plain_none hp).1]; intro x hx; simp at hx
  | some p => rw [(plain_some hp).1]; exact fun x hx => h x (plainR_mem bs p hp x hx)
theorem plain_length (bs : List Int) : (plainOut bs).length ≤ bs.length := by
  cases hp : plainR bs with
  | none => rw [(plain_none hp).1]; simp
  | some p =>
    have := length_le_stuffB p
    rw [stuffB_plainR bs p hp] at this
    rw [(plain_some hp).1]; exact this
theorem words_pf {cs syms : List Int} (hcs : cs.length = 16) (h : checkErr cs syms = 0) : PF (outWords cs syms) ∧ ∀ t ∈ outWords cs syms, 0 ≤ t.1 ∧ t.1 ≤ 255 := by
  obtain ⟨l, hf, how, hll⟩ := fine_of h
  rw [how]
  exact ⟨hf.pf hcs, fun t ht => (hf.word hcs ht).1⟩
set_option maxRecDepth 100000 in
set_option maxHeartbeats 8000000 in
theorem segDecode_any (cs syms : List Int) (A : Option Addr) (c : Nat) (cs2 syms2 : List Int) (A2 : Option Addr) (c2 G : Nat) (bs : List Int) (A3 : Option Addr) (c3 : Nat) (n : Int) (w : World)
    (hcs : cs.length = 16) (hn : syms.length ≤ maxLen) (hb : ∀ x ∈ cs, -9223372036854775808 ≤ x ∧ x ≤ 9223372036854775807) (hs : Seen w G A (ints .i64 syms))
    (hcs2 : cs2.length = 16) (hn2 : syms2.length ≤ maxLen) (hb2 : ∀ x ∈ cs2, -9223372036854775808 ≤ x ∧ x ≤ 9223372036854775807) (hs2 : Seen w G A2 (ints .i64 syms2))
    (hs3 : Seen w G A3 (ints .u8 bs)) (hby : Bytes bs) (hl : bs.length ≤ 140737488355328) (hG : G ≤ w.heap.size) :
    Calls Try.prog 17 #[tabsV cs A syms.length c cs2 A2 syms2.length c2, .slice A3 bs.length c3, .int .i64 n] w fun e w' => ∃ v, e = .returned (.tuple #[v, .int .i64 (eDec cs syms cs2 syms2 bs n)]) ∧ Owns w.heap.size [blkRow v (oDec cs syms cs2 syms2 bs n)] w' ∧ Below w.heap.size w w' := by
  have h17 : (tabCells cs A syms.length c).length = 17 := tabCells_length hcs
  have h17b : (tabCells cs2 A2 syms2.length c2).length = 17 := tabCells_length hcs2
  have HC1 := veil (fun W h hG => symbols_any cs syms A c G W hcs hn hb h hG)
  have HC2 := veil (fun W h hG => symbols_any cs2 syms2 A2 c2 G W hcs2 hn2 hb2 h hG)
  have hb0 := below1 w (.cells (tabsCells cs A syms.length c cs2 A2 syms2.length c2).toArray 36)
  have hz0 : (w.alloc (.cells (tabsCells cs A syms.length c cs2 A2 syms2.length c2).toArray 36)).heap.size = w.heap.size + 1 := by simp
  have hr := range_new w (tabsCells cs A syms.length c cs2 A2 syms2.length c2) 36
  have hr1 := range_left hr
  have hr2 := range_right hr
  rw [h17] at hr2
  have HPl := veil (fun W h hG => plain_any A3 c3 G bs W h hG hl)
  have Hby := veil hby
  have Hcs := veil hcs
  have Hcs2 := veil hcs2
  obtain ⟨E, hE⟩ : ∃ E, E = eDec cs syms cs2 syms2 bs n := ⟨_, rfl⟩
  obtain ⟨O, hO⟩ : ∃ O, O = oDec cs syms cs2 syms2 bs n := ⟨_, rfl⟩
  rw [← hE, ← hO]
  have HOe : Hid (E ≠ 0 → O = []) := by show _ → _; intro h; rw [hO]; exact oDec_err (by rw [← hE]; exact h)
  have HE := veil hE
  have HO := veil hO
  have H17 := veil h17
  have H17b := veil h17b
  have Hl := veil hl
  clear hr h17 h17b hcs hcs2 hb hb2 hby hE hO hl
  unfold tabsV
  unfold tabV at HC1 HC2
  generalize tabsCells cs A syms.length c cs2 A2 syms2.length c2 = zs at *
  generalize tabCells cs A syms.length c = xs at *
  generalize tabCells cs2 A2 syms2.length c2 = ys at *
  go_enter Try.func17, Try.ntmps17
  go_wp2_with (first
    | (refine wpList_load_mid rfl 34 (.tmp 18) rfl w.heap.size 0 rfl xs _ hr1 Try.underlying34 rfl (by rw [H17.out]; exact info_tab) ?_)
    | fail)
  refine (HC1.out _ (hs.below hb0 hG) (by rw [hz0]; omega)).mono ?_
  rintro e w1 ⟨v1, rfl, hok1, hbad1, hb1⟩
  have hr2' := range_below hr2 hb1 (by rw [hz0]; omega)
  have hbw := hb0.trans (hb1.mono (by rw [hz0]; omega))
  have hz1 := hb1.size
  rw [hz0] at hz1
  clear hr1 hr2 hb0 HC1
  by_cases h0 : checkErr cs syms = 0
  · obtain ⟨b1, rfl, hb1l, HM1⟩ := hok1 h0
    rw [h0]
    rw [hz0] at hb1l
    have H0 := veil h0
    have HM1 := veil HM1
    have hb1z := HM1.out.lt
    clear hok1 hbad1 h0 hb1
    go_wp2_with (first
      | (refine wpList_load_mid rfl 34 (.tmp 27) rfl w.heap.size 17 rfl ys _ (by simpa using hr2') Try.underlying34 rfl (by rw [H17b.out]; exact info_tab) ?_)
      | fail)
    refine (HC2.out _ (hs2.below hbw hG) (by omega)).mono ?_
    rintro e w2 ⟨v2, rfl, hok2, hbad2, hb2⟩
    have hbw2 := hbw.trans (hb2.mono hbw.size)
    have hz2 := hb2.size
    have HM12 := HM1.out.below hb2 hb1z
    clear hr2' HC2 HM1
    by_cases h0b : checkErr cs2 syms2 = 0
    · obtain ⟨b2, rfl, hb2l, HM2⟩ := hok2 h0b
      rw [h0b]
      have hb2z := HM2.lt
      have HT0 : Hid (eTs cs syms cs2 syms2 = 0) := by show _ = _; rw [eTs_two H0.out]; exact h0b
      have H0b := veil h0b
      have HM1 := veil HM12
      have HM2 := veil HM2
      clear hok2 hbad2 h0b HM12 hb2
      by_cases hrg : n < 0 ∨ 400 < n
      · have hE1 := eDec_n (bs := bs) HT0.out hrg
        rw [← HE.out] at hE1
        have hO1 := HOe.out (by rw [hE1]; decide)
        have HE1 := veil hE1
        have HO1 := veil hO1
        clear hE1 hO1
        by_cases hn0 : n < 0
        · clear hrg
          go_wp2
          go_ret2
          exact ⟨_, ret_two rfl (by rw [HE1.out]; rfl), by rw [HO1.out]; exact (Owns.nil hbw2.size).fresh _ _, hbw2⟩
        · have hn1 : 400 < n := by omega
          clear hrg
          go_wp2
          go_ret2
          exact ⟨_, ret_two rfl (by rw [HE1.out]; rfl), by rw [HO1.out]; exact (Owns.nil hbw2.size).fresh _ _, hbw2⟩
      · have Hrg := veil hrg
        obtain ⟨N, hN, hN400⟩ : ∃ N : Nat, n = (N : Int) ∧ N ≤ 400 := ⟨n.toNat, by omega, by omega⟩
        subst hN
        have hg1 : ¬ (N : Int) < 0 := by omega
        have hg2 : ¬ (400 : Int) < (N : Int) := by omega
        clear hrg
        go_wp2_with fail
        refine (HPl.out _ (hs3.below hbw2 hG) (by omega)).mono ?_
        rintro e w3 ⟨v3, rfl, HO3, hb3⟩
        have hz3 := hb3.size
        have hbw3 := hbw2.trans (hb3.mono hbw2.size)
        have HM13 := HM1.out.below hb3 (by omega)
        have HM23 := HM2.out.below hb3 hb2z
        clear hg1 hg2 HM1 HM2
        by_cases hp : plainErr bs = 0
        · rw [hp]
          obtain ⟨P, hP, hPby, hPl⟩ : ∃ P, P = plainOut bs ∧ Bytes P ∧ P.length ≤ 140737488355328 := ⟨_, rfl, plain_bytes Hby.out, by
            have := plain_length bs
            have := Hl.out
            omega⟩
          rw [← hP] at HO3
          obtain ⟨Ap, cp, e3, hsp, hcp, hmp⟩ := HO3.seen (List.mem_cons_self ..)
          simp only [byteRow, intRow] at e3 hsp hcp
          subst e3
          obtain ⟨fw, hfw⟩ : ∃ fw, fw = outWords cs syms := ⟨_, rfl⟩
          obtain ⟨rw_, hrw⟩ : ∃ rw_, rw_ = outWords cs2 syms2 := ⟨_, rfl⟩
          obtain ⟨hpf1, hsm1⟩ : PF fw ∧ ∀ t ∈ fw, 0 ≤ t.1 ∧ t.1 ≤ 255 := by rw [hfw]; exact words_pf Hcs.out H0.out
          obtain ⟨hpf2, hsm2⟩ : PF rw_ ∧ ∀ t ∈ rw_, 0 ≤ t.1 ∧ t.1 ≤ 255 := by rw [hrw]; exact words_pf Hcs2.out H0b.out
          rw [← hfw] at HM13
          rw [← hrw] at HM23
          have hSD : segD cs syms cs2 syms2 bs N = decS fw rw_ N 0 (unpack P) := by unfold segD; rw [hfw, hrw, hP]
          have HED : Hid ((segD cs syms cs2 syms2 bs N).1 ≠ 0 → E = (segD cs syms cs2 syms2 bs N).1) := fun h => HE.out.trans (eDec_dec HT0.out Hrg.out hp (by rw [Int.toNat_natCast]; exact h))
          have HEF : Hid ((segD cs syms cs2 syms2 bs N).1 = 0 → E = if fillB (segD cs syms cs2 syms2 bs N).2.2 = true then 0 else 4) := fun h => HE.out.trans (by rw [eDec_fill HT0.out Hrg.out hp (by rw [Int.toNat_natCast]; exact h), Int.toNat_natCast])
          have HOO : Hid (E = 0 → O = (segD cs syms cs2 syms2 bs N).2.1) := fun h => HO.out.trans (by unfold oDec; rw [if_pos (by rw [← HE.out]; exact h), Int.toNat_natCast])
          rw [hSD] at HED HEF HOO
          have hbX := below1 w3 (.cells #[.slice Ap P.length cp, .int .i64 0, .map (some b1), .map (some b2)] 94)
          have hTR0 : TR Ap cp w3.heap.size w3.heap.size P b1 syms.length fw b2 syms2.length rw_ (w3.alloc (.cells #[.slice Ap P.length cp, .int .i64 0, .map (some b1), .map (some b2)] 94)) (unpack P) :=
            ⟨0, ⟨Blk.new w3 [.slice Ap P.length cp, .int .i64 0, .map (some b1), .map (some b2)] 94, hsp.below hbX (Nat.le_refl _), hcp, hmp, hPl, by omega, Nat.le_refl _⟩, HM13.below hbX (by omega), HM23.below hbX (by omega), by omega, by omega, rfl⟩
          have HBk := veil (fun (before : Int) W s (h : TR Ap cp w3.heap.size w3.heap.size P b1 syms.length fw b2 syms2.length rw_ W s) (hb : -2047 ≤ before ∧ before ≤ 2047) => segBlock_any Ap cp w3.heap.size w3.heap.size P b1 syms.length fw b2 syms2.length rw_ before W s h hPby hpf1 hsm1 hpf2 hsm2 hb)
          have HFl := veil (fun at_ W (h : Rd Ap cp w3.heap.size w3.heap.size P (.map (some b1)) (.map (some b2)) at_ W) => onlyFill_any Ap cp w3.heap.size w3.heap.size P _ _ at_ W h hPby)
          have HTR0 := veil hTR0
          have hbwX := hbw3.trans (hbX.mono hbw3.size)
          have hzX : (w3.alloc (.cells #[.slice Ap P.length cp, .int .i64 0, .map (some b1), .map (some b2)] 94)).heap.size = w3.heap.size + 1 := by simp
          obtain ⟨cur, hmk, hcur⟩ := run_make_blocks N (by omega) (w3.alloc (.cells #[.slice Ap P.length cp, .int .i64 0, .map (some b1), .map (some b2)] 94))
          obtain ⟨g, hg⟩ : ∃ g, g = w3.heap.size := ⟨_, rfl⟩
          have Hcur := veil hcur
          have HDS0 := veil (DS.start fw rw_ N (unpack P))
          have hgw : w.heap.size ≤ g := by rw [hg]; omega
          have hb1g : b1 < g := by omega
          have hb2g : b2 < g := by omega
          clear HO3 hsp hpf1 hpf2 hsm1 hsm2 hfw hrw HM13 HM23 hSD hP hPby hbX hTR0 hp HPl hs hs2 hs3 hb3 hbw hbw2 hbw3 hcur
          go_wp2_with fail
          clear hmk
          have hrow0 := (Owns.start (w3.alloc (.cells #[.slice Ap P.length cp, .int .i64 0, .map (some b1), .map (some b2)] 94))).made 47 64 cur N (by unfold maxLen; omega) Hcur.out
          rw [hzX] at hrow0
          have hbY := below1 (w3.alloc (.cells #[.slice Ap P.length cp, .int .i64 0, .map (some b1), .map (some b2)] 94)) (.cells cur 47)
          have hTRY := HTR0.out.belowB hbY (by rw [hzX]; omega)
          have hbwY := hbwX.trans (hbY.mono hbwX.size)
          rw [← hg] at HBk HFl hTRY hrow0 ⊢
          have Hg := veil hg
          clear hg
          go_loopg [13, 14, 15, 16, 58] N (fun gk v13 v14 v15 v16 iv wr => ∃ (k : Nat) (acc : List (List Int)) (before : Int) (s : List Bool), gk = N - k ∧ k ≤ N ∧ iv = .int .i64 (k : Int) ∧ v14 = .int .i64 before ∧ Hid (DS fw rw_ N (unpack P) k acc before s) ∧ Hid (TR Ap cp g g P b1 syms.length fw b2 syms2.length rw_ wr s) ∧ Owns (g + 1) [blkRow v13 acc] wr ∧ Below w.heap.size w wr)
          case atStart => exact ⟨0, [], 0, unpack P, rfl, Nat.zero_le _, rfl, rfl, HDS0, hTRY, hrow0, hbwY⟩
          case round =>
            obtain ⟨k, acc, before, s, rfl, hk, rfl, rfl, HDS, HTR, hO, hbw⟩ := hrel
            have hTz := HTR.out.lt
            clear HDS0 hTRY hrow0 hbwY hbY
            by_cases hlt : k < N
            · have hltz : (k : Int) < (N : Int) := by omega
              have HB := veil (HBk.out before wr s HTR.out HDS.out.2.1)
              go_wp2_with fail
              refine HB.out.mono ?_
              rintro e w4 ⟨rfl, hg4, hs4⟩
              have hosl := outBk_length (step := stepS fw rw_) before s
              obtain ⟨D, hD⟩ : ∃ D, D = gB (stepS fw rw_) before s := ⟨_, rfl⟩
              have HD := veil hD
              rw [← hD] at hs4 hosl ⊢
              obtain ⟨er, her⟩ : ∃ er, er = D.1 := ⟨_, rfl⟩
              obtain ⟨os, hos⟩ : ∃ os, os = outBk D := ⟨_, rfl⟩
              have Her := veil her
              have Hos := veil hos
              rw [← her, ← hos]
              rw [← hos] at hosl
              have Hosl : Hid ((ints .i64 os).length = 64) := by show _ = _; rw [ints_length, hosl]
              have hone := ints_one (k := .i64) (l := os)
              have hz4 := hg4.size
              have hO4 := hO.kept hg4 (by omega)
              have hbw4 := hbw.grown hg4 hbw.size (fun j hj => by injection hj with hj; omega)
              have hown := fun j hj => ((hO4.head).lt j hj).2
              have hr5 := range_new w4 (ints .i64 os) 47
              have hb5 := below1 w4 (.cells (ints .i64 os).toArray 47)
              have hO5 := hO4.alloc (.cells (ints .i64 os).toArray 47)
              have hbw5 := hbw4.trans (hb5.mono hbw4.size)
              obtain ⟨zs5, hys⟩ : ∃ zs5, zs5 = ints .i64 os := ⟨_, rfl⟩
              have Hys := veil hys
              have hz0' : zs5[0]? = some (.int .i64 (os.headD 0)) := by
                rw [hys]
                match os, hosl with
                | o :: os, _ => rfl
              unfold blkV
              rw [← hys] at hr5 hb5 hO5 hbw5 Hosl hone ⊢
              clear hD her hos hys HB hO hbw
              by_cases he : er = 0
              · have he' : (gB (stepS fw rw_) before s).1 = 0 := by rw [← HD.out, ← Her.out]; exact he
                obtain ⟨_, _, ⟨s', hs'⟩, _⟩ := gB_in (fun _ _ _ h => stepS_ne h) he'
                have hnext := HDS.out.next hlt he' hs'
                rw [← HD.out, ← Hos.out] at hnext
                rw [← HD.out] at hs'
                have hTR4 := hs4 s' hs'
                have hTR5 := hTR4.belowB hb5 (by omega)
                have Hnext := veil hnext
                have HTR5 := veil hTR5
                have hacc : acc.length + 1 ≤ 1000000 := by have := HDS.out.1; omega
                have Hacc := veil hacc
                subst he
                clear he' hs' hs4 hnext hTR4 hTR5 HDS HTR hacc
                go_upto_region 21 with (first
                  | (refine wpList_store_new w4 rfl 47 (.tmp 15) (.tmp 64) rfl zeroB.toArray zs5 rfl rfl (info_blkn Hosl.out) (by rw [Hosl.out]; rfl) hone ?_)
                  | (refine wpList_load_mid rfl 47 (.tmp 15) rfl w4.heap.size 0 rfl zs5 _ hr5 Try.underlying47 rfl (info_blkn Hosl.out) ?_)
                  | (refine wpList_buildBlk rfl (.tmp 70) rfl zs5 rfl Hosl.out ?_)
                  | (refine wpList_ownB (w4.alloc (.cells zs5.toArray 47)) rfl (.tmp 69) (.tmp 71) rfl (g + 1) u13 acc [] rfl hO5 os zs5 Hys.out hosl rfl Hacc.out ?_; intro v' w6 hO6 hg6 hb6 hs6)
                  | fail)
                have hc5 := hr5 0 _ hz0'
                have hne6 : some w4.heap.size ≠ u13.ownBlock := fun e => by have := hown _ e.symm; omega
                have hc6 := reg_far hg6 hne6 (i := 0) (u := .int .i64 (os.headD 0)) (by rw [World.cell?_of_block (Below.heap_alloc _ _ _ (by simp))]; simpa using hc5)
                have HTR6 := veil (HTR5.out.belowB hb6 (by omega))
                have hbw6 := hbw5.trans (hb6.mono (by omega))
                clear hc5 hg6 hb6 hO5 hbw5 hr5 hb5 HTR5 hO4 hbw4 hg4 hz0'
                go_wp2_with fail
                go_roundg (N - (k + 1))
                case rel => exact ⟨k + 1, acc ++ [os], os.headD 0, s', rfl, by omega, by go_num, by rw [List.headD_eq_head?_getD], Hnext, HTR6, hO6, hbw6⟩
                case measure => omega
              · have he' : (gB (stepS fw rw_) before s).1 ≠ 0 := by rw [← HD.out, ← Her.out]; exact he
                have hq := HDS.out.err hlt he'
                rw [← HD.out, ← Her.out] at hq
                have hE1 : E = er := by rw [HED.out (by rw [hq]; exact he), hq]
                have hO1 := HOe.out (by rw [hE1]; exact he)
                have HE1 := veil hE1
                have HO1 := veil hO1
                have hbe : (er != 0) = true := by simpa using he
                clear he he' hq hE1 hO1 hs4
                go_wp2_with (first
                  | (refine wpList_store_new w4 rfl 47 (.tmp 15) (.tmp 64) rfl zeroB.toArray zs5 rfl rfl (info_blkn Hosl.out) (by rw [Hosl.out]; rfl) hone ?_)
                  | fail)
                go_ret2
                exact ⟨_, ret_two rfl (by rw [HE1.out]; rfl), by rw [HO1.out]; exact (Owns.nil hbw5.size).fresh _ _, hbw5⟩
            · obtain rfl : k = N := by omega
              have hq := HDS.out.done
              obtain ⟨at_, hR, _, _, _, _, hsa⟩ := HTR.out
              have HF := veil (HFl.out at_ wr hR)
              rw [← hsa] at HF
              have hE1 : E = if fillB s = true then 0 else 4 := by rw [HEF.out (by rw [hq]), hq]
              have HQ := veil hq
              have Hgw := veil hgw
              clear hR hsa hq HTR
              go_wp2_with fail
              refine HF.out.mono ?_
              rintro e w4 ⟨rfl, hg4⟩
              have hO4 := hO.kept hg4 (by omega)
              have hbw4 := hbw.grown hg4 hbw.size (fun j hj => by injection hj with hj; omega)
              cases hfl : fillB s with
              | true =>
                rw [hfl, if_pos rfl] at hE1
                have hO1 := HOO.out hE1
                rw [HQ.out] at hO1
                have HE1 := veil hE1
                have HO1 := veil hO1
                clear hE1 hO1 hfl HF
                go_wp2_with fail
                go_ret2
                exact ⟨_, ret_two rfl (by rw [HE1.out]; rfl), by rw [HO1.out]; exact hO4.down (by omega), hbw4⟩
              | false =>
                rw [hfl, if_neg (by decide)] at hE1
                have hO1 := HOe.out (by rw [hE1]; decide)
                have HE1 := veil hE1
                have HO1 := veil hO1
                clear hE1 hO1 hfl HF hO4 hO
                go_wp2_with fail
                go_ret2
                exact ⟨_, ret_two rfl (by rw [HE1.out]; rfl), by rw [HO1.out]; exact (Owns.nil hbw4.size).fresh _ _, hbw4⟩
        · have hE1 := eDec_plain (bs := bs) HT0.out Hrg.out hp
          have hne : (plainErr bs != 0) = true := by simpa using hp
          rw [← HE.out] at hE1
          have hO1 := HOe.out (by rw [hE1]; exact hp)
          have HO1 := veil hO1
          have HE1 := veil hE1
          obtain ⟨er, her⟩ : ∃ er, er = plainErr bs := ⟨_, rfl⟩
          rw [← her] at hne HE1 ⊢
          clear hE1 hO1 HO3 hp her
          go_wp2
          go_ret2
          exact ⟨_, ret_two rfl (by rw [HE1.out]; rfl), by rw [HO1.out]; exact (Owns.nil hbw3.size).fresh _ _, hbw3⟩
    · have hE1 := eDec_tab (cs := cs) (syms := syms) (cs2 := cs2) (syms2 := syms2) (bs := bs) (n := n) (by rw [eTs_two H0.out]; exact h0b)
      rw [eTs_two H0.out, ← HE.out] at hE1
      have hO1 := HOe.out (by rw [hE1]; exact h0b)
      have hne : (checkErr cs2 syms2 != 0) = true := by simpa using h0b
      have HO1 := veil hO1
      have HE1 := veil hE1
      obtain ⟨er, her⟩ : ∃ er, er = checkErr cs2 syms2 := ⟨_, rfl⟩
      rw [← her] at hne HE1 ⊢
      clear hE1 hO1 h0b her hok2 hbad2
      go_wp2
      go_ret2
      exact ⟨_, ret_two rfl (by rw [HE1.out]; rfl), by rw [HO1.out]; exact (Owns.nil hbw2.size).fresh _ _, hbw2⟩
  · have hE1 := eDec_tab (cs := cs) (syms := syms) (cs2 := cs2) (syms2 := syms2) (bs := bs) (n := n) (by rw [eTs_one h0]; exact h0)
    rw [eTs_one h0, ← HE.out] at hE1
    have hO1 := HOe.out (by rw [hE1]; exact h0)
    have hne : (checkErr cs syms != 0) = true := by simpa using h0
    have HO1 := veil hO1
    have HE1 := veil hE1
    obtain ⟨er, her⟩ : ∃ er, er = checkErr cs syms := ⟨_, rfl⟩
    rw [← her] at hne HE1 ⊢
    clear hE1 hO1 h0 her hok1 hbad1
    go_wp2
    go_ret2
    exact ⟨_, ret_two rfl (by rw [HE1.out]; rfl), by rw [HO1.out]; exact (Owns.nil hbw.size).fresh _ _, hbw⟩
end Go.Proofs.Ytbboakdfnjjddaa

/- Blocks out of bits: the bits of their tokens are what was read. -/
namespace Go.Proofs.Ytbboakdfnjjddaa
set_option linter.unusedVariables false
set_option linter.unusedSimpArgs false
set_option maxRecDepth 100000

theorem symF_mine {ws : List (Int × Nat × Nat)} (hnd : (ws.map (·.1)).Nodup) {t : Int × Nat × Nat} (ht : t ∈ ws) : symF ws t.1 = some (fi t) := by
  induction ws using snoc_ind with
  | h0 => simp at ht
  | h1 ws u ih =>
    rw [List.map_append, List.nodup_append] at hnd
    rw [symF_snoc]
    unfold upd
    by_cases e : t.1 = u.1
    · rw [if_pos e]
      rcases List.mem_append.1 ht with h | h
      · exact absurd e (hnd.2.2 t.1 (List.mem_map_of_mem h) u.1 (by simp))
      · simp at h; rw [h]
    · rw [if_neg e]
      rcases List.mem_append.1 ht with h | h
      · exact ih hnd.1 h
      · simp at h; rw [h] at e; exact absurd rfl e
theorem next_word {ws : List (Int × Nat × Nat)} {b : List Bool} (h : nextE ws b = 0) : ∃ t ∈ ws, nextS ws b = t.1 ∧ nextL ws b = t.2.1 ∧ bitsN t.2.1 t.2.2 <+: b := by
  unfold nextE at h
  split at h
  · rename_i h1
    obtain ⟨⟨s, n⟩, hp⟩ := Option.isSome_iff_exists.1 h1
    obtain ⟨t, ht, e1, e2, h2⟩ := find1_mem hp
    exact ⟨t, ht, by unfold nextS; rw [hp, e1]; rfl, by unfold nextL; rw [hp, e2]; rfl, h2⟩
  · split at h <;> cases h
/-- Words of symbols that are all different. -/
def Own1 (ws : List (Int × Nat × Nat)) : Prop := (ws.map (·.1)).Nodup
theorem step_bits {fw rw_ : List (Int × Nat × Nat)} {first : Bool} (hnd : Own1 (wsOf fw rw_ first)) {b s : List Bool} {t : Int × Int × Int} (h : stepS fw rw_ first b = .inr (t, s)) :
    b = tokBits (wsOf fw rw_ first) t ++ s ∧ (symF (wsOf fw rw_ first) t.1).isSome = true := by
  unfold stepS at h
  by_cases h1 : nextE (wsOf fw rw_ first) b = 0
  · rw [if_neg (by rw [h1]; decide)] at h
    split at h
    · cases h
    · rename_i h2
      split at h
      · cases h
      · rename_i h3
        injection h with h
        injection h with h4 h5
        obtain ⟨u, hu, e1, e2, h6⟩ := next_word h1
        have hs := symF_mine hnd hu
        have hb := List.prefix_iff_eq_take.1 h6
        rw [bitsN_length] at hb
        rw [e1, e2] at h3 h4 h5
        generalize hW : widS first u.1 = W at *
        subst h4 h5
        refine ⟨?_, by rw [hs]; rfl⟩
        unfold tokBits symBits
        simp only [hs, Option.getD_some, fi, Int.toNat_natCast]
        have h7 := bitsN_valB (((b.drop u.2.1).take W.toNat))
        rw [show ((b.drop u.2.1).take W.toNat).length = W.toNat by rw [List.length_take]; omega] at h7
        rw [h7, hb, List.append_assoc, List.take_append_drop, List.take_append_drop]
  · rw [if_pos h1] at h; cases h
theorem rest_bits {fw rw_ : List (Int × Nat × Nat)} (hnd : Own1 rw_) : ∀ (k : Nat) (b : List Bool), (gR (stepS fw rw_) k b).1 = 0 → ∃ s', (gR (stepS fw rw_) k b).2.2.2 = some s' ∧
    b = ((gR (stepS fw rw_) k b).2.2.1.flatMap (tokBits rw_)) ++ s' ∧ ∀ t ∈ (gR (stepS fw rw_) k b).2.2.1, (symF rw_ t.1).isSome = true := by
  intro k
  induction k using Nat.strongRecOn with
  | _ k ih =>
    intro b h
    cases k with
    | zero => rw [gR]; exact ⟨b, rfl, rfl, by simp⟩
    | succ k =>
      rw [gR] at h ⊢
      cases hst : stepS fw rw_ false b with
      | inl e => rw [hst] at h; exact absurd h (stepS_ne hst)
      | inr q =>
        obtain ⟨t, s2⟩ := q
        obtain ⟨g1, g2⟩ := step_bits (first := false) hnd hst
        rw [show wsOf fw rw_ false = rw_ from rfl] at g1 g2
        rw [hst] at h
        simp only [] at h ⊢
        by_cases h1 : okT t = true
        · rw [if_pos h1] at h ⊢
          by_cases h2 : t.1 = 0
          · rw [if_pos h2]
            exact ⟨s2, rfl, by simp only [List.flatMap_cons, List.flatMap_nil, List.append_nil]; exact g1, fun u hu => by rw [List.mem_singleton.1 hu]; exact g2⟩
          · rw [if_neg h2] at h ⊢
            by_cases h3 : k + 1 < farT t
            · rw [if_pos h3] at h; simp at h
            · rw [if_neg h3] at h ⊢
              have hp : 0 < farT t := by unfold farT; omega
              by_cases h4 : (gR (stepS fw rw_) (k + 1 - farT t) s2).1 = 0
              · obtain ⟨s', e1, e2, e3⟩ := ih (k + 1 - farT t) (by omega) s2 h4
                rw [if_pos h4]
                refine ⟨s', e1, ?_, fun u hu => ?_⟩
                · simp only [List.flatMap_cons, List.append_assoc]
                  rw [← e2]; exact g1
                · rcases List.mem_cons.1 hu with rfl | hu
                  · exact g2
                  · exact e3 u hu
              · rw [if_neg h4] at h; exact absurd h h4
        · rw [if_neg h1] at h; simp at h
theorem flag_bits (fw rw_ : List (Int × Nat × Nat)) (t : Int × Int × Int) (l : List (Int × Int × Int)) : segBits fw rw_ (flagT (t :: l)) = tokBits fw t ++ l.flatMap (tokBits rw_) := by
  unfold segBits flagT
  simp [List.flatMap_cons, wsOf, List.flatMap_map]
theorem flag_all {fw rw_ : List (Int × Nat × Nat)} {t : Int × Int × Int} {l : List (Int × Int × Int)} (h1 : (symF fw t.1).isSome = true) (h2 : ∀ u ∈ l, (symF rw_ u.1).isSome = true) : AllW fw rw_ (flagT (t :: l)) := by
  intro x hx
  unfold flagT at hx
  rcases List.mem_cons.1 hx with rfl | hx
  · exact h1
  · obtain ⟨u, hu, rfl⟩ := List.mem_map.1 hx
    exact h2 u hu
theorem blk_bits {fw rw_ : List (Int × Nat × Nat)} (hnd1 : Own1 fw) (hnd2 : Own1 rw_) {before : Int} {b : List Bool} (h : (gB (stepS fw rw_) before b).1 = 0) : ∃ s', (gB (stepS fw rw_) before b).2.2.2 = some s' ∧
    b = segBits fw rw_ (flagT (gB (stepS fw rw_) before b).2.2.1) ++ s' ∧ AllW fw rw_ (flagT (gB (stepS fw rw_) before b).2.2.1) := by
  cases hst : stepS fw rw_ true b with
  | inl e => rw [gB_none hst] at h; exact absurd h (stepS_ne hst)
  | inr q =>
    obtain ⟨t, s2⟩ := q
    obtain ⟨g1, g2⟩ := step_bits (first := true) hnd1 hst
    rw [show wsOf fw rw_ true = fw from rfl] at g1 g2
    by_cases hf : firstT before t
    · rw [gB_go hst hf] at h ⊢
      by_cases h4 : (gR (stepS fw rw_) 63 s2).1 = 0
      · obtain ⟨s', e1, e2, e3⟩ := rest_bits (fw := fw) hnd2 63 s2 h4
        unfold joinG at h ⊢
        rw [if_pos h4] at h ⊢
        unfold finG at h ⊢
        rw [if_pos rfl] at h ⊢
        by_cases h5 : toksZ before ([before + numT t] ++ (gR (stepS fw rw_) 63 s2).2.1) = [t] ++ (gR (stepS fw rw_) 63 s2).2.2.1
        · rw [if_pos h5]
          refine ⟨s', e1, ?_, ?_⟩
          · show b = segBits fw rw_ (flagT ([t] ++ (gR (stepS fw rw_) 63 s2).2.2.1)) ++ s'
            rw [List.singleton_append, flag_bits, List.append_assoc, ← e2]; exact g1
          · show AllW fw rw_ (flagT ([t] ++ (gR (stepS fw rw_) 63 s2).2.2.1))
            rw [List.singleton_append]; exact flag_all g2 e3
        · rw [if_neg h5] at h; simp at h
      · unfold joinG at h
        rw [if_neg h4] at h
        unfold finG at h
        rw [if_neg h4] at h
        exact absurd h h4
    · rw [gB_bad hst hf] at h; simp at h
theorem decS_bits {fw rw_ : List (Int × Nat × Nat)} (hnd1 : Own1 fw) (hnd2 : Own1 rw_) : ∀ (n : Nat) (before : Int) (b : List Bool), (decS fw rw_ n before b).1 = 0 →
    b = segBits fw rw_ (toksB before (decS fw rw_ n before b).2.1) ++ (decS fw rw_ n before b).2.2 ∧ AllW fw rw_ (toksB before (decS fw rw_ n before b).2.1) ∧ (decS fw rw_ n before b).2.1.length = n ∧ ∀ r ∈ (decS fw rw_ n before b).2.1, r.length = 64 ∧ inB (-2047) 2047 r = true
  | 0, before, b, _ => by
    rw [decS]
    exact ⟨rfl, fun x hx => by simp [toksB] at hx, rfl, by simp⟩
  | n + 1, before, b, h => by
    rw [decS] at h ⊢
    by_cases h1 : (gB (stepS fw rw_) before b).1 = 0
    · rw [if_pos h1] at h ⊢
      obtain ⟨s', e1, e2, e3⟩ := blk_bits hnd1 hnd2 h1
      obtain ⟨g1, g2, _, g4⟩ := gB_in (fun _ _ _ h => stepS_ne h) h1
      simp only [e1, Option.getD_some] at h ⊢
      by_cases h2 : (decS fw rw_ n ((fromL (gB (stepS fw rw_) before b).2.1).headD 0) s').1 = 0
      · rw [if_pos h2]
        obtain ⟨i1, i2, i3, i4⟩ := decS_bits hnd1 hnd2 n _ s' h2
        have et : toksZ before (toL (fromL (gB (stepS fw rw_) before b).2.1)) = (gB (stepS fw rw_) before b).2.2.1 := by rw [to_from g1]; exact g4
        refine ⟨?_, ?_, ?_, fun r hr => ?_⟩
        · simp only [toksB]
          rw [et, segBits_append, List.append_assoc, ← i1]; exact e2
        · simp only [toksB]
          rw [et]; exact e3.append i2
        · simp only [List.length_cons]; rw [i3]
        · rcases List.mem_cons.1 hr with rfl | hr
          · exact ⟨fromL_length _, inB_from g1 g2⟩
          · exact i4 r hr
      · rw [if_neg h2] at h; exact absurd h h2
    · rw [if_neg h1] at h; exact absurd h h1
theorem own1_of {cs syms : List Int} (h : checkErr cs syms = 0) : Own1 (outWords cs syms) := by
  obtain ⟨l, hf, hw, hll⟩ := fine_of h
  unfold Own1
  rw [hw, mkWords_fst hll]; exact hf.nodup
theorem all_true : ∀ {s : List Bool}, s.all id = true → s = List.replicate s.length true
  | [], _ => rfl
  | x :: s, h => by
    simp only [List.all_cons, Bool.and_eq_true, id] at h
    rw [h.1, List.length_cons, List.replicate_succ, ← all_true h.2]
/-- What was decoded is encoded as just these bytes. -/
theorem again_ok {cs syms cs2 syms2 bs : List Int} {n : Int} (hcs : cs.length = 16) (hcs2 : cs2.length = 16) (hby : Bytes bs) (h : eDec cs syms cs2 syms2 bs n = 0) :
    (∀ r ∈ oDec cs syms cs2 syms2 bs n, r.length = 64) ∧ ((oDec cs syms cs2 syms2 bs n).length : Int) = n ∧ n ≤ 400 ∧ eEnc cs syms cs2 syms2 (oDec cs syms cs2 syms2 bs n) = 0 ∧ ∀ out, SegOut cs syms cs2 syms2 (oDec cs syms cs2 syms2 bs n) out → out = bs := by
  have ho : oDec cs syms cs2 syms2 bs n = (segD cs syms cs2 syms2 bs n.toNat).2.1 := if_pos h
  have h1 : checkErr cs syms = 0 := by
    refine Classical.byContradiction fun h1 => ?_
    unfold eDec eTs at h
    simp [h1] at h
  have h2 : checkErr cs2 syms2 = 0 := by
    refine Classical.byContradiction fun h2 => ?_
    unfold eDec eTs at h
    simp [h1, h2] at h
  have hT : eTs cs syms cs2 syms2 = 0 := by unfold eTs; rw [if_pos h1]; exact h2
  unfold eDec at h
  rw [if_neg (by rw [hT]; decide)] at h
  by_cases h3 : n < 0 ∨ 400 < n
  · rw [if_pos h3] at h; cases h
  · rw [if_neg h3] at h
    by_cases h4 : plainErr bs = 0
    · rw [if_neg (by rw [h4]; decide)] at h
      by_cases h5 : (segD cs syms cs2 syms2 bs n.toNat).1 = 0
      · rw [if_neg (by rw [h5]; decide)] at h
        by_cases h6 : fillB (segD cs syms cs2 syms2 bs n.toNat).2.2 = true
        · obtain ⟨b1, b2, b3, b4⟩ := decS_bits (own1_of h1) (own1_of h2) n.toNat 0 (unpack (plainOut bs)) h5
          rw [ho]
          unfold segD at h6 ⊢
          generalize hO : (decS (outWords cs syms) (outWords cs2 syms2) n.toNat 0 (unpack (plainOut bs))).2.1 = O at *
          generalize hS : (decS (outWords cs syms) (outWords cs2 syms2) n.toNat 0 (unpack (plainOut bs))).2.2 = s at *
          have hE : eL O = 0 := eL_ok (by omega) fun r hr => (b4 r hr).2
          have hen : eEnc cs syms cs2 syms2 O = 0 := by rw [eEnc_end h1 h2 hE, if_pos b2]
          refine ⟨fun r hr => (b4 r hr).1, by omega, by omega, hen, fun out hout => ?_⟩
          obtain ⟨raw, rfl, hrb, p, hp, hu⟩ := hout.2 hen
          unfold fillB at h6
          simp only [Bool.and_eq_true, decide_eq_true_eq] at h6
          have hs := all_true h6.2
          cases hpl : plainR bs with
          | none => rw [(plain_none hpl).2] at h4; cases h4
          | some q =>
            rw [(plain_some hpl).1] at b1
            have hqb : Bytes q := by
              exact fun x hx => hby x (plainR_mem bs q hpl x hx)
            have l1 := congrArg List.length b1
            have l2 := congrArg List.length hu
            rw [unpack_length, List.length_append] at l1 l2
            rw [List.length_replicate] at l2
            have hps : p = s.length := by omega
            rw [hps, ← hs, ← b1] at hu
            rw [unpack_inj hrb hqb hu]
            exact stuffB_plainR bs q hpl
        · rw [if_neg h6] at h; cases h
      · rw [if_pos h5] at h; exact absurd h h5
    · rw [if_pos h4] at h; exact absurd h h4
end Go.Proofs.Ytbboakdfnjjddaa

/- The reference's comparison of two lists of bytes tells whether they are equal. -/
namespace Go.Proofs.Ytbboakdfnjjddaa
open Go.RowKit
set_option linter.unusedVariables false
set_option linter.unusedSimpArgs false
set_option maxRecDepth 100000

set_option maxHeartbeats 400000 in
theorem eqByte (A B : Option Addr) (c d G : Nat) (xs ys : List Int) (w : World) (hx : Seen w G A (ints .u8 xs)) (hy : Seen w G B (ints .u8 ys)) (hlx : xs.length ≤ maxLen) (hly : ys.length ≤ maxLen) :
    Calls Try.prog 16 #[.slice A xs.length c, .slice B ys.length d] w fun e w' => e = .returned (.bool (decide (xs = ys))) ∧ w = w' := by
  unfold maxLen at hlx hly
  by_cases hl : xs.length = ys.length
  · have hne : ((xs.length : Int) != (ys.length : Int)) = false := by simp [hl]
    have Hl := veil hl
    clear hl
    go_enter Try.func16, Try.ntmps16
    go_wp2
    go_loop [5, 6, 14] (fun _ _ i => ∃ k : Nat, k ≤ xs.length ∧ i = .int .i64 k ∧ Hid (xs.take k = ys.take k)) (fun _ _ i => xs.length - (intOf i).toNat)
    case atStart => exact ⟨0, Nat.zero_le _, rfl, veil rfl⟩
    case round =>
      obtain ⟨k, hk, rfl, He⟩ := hrel
      by_cases hlt : k < xs.length
      · have hky : (k : Int) < (ys.length : Int) := by have := Hl.out; omega
        obtain ⟨g, o, x, rfl, _, hxk, h1⟩ := hx.int hlt
        obtain ⟨g', o', y, rfl, _, hyk, h2⟩ := hy.int (k := k) (by omega)
        have Hx := veil hxk; have Hy := veil hyk
        clear hxk hyk
        by_cases hxy : x = y
        · obtain rfl := hxy
          have hb : (x != x) = false := by simp
          go_wp2
          go_round
          case rel => exact ⟨k + 1, by omega, by go_num, veil (by rw [take_snoc Hx.out, take_snoc Hy.out, He.out])⟩
          case measure => simp [intOf]; omega
        · have hb : (x != y) = true := by simpa using hxy
          go_wp2
          go_ret
          refine ⟨ret_bool ?_, rfl⟩
          symm
          simp only [decide_eq_false_iff_not]
          intro e
          have h3 := Hx.out
          rw [e, Hy.out] at h3
          exact hxy (by injection h3 with h3; exact h3.symm)
      · go_wp2
        go_ret
        refine ⟨ret_bool ?_, rfl⟩
        symm
        have h3 := He.out
        rw [List.take_of_length_le (by omega), List.take_of_length_le (by have := Hl.out; omega)] at h3
        simpa using h3
  · have hne : ((xs.length : Int) != (ys.length : Int)) = true := by simp; omega
    have hd : decide (xs = ys) = false := by simp; intro e; exact hl (by rw [e])
    have Hd := veil hd
    clear hd hl
    go_enter Try.func16, Try.ntmps16
    go_wp2
    go_ret
    exact ⟨ret_bool Hd.out.symm, rfl⟩
end Go.Proofs.Ytbboakdfnjjddaa

/- From the form's reading of a slice of structs or arrays of integers to the words of Mem. -/
namespace Go.Proofs.Ytbboakdfnjjddaa
open Go.RowKit Go.ChangeShapes Go.WideShapes Go.ChangeAt Go.Deep
set_option linter.unusedVariables false
set_option linter.unusedSimpArgs false
set_option maxRecDepth 100000

section
variable {H : Type} {enc : TypeId × Value → H}
end
end Go.Proofs.Ytbboakdfnjjddaa

/- From the form's readings of the arguments to the words of Mem: slices of integers, slices of structs of integers. -/
namespace Go.Proofs.Ytbboakdfnjjddaa
open Go.RowKit Go.ChangeShapes Go.WideShapes Go.ChangeAt Go.Deep
set_option linter.unusedVariables false
set_option linter.unusedSimpArgs false
set_option maxRecDepth 100000

theorem own : ownKnob Try.prog.godebug = none := by kernel_rfl
theorem laidOut : laidOutB Try.prog = true := by kernel_rfl

section
variable {H : Type} {enc : TypeId × Value → H}

theorem bulk_pos (d : DataW H) : 1 ≤ Rows.uptoBulk d := by
  cases d with
  | lit l => cases l <;> simp [Rows.uptoBulk]
  | nil => simp [Rows.uptoBulk]
  | ptr d => simp [Rows.uptoBulk]
  | slice elems spare => simp [Rows.uptoBulk]
  | agg parts => simp [Rows.uptoBulk]
  | iface t d => simp [Rows.uptoBulk]
  | map entries => simp [Rows.uptoBulk]
  | held h => simp [Rows.uptoBulk]
theorem bulk_length (l : List (DataW H)) : l.length ≤ Rows.uptoBulkAll l := by
  induction l with
  | nil => simp [Rows.uptoBulkAll]
  | cons x r ih => have := bulk_pos x; simp only [Rows.uptoBulkAll, List.length_cons]; omega

/-- A slice of integers that came in. -/
theorem openInts {W : World} {t e : TypeId} {k : IntKind} {a : Option Addr} {len cap : Nat} {d : DataW H} {p : List MemPlace} {sp : Nat → Bool} {hd : Bool}
    (ht : Try.prog.underlying t = some (.slice e)) (he : Try.prog.underlying e = some (.int k)) (hc : Try.prog.cellsOf e = 1)
    (h : DataW.Trod enc Try.prog W 0 sp hd t (.slice a len cap) d p) :
    ∃ xs : List Int, len = xs.length ∧ Seen W W.heap.size a (ints k xs) ∧ (∀ x ∈ xs, (Lit.int k x).wf = true) ∧ xs.length ≤ maxLen ∧ cap ≤ maxLen ∧ xs.length ≤ cap ∧ xs.length ≤ Rows.uptoBulk d := by
  obtain ⟨fuel, hf⟩ := h
  rcases open_ints ht he hc hf with ⟨hcs, _⟩ | ⟨x, l, c, zs, hcs, _, hl, hm, hz, hx, hcell, hwz⟩
  · simp [Value.cells] at hcs
    obtain ⟨rfl, rfl, rfl⟩ := hcs
    exact ⟨[], rfl, .inl rfl, by simp, Nat.zero_le _, Nat.zero_le _, Nat.zero_le _, Nat.zero_le _⟩
  · simp [Value.cells] at hcs
    obtain ⟨rfl, rfl, rfl⟩ := hcs
    have hlz : len ≤ zs.length := by rw [hz]; split <;> omega
    simp only [Prod.mk.injEq] at hx
    refine ⟨zs.take len, by simp [Nat.min_eq_left hlz], ?_, fun x hx => hwz x (List.mem_of_mem_take hx), by simp; omega, hm, by simp; omega, ?_⟩
    · by_cases h0 : len = 0
      · subst h0; exact .inl rfl
      · have h1 := hcell 0 (by omega)
        have hsp := World.cell?_spot h1
        have hb := World.block_lt_of_cell? W _ h1
        obtain ⟨b, o, s⟩ := x
        simp [Addr.add] at hsp hb
        subst hsp
        refine .inr ⟨b, o, rfl, hb, fun j u hu => ?_⟩
        have hj : j < zs.length := by
          have := (List.getElem?_eq_some_iff.1 hu).1
          simp [ints] at this; omega
        have h2 := hcell j hj
        have h3 : (ints k (zs.take len))[j]? = some (.int k (zs.getD j 0)) := by
          have hjl : j < len := by
            have := (List.getElem?_eq_some_iff.1 hu).1
            simp [ints] at this; omega
          simp [ints, List.getElem?_take, hjl, hj]
        rw [h3] at hu
        injection hu with hu
        subst hu
        rw [← h2]
        unfold Addr.add
        split
        · rename_i e; subst e; rfl
        · rfl
    · rw [hx.1]
      simp only [Rows.uptoBulk]
      have h1 := bulk_length (lits (H := H) k (zs.take len))
      have h2 : (lits (H := H) k (zs.take len)).length = (zs.take len).length := by simp [lits]
      omega

/-- What a slice of integers takes by the form's own reach. -/
theorem sizedInts {W : World} {t e : TypeId} {k : IntKind} {a : Option Addr} {len cap : Nat} {d : DataW H} {p : List MemPlace} {sp : Nat → Bool} {hd : Bool} {ts : List TypeId} {ds : List (DataW H)} {j N : Nat}
    (ht : Try.prog.underlying t = some (.slice e)) (he : Try.prog.underlying e = some (.int k)) (hc : Try.prog.cellsOf e = 1)
    (h : DataW.Trod enc Try.prog W 0 sp hd t (.slice a len cap) d p) (hsz : (DataW.weightsEach Try.prog ts ds).all (· ≤ reachBytes) = true) (hts : ts[j]? = some t) (hds : ds[j]? = some d) (hN : Try.prog.bytesOf e = N) : len * N ≤ 140737488351232 := by
  obtain ⟨fuel, hf⟩ := h
  rcases open_ints ht he hc hf with ⟨hcs, _⟩ | ⟨x, l, c, zs, hcs, _, hl, hm, hz, hx, hcell, hwz⟩
  · simp [Value.cells] at hcs
    obtain ⟨rfl, rfl, rfl⟩ := hcs
    omega
  · simp [Value.cells] at hcs
    obtain ⟨rfl, rfl, rfl⟩ := hcs
    have hlz : len ≤ zs.length := by rw [hz]; split <;> omega
    simp only [Prod.mk.injEq] at hx
    have hd := hx.1
    subst hd
    have h3 := sized_slice hsz hts hds ht
    rw [hN] at h3
    have h4 : len ≤ (lits (H := H) k (zs.take len)).length + (lits (H := H) k (zs.drop len)).length := by simp [lits]; omega
    have h5 := Nat.mul_le_mul_right N h4
    have h6 : reachBytes = 140737488351232 := rfl
    omega

end
end Go.Proofs.Ytbboakdfnjjddaa

/- From the form's reading of a table that came in to its counts and its symbols. -/
namespace Go.Proofs.Ytbboakdfnjjddaa
open Go.RowKit Go.ChangeShapes Go.WideShapes Go.ChangeAt Go.Deep
set_option linter.unusedVariables false
set_option linter.unusedSimpArgs false
set_option maxRecDepth 100000
section
variable {H : Type} {enc : TypeId × Value → H}
theorem take_drop_one {α : Type} {l : List α} {i : Nat} {x : α} (h : l[i]? = some x) : (l.drop i).take 1 = [x] := by
  obtain ⟨hi, e⟩ := List.getElem?_eq_some_iff.1 h
  rw [List.drop_eq_getElem_cons hi, e]; rfl
/-- Cells that read as an array of integers. -/
theorem openArr {W : World} {t e : TypeId} {k : IntKind} {n fuel : Nat} {l : List Value} {x : DataW H × List MemPlace} {sp : Nat → Bool} {hd : Bool}
    (ht : Try.prog.underlying t = some (.array n e)) (he : Try.prog.underlying e = some (.int k)) (hc : Try.prog.cellsOf e = 1) (hct : Try.prog.cellsOf t = n)
    (h : DataW.trod enc Try.prog W 0 sp hd fuel t l = some x) : ∃ cs : List Int, l = ints k cs ∧ cs.length = n ∧ ∀ c ∈ cs, (Lit.int k c).wf = true := by
  obtain ⟨xs, m, _, _, hl, hx, hi⟩ := DataW.trod_array ht h
  rw [hct] at hl
  rw [hc] at hi
  have each : ∀ i, i < n → ∃ c : Int, l[i]? = some (.int k c) ∧ (Lit.int k c).wf = true := by
    intro i hin
    obtain ⟨v, hv⟩ := some_at (xs := l) (j := i) (by omega)
    have h2 := hi i hin
    rw [Nat.mul_one, take_drop_one hv] at h2
    obtain ⟨y, hy⟩ := some_at (xs := xs) (j := i) (by omega)
    rw [hy] at h2
    obtain ⟨c, e0, _, w0⟩ := DataW.trod_int he h2
    simp at e0
    exact ⟨c, by rw [hv, e0], w0⟩
  obtain ⟨q, hq⟩ := choose_lt each
  refine ⟨(List.range n).map q, ?_, by simp, ?_⟩
  · apply List.ext_getElem?
    intro i
    by_cases hin : i < n
    · rw [(hq i hin).1]; simp [ints, hin]
    · rw [List.getElem?_eq_none (by omega), List.getElem?_eq_none (by simp [ints]; omega)]
  · intro c hc
    obtain ⟨i, hi', rfl⟩ := List.mem_map.1 hc
    exact (hq i (by simpa using hi')).2
end
end Go.Proofs.Ytbboakdfnjjddaa

/- From the form's reading of two tables, and of a slice of blocks, to the words of Mem. -/
namespace Go.Proofs.Ytbboakdfnjjddaa
open Go.RowKit Go.ChangeShapes Go.WideShapes Go.ChangeAt Go.Deep
set_option linter.unusedVariables false
set_option linter.unusedSimpArgs false
set_option maxRecDepth 100000
section
variable {H : Type} {enc : TypeId × Value → H}
theorem tab_cells {W : World} {fuel : Nat} {L : List Value} {x : DataW H × List MemPlace} {sp : Nat → Bool} {hd : Bool} (hsz : L.length = 17) (hf : DataW.trod enc Try.prog W 0 sp hd fuel 34 L = some x) :
    ∃ (cs : List Int) (A : Option Addr) (c : Nat) (syms : List Int), L = tabCells cs A syms.length c ∧ cs.length = 16 ∧ (∀ x ∈ cs, -9223372036854775808 ≤ x ∧ x ≤ 9223372036854775807) ∧ Seen W W.heap.size A (ints .i64 syms) ∧ syms.length ≤ maxLen ∧ syms.length ≤ c := by
  obtain ⟨y0, y1, n, hx, _, h0, h1⟩ := trod_struct2 Try.underlying34 hf
  have c0 : Try.prog.cellsOf 32 = 16 := by kernel_rfl
  have c1 : Try.prog.cellsOf 23 = 1 := by kernel_rfl
  rw [c0] at h0
  rw [c1] at h1
  simp only [List.drop_zero] at h0
  obtain ⟨cs, e0, hcs, hwf⟩ := openArr Try.underlying32 Try.underlying3 (by kernel_rfl) c0 h0
  obtain ⟨A, len, cap, e1⟩ := Go.Joins.slice_form Try.underlying23 h1
  rw [e1] at h1
  obtain ⟨syms, rfl, hs, hw, hl, _, hlc, hb⟩ := openInts (W := W) (a := A) (len := len) (cap := cap) (d := y1.1) (p := y1.2) Try.underlying23 Try.underlying3 (by kernel_rfl) ⟨n, h1⟩
  have e2 : L = tabCells cs A syms.length cap := by
    rw [tabCells, ← e0, ← e1, List.take_of_length_le (l := L.drop 16) (by simp; omega), List.take_append_drop]
  exact ⟨cs, A, cap, syms, e2, hcs, fun x hx => bounds_i64 (hwf x hx), hs, hl, hlc⟩
/-- Two tables that came in. -/
theorem openTables {W : World} {base : Nat} {v : Value} {d : DataW H} {p : List MemPlace} {sp : Nat → Bool} {hd : Bool} (hv : Value.okWide Try.prog W .any base 36 v) (h : DataW.Trod enc Try.prog W 0 sp hd 36 v d p) :
    ∃ (cs : List Int) (A : Option Addr) (c : Nat) (syms : List Int) (cs2 : List Int) (A2 : Option Addr) (c2 : Nat) (syms2 : List Int), v = tabsV cs A syms.length c cs2 A2 syms2.length c2 ∧ cs.length = 16 ∧ (∀ x ∈ cs, -9223372036854775808 ≤ x ∧ x ≤ 9223372036854775807) ∧ Seen W W.heap.size A (ints .i64 syms) ∧ syms.length ≤ maxLen ∧ syms.length ≤ c ∧
      cs2.length = 16 ∧ (∀ x ∈ cs2, -9223372036854775808 ≤ x ∧ x ≤ 9223372036854775807) ∧ Seen W W.heap.size A2 (ints .i64 syms2) ∧ syms2.length ≤ maxLen ∧ syms2.length ≤ c2 := by
  obtain ⟨cells, rfl, hsz⟩ := okWide_struct Try.underlying36 hv
  have h34 : Try.prog.cellsOf 36 = 34 := by kernel_rfl
  rw [h34] at hsz
  obtain ⟨fuel, hf⟩ := h
  obtain ⟨y0, y1, n, hx, _, h0, h1⟩ := trod_struct2 Try.underlying36 hf
  have c0 : Try.prog.cellsOf 34 = 17 := by kernel_rfl
  simp only [Value.cells] at h0 h1
  rw [c0] at h0 h1
  obtain ⟨L⟩ := cells
  simp only [List.size_toArray] at hsz
  simp only [List.drop_zero] at h0
  obtain ⟨cs, A, c, syms, e0, g1, g2, g3, g4, g5⟩ := tab_cells (by simp; omega) h0
  obtain ⟨cs2, A2, c2, syms2, e1, k1, k2, k3, k4, k5⟩ := tab_cells (by simp; omega) h1
  have e2 : L = tabsCells cs A syms.length c cs2 A2 syms2.length c2 := by
    rw [tabsCells, ← e0, ← e1, List.take_of_length_le (l := L.drop 17) (by simp; omega), List.take_append_drop]
  exact ⟨cs, A, c, syms, cs2, A2, c2, syms2, by rw [tabsV, e2], g1, g2, g3, g4, g5, k1, k2, k3, k4, k5⟩
end
end Go.Proofs.Ytbboakdfnjjddaa
