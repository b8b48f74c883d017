/- Texts shared by the claims of this seat, in one. -/
import Derived.Test.YtbboakdfnjjddaaBd7
import Derived.Test.YtbboakdfnjjddaaBd10
import Derived.Test.YtbboakdfnjjddaaBd2
import Derived.Test.YtbboakdfnjjddaaBd6
import Derived.Test.YtbboakdfnjjddaaBd4
import Derived.Test.YtbboakdfnjjddaaBd1
import Derived.Lib.Builder
import Derived.Lib.UnsafeStr
import Derived.Lib.AppendStr
import Derived.Laws.Externs
import Derived.Laws.DeepStrings4
/- Blocks out of bits, in numbers: what is read lies within its bounds; a reading under way. -/
namespace Go.Proofs.Ytbboakdfnjjddaa
set_option linter.unusedVariables false
set_option linter.unusedSimpArgs false
set_option maxRecDepth 100000

section
variable {σ : Type} {step : Bool → σ → Int ⊕ ((Int × Int × Int) × σ)}
theorem gR_in (hne : ∀ b s e, step b s = .inl e → e ≠ 0) : ∀ (k : Nat) (s : σ), (gR step k s).1 = 0 → (gR step k s).2.1.length = k ∧ (∀ z ∈ (gR step k s).2.1, -2047 ≤ z ∧ z ≤ 2047) ∧ ∃ s', (gR step k s).2.2.2 = some s' := by
  intro k
  induction k using Nat.strongRecOn with
  | _ k ih =>
    intro s h
    cases k with
    | zero => rw [gR]; exact ⟨rfl, by simp, s, rfl⟩
    | succ k =>
      rw [gR] at h ⊢
      cases hst : step false s with
      | inl e => rw [hst] at h; exact absurd h (hne _ _ _ hst)
      | inr q =>
        obtain ⟨t, s2⟩ := q
        rw [hst] at h
        simp only [] at h ⊢
        by_cases h1 : okT t = true
        · rw [if_pos h1] at h ⊢
          by_cases h2 : t.1 = 0
          · rw [if_pos h2]
            exact ⟨by simp, fun z hz => by rw [(List.mem_replicate.1 hz).2]; omega, s2, rfl⟩
          · rw [if_neg h2] at h ⊢
            by_cases h3 : k + 1 < farT t
            · rw [if_pos h3] at h; simp at h
            · rw [if_neg h3] at h ⊢
              have hp : 0 < farT t := by unfold farT; omega
              by_cases h4 : (gR step (k + 1 - farT t) s2).1 = 0
              · obtain ⟨g1, g2, s', g3⟩ := ih (k + 1 - farT t) (by omega) s2 h4
                rw [if_pos h4]
                refine ⟨by simp only [List.length_append, List.length_replicate, List.length_cons, g1]; omega, fun z hz => ?_, s', g3⟩
                rcases List.mem_append.1 hz with hz | hz
                · rw [(List.mem_replicate.1 hz).2]; omega
                · rcases List.mem_cons.1 hz with rfl | hz
                  · exact okQ_num (okT_okQ h1)
                  · exact g2 z hz
              · rw [if_neg h4] at h; exact absurd h h4
        · rw [if_neg h1] at h; simp at h
theorem gB_in (hne : ∀ b s e, step b s = .inl e → e ≠ 0) {before : Int} {s : σ} (h : (gB step before s).1 = 0) : (gB step before s).2.1.length = 64 ∧ (∀ z ∈ (gB step before s).2.1, -2047 ≤ z ∧ z ≤ 2047) ∧ (∃ s', (gB step before s).2.2.2 = some s') ∧ toksZ before (gB step before s).2.1 = (gB step before s).2.2.1 := by
  cases hst : step true s with
  | inl e => rw [gB_none hst] at h; exact absurd h (hne _ _ _ hst)
  | inr q =>
    obtain ⟨t, s2⟩ := q
    by_cases hf : firstT before t
    · rw [gB_go hst hf] at h ⊢
      by_cases h4 : (gR step 63 s2).1 = 0
      · obtain ⟨g1, g2, s', g3⟩ := gR_in hne 63 s2 h4
        unfold joinG at h ⊢
        rw [if_pos h4] at h ⊢
        unfold finG at h ⊢
        rw [if_pos rfl] at h ⊢
        by_cases h5 : toksZ before ([before + numT t] ++ (gR step 63 s2).2.1) = [t] ++ (gR step 63 s2).2.2.1
        · rw [if_pos h5]
          refine ⟨by simp [g1], fun z hz => ?_, ⟨s', g3⟩, h5⟩
          rcases List.mem_append.1 hz with hz | hz
          · rw [List.mem_singleton.1 hz]; exact hf.2.2
          · exact g2 z hz
        · rw [if_neg h5] at h; simp at h
      · unfold joinG at h
        rw [if_neg h4] at h
        unfold finG at h
        rw [if_neg h4] at h
        exact absurd h h4
    · rw [gB_bad hst hf] at h; simp at h
theorem head_in {zs : List Int} (h1 : zs.length = 64) (h2 : ∀ z ∈ zs, -2047 ≤ z ∧ z ≤ 2047) : -2047 ≤ (fromL zs).headD 0 ∧ (fromL zs).headD 0 ≤ 2047 := by
  have hl := fromL_length zs
  match hf : fromL zs, hl with
  | z :: l, _ => exact h2 z (fromL_mem h1 (by rw [hf]; exact List.mem_cons_self))
theorem inB_from {zs : List Int} (h1 : zs.length = 64) (h2 : ∀ z ∈ zs, -2047 ≤ z ∧ z ≤ 2047) : inB (-2047) 2047 (fromL zs) = true := inB_mem.2 fun z hz => h2 z (fromL_mem h1 hz)
end
/-- Blocks read so far, and what is still to read. -/
def joinS (acc : List (List Int)) (q : Int × List (List Int) × List Bool) : Int × List (List Int) × List Bool := if q.1 = 0 then (0, acc ++ q.2.1, q.2.2) else (q.1, [], [])
theorem joinS_nil_eq {fw rw_ : List (Int × Nat × Nat)} : ∀ (n : Nat) (before : Int) (b : List Bool), joinS [] (decS fw rw_ n before b) = decS fw rw_ n before b
  | 0, before, b => rfl
  | n + 1, before, b => by
    rw [decS]
    by_cases h : (gB (stepS fw rw_) before b).1 = 0
    · rw [if_pos h]
      simp only []
      by_cases h2 : (decS fw rw_ n ((fromL (gB (stepS fw rw_) before b).2.1).headD 0) ((gB (stepS fw rw_) before b).2.2.2.getD [])).1 = 0
      · rw [if_pos h2]; rfl
      · rw [if_neg h2]; unfold joinS; rw [if_neg h2]
    · rw [if_neg h]; unfold joinS; rw [if_neg h]
theorem joinS_joinS (a b : List (List Int)) (q : Int × List (List Int) × List Bool) : joinS a (joinS b q) = joinS (a ++ b) q := by
  unfold joinS
  by_cases h : q.1 = 0
  · simp [h]
  · simp [h]
theorem decS_err {fw rw_ : List (Int × Nat × Nat)} {before : Int} {b : List Bool} (h : (gB (stepS fw rw_) before b).1 ≠ 0) (n : Nat) : decS fw rw_ (n + 1) before b = ((gB (stepS fw rw_) before b).1, [], []) := by
  rw [decS, if_neg h]
theorem decS_ok {fw rw_ : List (Int × Nat × Nat)} {before : Int} {b s' : List Bool} (h : (gB (stepS fw rw_) before b).1 = 0) (hs : (gB (stepS fw rw_) before b).2.2.2 = some s') (n : Nat) : decS fw rw_ (n + 1) before b = joinS [outBk (gB (stepS fw rw_) before b)] (decS fw rw_ n ((outBk (gB (stepS fw rw_) before b)).headD 0) s') := by
  rw [decS, if_pos h, hs]
  unfold outBk joinS
  rw [if_pos h]
  rfl
/-- Where a reading of n blocks stands. -/
def DS (fw rw_ : List (Int × Nat × Nat)) (n : Nat) (s0 : List Bool) (k : Nat) (acc : List (List Int)) (before : Int) (s : List Bool) : Prop :=
  acc.length = k ∧ (-2047 ≤ before ∧ before ≤ 2047) ∧ (∀ r ∈ acc, r.length = 64) ∧ decS fw rw_ n 0 s0 = joinS acc (decS fw rw_ (n - k) before s)
theorem DS.start (fw rw_ : List (Int × Nat × Nat)) (n : Nat) (s0 : List Bool) : DS fw rw_ n s0 0 [] 0 s0 := ⟨rfl, by omega, by simp, by rw [joinS_nil_eq]; rfl⟩
section
variable {fw rw_ : List (Int × Nat × Nat)} {n k : Nat} {s0 s s' : List Bool} {acc : List (List Int)} {before : Int}
theorem DS.err (h : DS fw rw_ n s0 k acc before s) (hk : k < n) (he : (gB (stepS fw rw_) before s).1 ≠ 0) : decS fw rw_ n 0 s0 = ((gB (stepS fw rw_) before s).1, [], []) := by
  rw [h.2.2.2, show n - k = (n - (k + 1)) + 1 by omega, decS_err he]
  unfold joinS; rw [if_neg he]
theorem DS.next (h : DS fw rw_ n s0 k acc before s) (hk : k < n) (he : (gB (stepS fw rw_) before s).1 = 0) (hs : (gB (stepS fw rw_) before s).2.2.2 = some s') :
    DS fw rw_ n s0 (k + 1) (acc ++ [outBk (gB (stepS fw rw_) before s)]) ((outBk (gB (stepS fw rw_) before s)).headD 0) s' := by
  obtain ⟨g1, g2, _, _⟩ := gB_in (fun _ _ _ h => stepS_ne h) he
  have e : outBk (gB (stepS fw rw_) before s) = fromL (gB (stepS fw rw_) before s).2.1 := if_pos he
  refine ⟨by simp [h.1], by rw [e]; exact head_in g1 g2, fun r hr => ?_, ?_⟩
  · rcases List.mem_append.1 hr with hr | hr
    · exact h.2.2.1 r hr
    · rw [List.mem_singleton.1 hr, e]; exact fromL_length _
  · rw [h.2.2.2, show n - k = (n - (k + 1)) + 1 by omega, decS_ok he hs, joinS_joinS]
theorem DS.done (h : DS fw rw_ n s0 n acc before s) : decS fw rw_ n 0 s0 = (0, acc, s) := by
  rw [h.2.2.2, Nat.sub_self, decS]; unfold joinS; simp
end
theorem outBk_length {σ : Type} {step : Bool → σ → Int ⊕ ((Int × Int × Int) × σ)} (before : Int) (s : σ) : (outBk (gB step before s)).length = 64 := by
  unfold outBk; split
  · exact fromL_length _
  · exact zero64_length
/-- What Decode answers. -/
def segD (cs syms cs2 syms2 bs : List Int) (n : Nat) : Int × List (List Int) × List Bool := decS (outWords cs syms) (outWords cs2 syms2) n 0 (unpack (plainOut bs))
def eDec (cs syms cs2 syms2 bs : List Int) (n : Int) : Int :=
  if eTs cs syms cs2 syms2 ≠ 0 then eTs cs syms cs2 syms2 else if n < 0 ∨ 400 < n then 1 else if plainErr bs ≠ 0 then plainErr bs
  else if (segD cs syms cs2 syms2 bs n.toNat).1 ≠ 0 then (segD cs syms cs2 syms2 bs n.toNat).1 else if fillB (segD cs syms cs2 syms2 bs n.toNat).2.2 = true then 0 else 4
def oDec (cs syms cs2 syms2 bs : List Int) (n : Int) : List (List Int) := if eDec cs syms cs2 syms2 bs n = 0 then (segD cs syms cs2 syms2 bs n.toNat).2.1 else []
theorem oDec_err {cs syms cs2 syms2 bs : List Int} {n : Int} (h : eDec cs syms cs2 syms2 bs n ≠ 0) : oDec cs syms cs2 syms2 bs n = [] := if_neg h
end Go.Proofs.Ytbboakdfnjjddaa

/- seg.Encode: its contract. -/
namespace Go.Proofs.Ytbboakdfnjjddaa
open Go.RowKit
set_option linter.unusedVariables false
set_option linter.unusedSimpArgs false
set_option maxRecDepth 100000

theorem enc_taker (fw rw_ : List (Int × Nat × Nat)) (n1 s1 n2 s2 b1 b2 f r m g B G : Nat) (hp1 : PF fw) (hp2 : PF rw_) (hf : f < g) (hr : r < g) (hb1 : b1 < g) (hb2 : b2 < g) (hgm : g < m) (hmB : m < B) (hG : G ≤ g) :
    Taker 29 #[.pointer (some ⟨r, 0, none⟩), .pointer (some ⟨f, 0, none⟩), .pointer (some ⟨m, 0, none⟩), .pointer (some ⟨g, 0, none⟩)] G (encI fw rw_ n1 s1 n2 s2 b1 b2 f r m g B) where
  enters := Enters.of Try.func29 (by kernel_rfl) (by kernel_rfl)
  foot h q hq := by
    obtain ⟨D, P, vd, vp, hW, _, _, _, _, hm, _, _, rfl⟩ := h
    rcases hq with rfl | hq
    · exact ⟨hm.lt, by omega⟩
    · have := hW.foot hq; exact ⟨this.1, by omega⟩
  keep h hb := by
    obtain ⟨D, P, vd, vp, hW, hM1, hM2, hf0, hr0, hm, h1, h2, rfl⟩ := h
    exact ⟨D, P, vd, vp, hW.below hb, hM1.below hb hM1.lt, hM2.below hb hM2.lt, hf0.below hb hf0.lt, hr0.below hb hr0.lt, hm.below hb hm.lt, h1, h2, rfl⟩
  take first t h ha hg := by
    cases first with
    | true => exact enc_true fw rw_ n1 s1 n2 s2 b1 b2 f r m g B hp1 t _ _ _ h ha hg hf hr hb1 hb2 hgm hmB
    | false => exact enc_false fw rw_ n1 s1 n2 s2 b1 b2 f r m g B hp2 t _ _ _ h ha hg hf hr hb1 hb2 hgm hmB
theorem words_pf2 {cs syms : List Int} (hcs : cs.length = 16) (h : checkErr cs syms = 0) : PF (outWords cs syms) := by
  obtain ⟨l, hf, how, hll⟩ := fine_of h
  rw [how]
  exact hf.pf hcs
/-- What Encode makes. -/
def SegOut (cs syms cs2 syms2 : List Int) (L : List (List Int)) (out : List Int) : Prop :=
  (eEnc cs syms cs2 syms2 L ≠ 0 → out = []) ∧ (eEnc cs syms cs2 syms2 L = 0 → ∃ raw, out = stuffB raw ∧ Bytes raw ∧ ∃ p, p < 8 ∧ unpack raw = segBits (outWords cs syms) (outWords cs2 syms2) (toksB 0 L) ++ List.replicate p true)
section
variable {cs syms cs2 syms2 : List Int} {L : List (List Int)}
theorem eEnc_one (h : checkErr cs syms ≠ 0) : eEnc cs syms cs2 syms2 L = checkErr cs syms := if_pos h
theorem eEnc_two (h : checkErr cs syms = 0) (h2 : checkErr cs2 syms2 ≠ 0) : eEnc cs syms cs2 syms2 L = checkErr cs2 syms2 := by unfold eEnc; rw [if_neg (by rw [h]; decide), if_pos h2]
theorem eEnc_blk (h : checkErr cs syms = 0) (h2 : checkErr cs2 syms2 = 0) (h3 : eL L ≠ 0) : eEnc cs syms cs2 syms2 L = eL L := by unfold eEnc; rw [if_neg (by rw [h]; decide), if_neg (by rw [h2]; decide), if_pos h3]
theorem eEnc_end (h : checkErr cs syms = 0) (h2 : checkErr cs2 syms2 = 0) (h3 : eL L = 0) : eEnc cs syms cs2 syms2 L = if AllW (outWords cs syms) (outWords cs2 syms2) (toksB 0 L) then 0 else 5 := by unfold eEnc; rw [if_neg (by rw [h]; decide), if_neg (by rw [h2]; decide), if_neg (by rw [h3]; decide)]
end
set_option maxRecDepth 100000 in
set_option maxHeartbeats 8000000 in
theorem segEncode_any (cs syms : List Int) (A : Option Addr) (c : Nat) (cs2 syms2 : List Int) (A2 : Option Addr) (c2 G : Nat) (L : List (List Int)) (A3 : Option Addr) (c3 : Nat) (w : World)
    (hcs : cs.length = 16) (hn : syms.length ≤ maxLen) (hb : ∀ x ∈ cs, -9223372036854775808 ≤ x ∧ x ≤ 9223372036854775807) (hs : Seen w G A (ints .i64 syms))
    (hcs2 : cs2.length = 16) (hn2 : syms2.length ≤ maxLen) (hb2 : ∀ x ∈ cs2, -9223372036854775808 ≤ x ∧ x ≤ 9223372036854775807) (hs2 : Seen w G A2 (ints .i64 syms2))
    (hl : ∀ r ∈ L, r.length = 64) (hm : L.length ≤ maxLen) (hs3 : Seen w G A3 (rowsC L)) (hG : G ≤ w.heap.size) :
    Calls Try.prog 13 #[tabsV cs A syms.length c cs2 A2 syms2.length c2, .slice A3 L.length c3] w fun e w' => ∃ v out, e = .returned (.tuple #[v, .int .i64 (eEnc cs syms cs2 syms2 L)]) ∧ Owns w.heap.size [byteRow v out] w' ∧ SegOut cs syms cs2 syms2 L out ∧ Below w.heap.size w w' := by
  have h17 : (tabCells cs A syms.length c).length = 17 := tabCells_length hcs
  have h17b : (tabCells cs2 A2 syms2.length c2).length = 17 := tabCells_length hcs2
  have HC1 := veil (fun W h hG => codewords_any cs syms A c G W hcs hn hb h hG)
  have HC2 := veil (fun W h hG => codewords_any cs2 syms2 A2 c2 G W hcs2 hn2 hb2 h hG)
  have hb0 := below1 w (.cells (tabsCells cs A syms.length c cs2 A2 syms2.length c2).toArray 36)
  have hz0 : (w.alloc (.cells (tabsCells cs A syms.length c cs2 A2 syms2.length c2).toArray 36)).heap.size = w.heap.size + 1 := by simp
  have hr := range_new w (tabsCells cs A syms.length c cs2 A2 syms2.length c2) 36
  have hr1 := range_left hr
  have hr2 := range_right hr
  rw [h17] at hr2
  have Hcs := veil hcs
  have Hcs2 := veil hcs2
  obtain ⟨E, hE⟩ : ∃ E, E = eEnc cs syms cs2 syms2 L := ⟨_, rfl⟩
  rw [← hE]
  have HSo : Hid (E ≠ 0 → SegOut cs syms cs2 syms2 L []) := fun h => ⟨fun _ => rfl, fun h2 => absurd h2 (by rw [← hE]; exact h)⟩
  have HE := veil hE
  have H17 := veil h17
  have H17b := veil h17b
  clear hr h17 h17b hcs hcs2 hb hb2 hE
  unfold tabsV
  unfold tabV at HC1 HC2
  generalize tabsCells cs A syms.length c cs2 A2 syms2.length c2 = zs at *
  generalize tabCells cs A syms.length c = xs at *
  generalize tabCells cs2 A2 syms2.length c2 = ys at *
  go_enter Try.func13, Try.ntmps13
  go_wp2_with (first
    | (refine wpList_load_mid rfl 34 (.tmp 12) rfl w.heap.size 0 rfl xs _ hr1 Try.underlying34 rfl (by rw [H17.out]; exact info_tab) ?_)
    | fail)
  refine (HC1.out _ (hs.below hb0 hG) (by rw [hz0]; omega)).mono ?_
  rintro e w1 ⟨v1, rfl, hok1, hbad1, hb1⟩
  have hr2' := range_below hr2 hb1 (by rw [hz0]; omega)
  have hbw := hb0.trans (hb1.mono (by rw [hz0]; omega))
  have hz1 := hb1.size
  rw [hz0] at hz1
  clear hr1 hr2 hb0 HC1
  by_cases h0 : checkErr cs syms = 0
  · obtain ⟨b1, rfl, hb1l, HM1⟩ := hok1 h0
    rw [h0]
    rw [hz0] at hb1l
    have H0 := veil h0
    have HM1 := veil HM1
    have hb1z := HM1.out.lt
    clear hok1 hbad1 h0 hb1
    have hba := below1 w1 (.cells #[.map (some b1)] 62)
    have hfv : Blk (w1.alloc (.cells #[.map (some b1)] 62)) w1.heap.size [.map (some b1)] 62 := Blk.new w1 [.map (some b1)] 62
    have hza : (w1.alloc (.cells #[.map (some b1)] 62)).heap.size = w1.heap.size + 1 := by simp
    have hr3 := range_below hr2' hba (by omega)
    have hbwa := hbw.trans (hba.mono hbw.size)
    have HM1a := HM1.out.below hba hb1z
    go_wp2_with (first
      | (refine wpList_load_mid rfl 34 (.tmp 21) rfl w.heap.size 17 rfl ys _ (by simpa using hr3) Try.underlying34 rfl (by rw [H17b.out]; exact info_tab) ?_)
      | fail)
    refine (HC2.out _ (hs2.below hbwa hG) (by omega)).mono ?_
    rintro e w2 ⟨v2, rfl, hok2, hbad2, hb2⟩
    have hbw2 := hbwa.trans (hb2.mono hbwa.size)
    have hz2 := hb2.size
    rw [hza] at hz2
    have HM12 := HM1a.below hb2 (by omega)
    have hfv2 := hfv.below hb2 (by omega)
    clear hr2' hr3 HC2 HM1 hba hfv hbwa HM1a
    by_cases h0b : checkErr cs2 syms2 = 0
    · obtain ⟨b2, rfl, hb2l, HM2⟩ := hok2 h0b
      rw [h0b]
      rw [hza] at hb2l
      have hb2z := HM2.lt
      have H0b := veil h0b
      have HM1 := veil HM12
      have HM2 := veil HM2
      have hfv2 := veil hfv2
      clear hok2 hbad2 h0b HM12 hb2
      obtain ⟨fw, hfw⟩ : ∃ fw, fw = outWords cs syms := ⟨_, rfl⟩
      obtain ⟨rw_, hrw⟩ : ∃ rw_, rw_ = outWords cs2 syms2 := ⟨_, rfl⟩
      have hpf1 : PF fw := by rw [hfw]; exact words_pf2 Hcs.out H0.out
      have hpf2 : PF rw_ := by rw [hrw]; exact words_pf2 Hcs2.out H0b.out
      rw [← hfw] at HM1
      rw [← hrw] at HM2
      have hb3 := below1 w2 (.cells #[.map (some b2)] 62)
      have hb4 := below1 (w2.alloc (.cells #[.map (some b2)] 62)) (.cells #[.slice none 0 0, .slice none 0 0, .int .i64 0] 67)
      have hb5 := below1 ((w2.alloc (.cells #[.map (some b2)] 62)).alloc (.cells #[.slice none 0 0, .slice none 0 0, .int .i64 0] 67)) (.cells #[.bool false] 4)
      obtain ⟨w5, hw5⟩ : ∃ w5, w5 = ((w2.alloc (.cells #[.map (some b2)] 62)).alloc (.cells #[.slice none 0 0, .slice none 0 0, .int .i64 0] 67)).alloc (.cells #[.bool false] 4) := ⟨_, rfl⟩
      have hz3 : (w2.alloc (.cells #[.map (some b2)] 62)).heap.size = w2.heap.size + 1 := by simp
      have hz4 : ((w2.alloc (.cells #[.map (some b2)] 62)).alloc (.cells #[.slice none 0 0, .slice none 0 0, .int .i64 0] 67)).heap.size = w2.heap.size + 2 := by simp
      have hr5 : Blk w5 w2.heap.size [.map (some b2)] 62 := by rw [hw5]; exact ((Blk.new w2 [.map (some b2)] 62).below hb4 (by omega)).below hb5 (by omega)
      have hg5 : Blk w5 (w2.heap.size + 1) [.slice none 0 0, .slice none 0 0, .int .i64 0] 67 := by
        have h9 := Blk.new (w2.alloc (.cells #[.map (some b2)] 62)) [.slice none 0 0, .slice none 0 0, .int .i64 0] 67
        rw [hz3] at h9
        rw [hw5]; exact h9.below hb5 (by omega)
      have hm5 : Blk w5 (w2.heap.size + 2) [.bool false] 4 := by
        have h9 := Blk.new ((w2.alloc (.cells #[.map (some b2)] 62)).alloc (.cells #[.slice none 0 0, .slice none 0 0, .int .i64 0] 67)) [.bool false] 4
        rw [hz4] at h9
        rw [hw5]; exact h9
      have hz5 : w5.heap.size = w2.heap.size + 3 := by rw [hw5]; simp
      have hb25 : Below w2.heap.size w2 w5 := by rw [hw5]; exact (hb3.trans (hb4.mono (by omega))).trans (hb5.mono (by omega))
      have hbw5 := hbw2.trans (hb25.mono hbw2.size)
      have hI : encI fw rw_ syms.length (symS fw) syms2.length (symS rw_) b1 b2 w1.heap.size w2.heap.size (w2.heap.size + 2) (w2.heap.size + 1) (w2.heap.size + 3) w5 (fun q => q = w2.heap.size + 2 ∨ wrF (w2.heap.size + 1) (.slice none 0 0) (.slice none 0 0) q) [] :=
        ⟨[], [], .slice none 0 0, .slice none 0 0, ⟨hg5, ((Owns.nil (by omega)).fresh 69 2).fresh 5 1, by omega, by intro x hx; simp at hx, by simp, by simp⟩, HM1.out.below hb25 (by omega), HM2.out.below hb25 hb2z, hfv2.out.below hb25 (by omega), hr5, by
          rw [show (!decide (AllW fw rw_ [])) = false by rw [decide_eq_true (show AllW fw rw_ [] from fun x hx => by simp at hx)]; rfl]; exact hm5, fun _ => by simp [segBits, fieldBits, unpack], by simp [fieldBits, unpack], rfl⟩
      have hTk := enc_taker fw rw_ syms.length (symS fw) syms2.length (symS rw_) b1 b2 w1.heap.size w2.heap.size (w2.heap.size + 2) (w2.heap.size + 1) (w2.heap.size + 3) w.heap.size hpf1 hpf2 (by omega) (by omega) (by omega) (by omega) (by omega) (by omega) (by omega)
      have HEa := veil (eachToken_any _ _ w.heap.size _ hTk _ L A3 c3 w5 hl hm (fun _ => (hs3.below hbw5 hG).up hG) (by omega) hI)
      have hEe : Hid (eL L ≠ 0 → E = eL L) := fun h => HE.out.trans (eEnc_blk H0.out H0b.out h)
      have hEo : Hid (eL L = 0 → E = if AllW fw rw_ (toksB 0 L) then 0 else 5) := fun h => by have := HE.out.trans (eEnc_end H0.out H0b.out h); rw [hfw, hrw]; exact this
      have hSo : Hid (∀ raw, E = 0 → Bytes raw → (∃ p, p < 8 ∧ unpack raw = segBits fw rw_ (toksB 0 L) ++ List.replicate p true) → SegOut cs syms cs2 syms2 L (stuffB raw)) := fun raw h0 h1 h2 => ⟨fun h => absurd (HE.out.symm.trans h0) h, fun _ => ⟨raw, rfl, h1, by rw [← hfw, ← hrw]; exact h2⟩⟩
      have Hhw : Hid (w.heap.size ≤ w2.heap.size) := hbw2.size
      have Hw5 := veil hw5
      have Hbw5 := veil hbw5
      have Hz5 := veil hz5
      clear hb3 hb4 hb5 hz3 hz4 hr5 hg5 hm5 hz5 hb25 hbw5 hI hTk hfw hrw hpf1 hpf2 HM1 HM2 hfv2 hs hs2 hs3 hw5
      go_upto_region 9 with fail
      rw [← Hw5.out]
      go_wp2_with fail
      refine HEa.out.mono ?_
      rintro e w6 ⟨rfl, F, acc, ⟨D, P, vd, vp, hW, _, _, _, _, hm6, hbits, hlen, rfl⟩, hOn, _, hacc⟩
      have hz6 := hOn.size
      have hbw6 : Below w.heap.size w w6 := Hbw5.out.trans (hOn.below (by have := Hz5.out; have := Hhw.out; omega) (fun q hq => by
        have := Hhw.out
        rcases hq with rfl | rfl | h | h
        · omega
        · omega
        · cases h
        · cases h))
      by_cases hE0 : eL L = 0
      · rw [hE0]
        have hac := hacc hE0
        subst hac
        have hE5 := hEo.out hE0
        have hlL : L.length ≤ 400 := (eL_zero hE0).1
        have htl0 := toksB_len L 0
        have htl : (toksB 0 L).length ≤ 25600 := by omega
        clear htl0
        have hDl : D.length ≤ 1000000 := by rw [List.length_append, unpack_length] at hlen; omega
        have cm := hm6.cell (i := 0) (v := .bool (!decide (AllW fw rw_ (toksB 0 L)))) rfl
        by_cases hAW : AllW fw rw_ (toksB 0 L)
        · rw [if_pos hAW] at hE5
          rw [decide_eq_true hAW] at cm
          have HBy := veil (bytes_any (w2.heap.size + 3) (w2.heap.size + 1) D P vd vp w6 hW hDl)
          have hb6 := hbits hAW
          have Hb6 := veil hb6
          have Hbw6 := veil hbw6
          have HE5 := veil hE5
          have hlen6 := hlen
          rw [hb6] at hlen6
          have Hlen6 := veil hlen6
          clear hOn hW hm6 hbits hlen hacc hE0 hAW hb6 hbw6 hE5 hlen6 hlL hDl
          go_wp2_with fail
          refine HBy.out.mono ?_
          rintro e w7 ⟨v7, raw, rfl, hO7, ⟨hby7, p, hp, hun⟩, hb7⟩
          have hz7 := hb7.size
          have hrl := congrArg List.length hun
          rw [Hb6.out, unpack_length, List.length_append, List.length_replicate] at hrl
          obtain ⟨A7, c7, hv7, hs7, _, _⟩ := hO7.seen (List.mem_cons_self ..)
          simp only [byteRow, intRow] at hv7 hs7
          subst hv7
          have hsl := stuffB_length_le raw
          have HSt := veil (stuff_any A7 c7 w7.heap.size raw w7 hs7 (Nat.le_refl _) (by have := Hlen6.out; omega))
          have hSO := hSo.out raw HE5.out hby7 ⟨p, hp, by rw [hun, Hb6.out]⟩
          have HSO := veil hSO
          have hbw7 := Hbw6.out.trans (hb7.mono (by have := Hhw.out; omega))
          have Hbw7 := veil hbw7
          clear hO7 hby7 hun hb7 hrl hs7 hsl hSO hbw7 HBy
          go_wp2_with fail
          refine HSt.out.mono ?_
          rintro e w8 ⟨v8, rfl, hO8, hb8⟩
          have hf8 := Hbw7.out.trans (hb8.mono Hbw7.out.size)
          have hO9 := hO8.down Hbw7.out.size
          clear hO8 hb8 HSt
          go_wp2_with fail
          go_ret2
          exact ⟨v8, stuffB raw, ret_two rfl (by rw [HE5.out]; rfl), hO9, HSO.out, hf8⟩
        · rw [if_neg hAW] at hE5
          rw [decide_eq_false hAW] at cm
          have hS := HSo.out (by rw [hE5]; decide)
          have HS := veil hS
          have HE5 := veil hE5
          clear hOn hW hm6 hbits hlen hacc hE0 hAW hE5 hS hlL hDl
          go_wp2_with fail
          go_ret2
          exact ⟨_, [], ret_two rfl (by rw [HE5.out]; rfl), (Owns.nil hbw6.size).fresh _ _, HS.out, hbw6⟩
      · have hE5 := hEe.out hE0
        have hS := HSo.out (by rw [hE5]; exact hE0)
        have hne : (eL L != 0) = true := by simpa using hE0
        have HS := veil hS
        have HE5 := veil hE5
        obtain ⟨er, her⟩ : ∃ er, er = eL L := ⟨_, rfl⟩
        rw [← her] at hne HE5 ⊢
        clear hOn hW hm6 hbits hlen hacc hE0 hE5 hS her
        go_wp2_with fail
        go_ret2
        exact ⟨_, [], ret_two rfl (by rw [HE5.out]; rfl), (Owns.nil hbw6.size).fresh _ _, HS.out, hbw6⟩
    · have hE1 := HE.out.trans (eEnc_two (L := L) H0.out h0b)
      have hS := HSo.out (by rw [hE1]; exact h0b)
      have HS := veil hS
      have HE1 := veil hE1
      have hne : (checkErr cs2 syms2 != 0) = true := by simpa using h0b
      obtain ⟨er, her⟩ : ∃ er, er = checkErr cs2 syms2 := ⟨_, rfl⟩
      have hbx := hbw2.trans ((below1 w2 (.cells #[.map none] 62)).mono hbw2.size)
      obtain rfl := hbad2 h0b
      rw [← her] at hne HE1 ⊢
      clear hE1 hS h0b her hok2
      go_wp2
      go_ret2
      exact ⟨_, [], ret_two rfl (by rw [HE1.out]; rfl), (Owns.nil hbx.size).fresh _ _, HS.out, hbx⟩
  · have hE1 := HE.out.trans (eEnc_one (cs2 := cs2) (syms2 := syms2) (L := L) h0)
    have hS := HSo.out (by rw [hE1]; exact h0)
    have HS := veil hS
    have HE1 := veil hE1
    have hne : (checkErr cs syms != 0) = true := by simpa using h0
    obtain ⟨er, her⟩ : ∃ er, er = checkErr cs syms := ⟨_, rfl⟩
    have hbx := hbw.trans ((below1 w1 (.cells #[.map none] 62)).mono hbw.size)
    obtain rfl := hbad1 h0
    rw [← her] at hne HE1 ⊢
    clear hE1 hS h0 her hok1
    go_wp2
    go_ret2
    exact ⟨_, [], ret_two rfl (by rw [HE1.out]; rfl), (Owns.nil hbx.size).fresh _ _, HS.out, hbx⟩
end Go.Proofs.Ytbboakdfnjjddaa

/- The reference's BlocksCheck: its contract. -/
namespace Go.Proofs.Ytbboakdfnjjddaa
open Go.RowKit
set_option linter.unusedVariables false
set_option linter.unusedSimpArgs false
set_option maxRecDepth 100000

set_option maxHeartbeats 2000000 in
set_option maxRecDepth 100000 in
theorem blocksCheck_any (L : List (List Int)) (A : Option Addr) (c G : Nat) (w : World) (hl : ∀ r ∈ L, r.length = 64) (hm : L.length ≤ maxLen) (hs : Seen w G A (rowsC L)) (hG : G ≤ w.heap.size) :
    Calls Try.prog 10 #[.slice A L.length c] w fun e w' => e = .returned (.int .i64 (eL L)) ∧ Below w.heap.size w w' := by
  unfold maxLen at hm
  obtain ⟨E, hE⟩ : ∃ E, E = eL L := ⟨_, rfl⟩
  rw [← hE]
  by_cases hbig : 400 < L.length
  · have hbz : (400 : Int) < (L.length : Int) := by omega
    rw [eL_large hbig] at hE
    subst hE
    go_enter Try.func10, Try.ntmps10
    go_wp2
    go_ret
    exact ⟨rfl, Below.refl _ _⟩
  · have hbz : ¬ (400 : Int) < (L.length : Int) := by omega
    have HE := veil hE
    have Hbig := veil hbig
    have HW : Hid (∀ r ∈ L, ∀ W, Calls Try.prog 26 #[blkV r, .int .i64 (-2047), .int .i64 2047] W fun e w' => e = .returned (.bool (inB (-2047) 2047 r)) ∧ Below W.heap.size W w') := fun r hr W => bwithin_any r (-2047) 2047 W (hl r hr)
    clear hE hbig
    unfold blkV at HW
    go_enter Try.func10, Try.ntmps10
    go_wp2_with fail
    go_loopg [10] L.length (fun gk iv wr => ∃ k : Nat, gk = L.length - k ∧ k ≤ L.length ∧ iv = .int .i64 (k : Int) ∧ Hid (∀ r ∈ L.take k, inB (-2047) 2047 r = true) ∧ Below w.heap.size w wr)
    case atStart => exact ⟨0, rfl, Nat.zero_le _, rfl, veil (by simp), Below.refl _ _⟩
    case round =>
      obtain ⟨k, rfl, hk, rfl, HI, hb⟩ := hrel
      by_cases hlt : k < L.length
      · have hltz : (k : Int) < (L.length : Int) := by omega
        obtain ⟨g, o, r, rfl, hg, hr, hrl, hrange⟩ := hs.row hl (by omega) hlt
        have hrg := range_below hrange hb (by omega)
        have hmem := List.mem_of_getElem? hr
        have HC := veil (HW.out r hmem)
        have Hl : Hid ((ints .i64 r).length = 64) := by show _ = _; rw [ints_length, hrl]
        have hone := ints_one (k := .i64) (l := r)
        have hr2 := range_new wr (ints .i64 r) 47
        have hb2 := hb.alloc hb.size (.cells (ints .i64 r).toArray 47)
        have HIn : Hid (inB (-2047) 2047 r = true → ∀ x ∈ L.take (k + 1), inB (-2047) 2047 x = true) := fun h x hx => by
          rw [take_snoc hr] at hx
          rcases List.mem_append.1 hx with hx | hx
          · exact HI.out x hx
          · rw [List.mem_singleton.1 hx]; exact h
        have Hr := veil hr
        clear hrange hr hmem
        generalize hys : ints .i64 r = ys at *
        clear hys
        go_wp2_with (first
          | (refine wpList_load_mid rfl 47 (.tmp 12) rfl g (o + k * 64) rfl ys _ hrg Try.underlying47 rfl (info_blkn Hl.out) ?_)
          | (refine wpList_store_new wr rfl 47 (.tmp 4) (.tmp 13) rfl zeroB.toArray ys rfl rfl (info_blkn Hl.out) (by rw [Hl.out]; rfl) hone ?_)
          | (refine wpList_load_mid rfl 47 (.tmp 4) rfl wr.heap.size 0 rfl ys _ hr2 Try.underlying47 rfl (info_blkn Hl.out) ?_)
          | fail)
        refine (HC.out _).mono ?_
        rintro e w2 ⟨rfl, hb3⟩
        have hb4 := hb2.trans (hb3.mono hb2.size)
        clear hrg hr2 hb2 hb3 HC
        cases hin : inB (-2047) 2047 r with
        | true =>
          have HI2 := veil (HIn.out hin)
          clear hin HIn HI
          go_wp2_with fail
          go_roundg (L.length - (k + 1))
          case rel => exact ⟨k + 1, rfl, by omega, by go_num, HI2, hb4⟩
          case measure => omega
        | false =>
          have h5 := eL_bad Hbig.out Hr.out hin
          rw [← HE.out] at h5
          subst h5
          clear hin HIn HI
          go_wp2
          go_ret
          exact ⟨rfl, hb4⟩
      · obtain rfl : k = L.length := by omega
        have h5 := eL_ok Hbig.out (fun r hr => HI.out r (by rw [List.take_of_length_le (Nat.le_refl _)]; exact hr))
        rw [← HE.out] at h5
        subst h5
        go_wp2
        go_ret
        exact ⟨rfl, hb⟩
end Go.Proofs.Ytbboakdfnjjddaa

/- strings.Builder, over digits: what the reference writes into one and takes out of it. -/
namespace Go.Proofs.Ytbboakdfnjjddaa
open Go.RowKit
set_option linter.unusedVariables false
set_option linter.unusedSimpArgs false
set_option maxRecDepth 100000

/-- A builder of the call's own, in block b, that holds these digits. -/
def Bld (B b : Nat) (l : List Bool) (w : World) : Prop :=
  ∃ p v, (p = .pointer none ∨ p = .pointer (some ⟨b, 0, none⟩)) ∧ B ≤ b ∧ w.heap[b]? = some (.cells #[p, v] 77 (0, 0)) ∧
    w.ownsRow B 5 1 v l.length (Lib.strCells (txt l)) ∧ v.ownBlock ≠ some b ∧ (l = [] → v = .slice none 0 0)

theorem bld_new (w : World) : Bld w.heap.size w.heap.size [] (w.alloc (.cells #[.pointer none, .slice none 0 0] 77)) :=
  ⟨_, _, .inl rfl, Nat.le_refl _, heap_alloc_new w _, World.ownsRow_nil _ _ _ _, by simp [Value.ownBlock], fun _ => rfl⟩
theorem Bld.lt {B b : Nat} {l : List Bool} {w : World} (h : Bld B b l w) : b < w.heap.size := by
  obtain ⟨p, v, _, _, hb, _⟩ := h
  rcases Nat.lt_or_ge b w.heap.size with h' | h'
  · exact h'
  · rw [Array.getElem?_eq_none h'] at hb; cases hb
theorem Bld.below {B b : Nat} {l : List Bool} {w w' : World} (h : Bld B b l w) (hb : Below w.heap.size w w') : Bld B b l w' := by
  have hlt := h.lt
  obtain ⟨p, v, hp, hB, hh, hown, hne, h0⟩ := h
  exact ⟨p, v, hp, hB, by rw [hb.block b hlt]; exact hh, own_below hown hb, hne, h0⟩

theorem info_bld : (Try.prog.info? 77).map (fun i => i.size) = some 2 := by kernel_rfl
theorem lies_bld : liesAt Try.prog Try.prog.depth 77 (2 / Try.prog.cellsOf 77) 0 77 1 = true := by kernel_rfl

set_option maxHeartbeats 1000000 in
theorem copyCheck_used (b : Nat) (w : World) (h0 : w.cell? ⟨b, 0, none⟩ = some (.pointer (some ⟨b, 0, none⟩))) :
    Calls Try.prog 61 #[.pointer (some ⟨b, 0, none⟩)] w fun e w' => e = .returned (.tuple #[]) ∧ w = w' := by
  obtain ⟨j, hj, _⟩ := Option.map_eq_some_iff.1 info_bld
  go_enter Try.func61, Try.ntmps61
  go_wp2
  rw [Lib.run_neq_ptr_same w _ Try.underlying75 hj]
  go_wp2
  go_end0
  exact ⟨rfl, rfl⟩

set_option maxHeartbeats 1000000 in
theorem copyCheck_fresh (b : Nat) (w : World) (h0 : w.cell? ⟨b, 0, none⟩ = some (.pointer none)) (hsh : w.shape? b = some (77, 2)) (hfz : w.frozen? ⟨b, 0, none⟩ = false) :
    Calls Try.prog 61 #[.pointer (some ⟨b, 0, none⟩)] w fun e w' => e = .returned (.tuple #[]) ∧ w.setCell ⟨b, 0, none⟩ (.pointer (some ⟨b, 0, none⟩)) = w' := by
  obtain ⟨j, hj, hjs⟩ := Option.map_eq_some_iff.1 info_bld
  go_enter Try.func61, Try.ntmps61
  go_wp2
  rw [Lib.run_to_unsafe w ⟨b, 0, none⟩ Try.underlying75 Try.underlying145 hj (by rw [hjs]; decide) hsh (Nat.zero_lt_succ 1)]
  simp only [Result.andThen]
  rw [Oper.upon_value]
  go_wp2
  rw [run_callFunc_extern Try.func84 (by kernel_rfl) (by kernel_rfl) (by kernel_rfl) (e := Extern.AbiNoEscape.same) (by kernel_rfl)]
  rw [Lib.run_noEscape]
  simp only [Result.andThen]
  rw [Oper.upon_value]
  go_wp2
  rw [Lib.run_from_unsafe w ⟨b, 0, none⟩ Try.underlying145 Try.underlying75 hj hsh lies_bld]
  simp only [Result.andThen]
  rw [Oper.upon_value]
  go_wp2
  go_end0
  exact ⟨rfl, rfl⟩

/-- copyCheck: behind it the builder knows its own address; it holds what it held. -/
theorem copyCheck_any (B b : Nat) (l : List Bool) (w : World) (h : Bld B b l w) :
    Calls Try.prog 61 #[.pointer (some ⟨b, 0, none⟩)] w fun e w' => e = .returned (.tuple #[]) ∧
      (∃ v, w'.heap[b]? = some (.cells #[.pointer (some ⟨b, 0, none⟩), v] 77 (0, 0)) ∧ w'.ownsRow B 5 1 v l.length (Lib.strCells (txt l)) ∧ v.ownBlock ≠ some b ∧ (l = [] → v = .slice none 0 0)) ∧ Below B w w' := by
  obtain ⟨p, v, hp, hB, hh, hown, hne, h0⟩ := h
  have hat : Lib.BuilderAt 77 5 B b p (Lib.strCells (txt l)) w := ⟨hB, v, hh, by rw [Lib.strCells_length, txt_size]; exact hown, hne⟩
  rcases hp with rfl | rfl
  · refine (copyCheck_fresh b w hat.cell0 hat.shape hat.frozen0).mono ?_
    rintro e w' ⟨rfl, rfl⟩
    refine ⟨rfl, ⟨v, ?_, ?_, hne, h0⟩, (Below.refl B w).setCell (p := ⟨b, 0, none⟩) hB _⟩
    · simp [World.setCell, Array.getElem?_modify, hh]
    · obtain ⟨h1, h2⟩ := hown
      refine ⟨h1, ?_⟩
      rcases h2 with h2 | ⟨g, cap, cur, hv, hg, hh2, r⟩
      · exact .inl h2
      · refine .inr ⟨g, cap, cur, hv, hg, ?_, r⟩
        rw [Below.heap_setCell _ _ _ _ (by rintro rfl; exact hne (by rw [hv]; rfl))]
        exact hh2
  · refine (copyCheck_used b w hat.cell0).mono ?_
    rintro e w' ⟨rfl, rfl⟩
    exact ⟨rfl, ⟨v, hh, hown, hne, h0⟩, Below.refl B _⟩

theorem strCells_append (a b : List Bool) : Lib.strCells (txt a) ++ Lib.strCells (txt b) = Lib.strCells (txt (a ++ b)) := by
  rw [← txt_append]; simp [Lib.strCells]

set_option maxHeartbeats 2000000 in
theorem writeString_any (B b : Nat) (l m : List Bool) (w : World) (h : Bld B b l w) (hlen : l.length + m.length ≤ 140737488355328) (hBw : B ≤ w.heap.size) :
    Calls Try.prog 35 #[.pointer (some ⟨b, 0, none⟩), .string (txt m)] w fun e w' => e = .returned (.tuple #[.int .i64 (txt m).size, .nilIface]) ∧ Bld B b (l ++ m) w' ∧ Below B w w' := by
  obtain ⟨i0, hi, hz0, hz1, hz2⟩ := info_parts info_byte
  have hB : B ≤ b := by obtain ⟨_, _, _, hB, _⟩ := h; exact hB
  go_enter Try.func35, Try.ntmps35
  go_wp2_with fail
  refine (copyCheck_any B b l _ h).mono ?_
  rintro e w1 ⟨rfl, ⟨v, hbk, hown, hne, hnil⟩, hb1⟩
  have c0 : w1.cell? ⟨b, 0, none⟩ = some (.pointer (some ⟨b, 0, none⟩)) := by rw [Lib.cell_of_heap hbk]; rfl
  have c1 : w1.cell? ⟨b, 1, none⟩ = some v := by rw [Lib.cell_of_heap hbk]; rfl
  go_wp2_with (at_builtin; refine Lib.wpList_append_own_string _ rfl _ _ 37 9 rfl B 5 i0 Try.underlying37 Try.underlying9 hi hz0 hz1 hz2 _ _ _ rfl hown (txt m) rfl ?c3 ?c4 ?c5 ?_)
  case c3 => rw [txt_size]; unfold maxLen; omega
  case c4 => rw [txt_size]; omega
  case c5 => have := hb1.size; omega
  intro v' w2 hown' hgrow hn'
  have hlt : b < w1.heap.size := by
    rcases Nat.lt_or_ge b w1.heap.size with h' | h'
    · exact h'
    · simp [Array.getElem?_eq_none h'] at hbk
  have hb2 : w2.heap[b]? = some (.cells #[.pointer (some ⟨b, 0, none⟩), v] 77 (0, 0)) := by
    rw [hgrow.block b hlt (fun e => hne e.symm)]
    exact hbk
  have d0 : w2.cell? ⟨b, 0, none⟩ = some (.pointer (some ⟨b, 0, none⟩)) := by rw [Lib.cell_of_heap hb2]; rfl
  have d1 : w2.cell? ⟨b, 1, none⟩ = some v := by rw [Lib.cell_of_heap hb2]; rfl
  have f1 : w2.frozen? ⟨b, 1, none⟩ = false := Lib.frozen_of_heap hb2 1
  rw [strCells_append, txt_size, ← List.length_append] at hown'
  have hnil' : l ++ m = [] → v' = .slice none 0 0 := by
    intro e
    obtain ⟨e1, e2⟩ := List.append_eq_nil_iff.1 e
    exact hn'.2 ⟨hnil e1, by rw [e2]; rfl⟩
  have hne' := Lib.ownBlock_ne hown' hb2 (by decide)
  have Hnil := veil hnil'; have Hne := veil hne'
  clear hnil' hne' hnil hn' hne
  have hfin : Bld B b (l ++ m) (w2.setCell ⟨b, 1, none⟩ v') := by
    refine ⟨_, v', .inr rfl, hB, ?_, ?_, Hne.out, Hnil.out⟩
    · simp [World.setCell, Array.getElem?_modify, hb2]
    · obtain ⟨h1, h2⟩ := hown'
      refine ⟨h1, ?_⟩
      rcases h2 with h2 | ⟨g, cap, cur, hv, hg, hh2, r⟩
      · exact .inl h2
      · refine .inr ⟨g, cap, cur, hv, hg, ?_, r⟩
        rw [Below.heap_setCell _ _ _ _ (by rintro rfl; exact Hne.out (by rw [hv]; rfl))]
        exact hh2
  have hbf : Below B w (w2.setCell ⟨b, 1, none⟩ v') := (hb1.grown hgrow (by have := hb1.size; omega) (fun k hk => (hown.lt k hk).1)).setCell (p := ⟨b, 1, none⟩) hB _
  obtain ⟨ao, n', cap, rfl⟩ : ∃ ao n' cap, v' = .slice ao n' cap := by
    rcases hown'.2 with ⟨hv, _⟩ | ⟨g, cap, cur, hv, _⟩
    · exact ⟨_, _, _, hv⟩
    · exact ⟨_, _, _, hv⟩
  go_wp2
  go_ret2
  exact ⟨rfl, hfin, hbf⟩

set_option maxHeartbeats 2000000 in
theorem string_any (B b : Nat) (l : List Bool) (w : World) (h : Bld B b l w) :
    Calls Try.prog 39 #[.pointer (some ⟨b, 0, none⟩)] w fun e w' => e = .returned (.string (txt l)) ∧ Below B w w' := by
  obtain ⟨p, v, hp, hB, hbk, hown, hne, hnil⟩ := h
  by_cases h0 : l = []
  · obtain rfl := hnil h0
    subst h0
    have hUS := fun (W : World) (q : Option Addr) => Lib.run_unsafeString_none (P := Try.prog) W 120 3 9 q
    have c1 : w.drew.cell? ⟨b, 1, none⟩ = some (.slice none 0 0) := by
      have : w.drew.heap[b]? = some (.cells #[p, .slice none 0 0] 77 (0, 0)) := hbk
      rw [Lib.cell_of_heap this]; rfl
    have hSD : (Builtin.unsafeSliceData_ #[37] 120 #[.slice none 0 0]).run Try.prog w.drew = .ok (.pointer none) w.drew := rfl
    go_enter Try.func39, Try.ntmps39
    go_wp2
    go_region
    all_goals (go_wp2; go_ret; exact ⟨rfl, Below.drew (Below.refl B w)⟩)
  · have hl0 : l.length ≠ 0 := by simpa using h0
    obtain ⟨g, cap, cur, rfl, hbg, hg, hnc, hcm, hcs, htake⟩ : ∃ g cap cur, v = .slice (some ⟨g, 0, none⟩) l.length cap ∧ B ≤ g ∧ w.heap[g]? = some (.cells cur 5 (0, 0)) ∧ l.length ≤ cap ∧ cap ≤ maxLen ∧ cur.size = cap * 1 ∧ cur.toList.take (l.length * 1) = Lib.strCells (txt l) := by
      rcases hown.2 with ⟨_, hz⟩ | ⟨g, cap, cur, hv, r⟩
      · exact absurd hz hl0
      · exact ⟨g, cap, cur, hv, r⟩
    have c1 : w.drew.cell? ⟨b, 1, none⟩ = some (.slice (some ⟨g, 0, none⟩) l.length cap) := by
      have : w.drew.heap[b]? = some (.cells #[p, .slice (some ⟨g, 0, none⟩) l.length cap] 77 (0, 0)) := hbk
      rw [Lib.cell_of_heap this]; rfl
    have hSD : (Builtin.unsafeSliceData_ #[37] 120 #[.slice (some ⟨g, 0, none⟩) l.length cap]).run Try.prog w.drew = .ok (.pointer (some ⟨g, 0, none⟩)) w.drew :=
      Lib.run_unsafeSliceData_row _ _ _ _ _ _ (by omega)
    have hdl : (dig l).length = l.length := by simp [dig]
    have hUS : (Builtin.unsafeString_ #[120, 3] 9 #[.pointer (some ⟨g, 0, none⟩), .int .i64 l.length]).run Try.prog w.drew = .ok (.string (txt l)) (w.drew.freeze ⟨g, 0, none⟩ l.length) := by
      have hr := Lib.run_unsafeString_row (P := Try.prog) w.drew 120 3 9 5 Try.underlying120 (by kernel_rfl) g cur.size (by have hg' : w.drew.heap[g]? = some (.cells cur 5 (0, 0)) := hg; simp [World.shape?, hg']) (dig l) (by simpa [dig] using h0) (by omega) (by unfold maxLen at hcm; omega) (by
        intro j x hx
        exact hown.cells (g := g) rfl j (.int .u8 x.toNat) (by simp [Lib.strCells, txt, hx]))
      rw [hdl] at hr
      exact hr
    clear htake hcs
    go_enter Try.func39, Try.ntmps39
    go_wp2
    go_region
    all_goals (go_wp2; go_ret; exact ⟨rfl, Lib.below_freeze (Below.drew (Below.refl B w)) (p := ⟨g, 0, none⟩) hbg _⟩)
end Go.Proofs.Ytbboakdfnjjddaa

/- The reference's bytesOf: whole bytes out of binary digits, the rest ones. -/
namespace Go.Proofs.Ytbboakdfnjjddaa
open Go.RowKit
set_option linter.unusedVariables false
set_option linter.unusedSimpArgs false
set_option maxRecDepth 100000

theorem txt_extract (l : List Bool) (a b : Nat) : (txt l).extract a b = txt ((l.drop a).take (b - a)) := by
  apply ByteArray.ext
  simp [txt, dig, ByteArray.data_extract, List.map_take, List.map_drop]
theorem slice_txt (L : List Bool) (a b : Int) (ha : 0 ≤ a) (hab : a ≤ b) (hb : b ≤ L.length) (wx : World) :
    (Instr.slice 9 (.string (txt L)) (some (.int .i64 a)) (some (.int .i64 b)) none).run Try.prog wx = .ok (.string (txt ((L.drop a.toNat).take (b.toNat - a.toNat)))) wx := by
  rw [run_slice_string_if wx 9 (txt L) .i64 .i64 a b Try.underlying9, if_pos ⟨by omega, by rw [txt_size]; exact hb⟩, if_pos ⟨ha, hab⟩, txt_extract]
/-- How many ones are wanted. -/
def lack (n : Nat) : Nat := (8 - n % 8) % 8

set_option maxHeartbeats 1000000 in
theorem bytesOf_any (l : List Bool) (w : World) (hl : l.length ≤ 1000000) :
    Calls Try.prog 38 #[.string (txt l)] w fun e w' => ∃ v out, e = .returned v ∧ w'.ownsRow w.heap.size 5 1 v out.length (ints .u8 out) ∧ (Bytes out ∧ ∃ p, p < 8 ∧ unpack out = l ++ List.replicate p true) ∧ Below w.heap.size w w' := by
  go_enter Try.func38, Try.ntmps38
  go_wp2_with fail
  go_loopg [0] 8 (fun gk s wr => ∃ q : Nat, gk = 8 - q ∧ q ≤ lack l.length ∧ s = .string (txt (l ++ List.replicate q true)) ∧ w = wr)
  case atStart => exact ⟨0, rfl, Nat.zero_le _, by simp, rfl⟩
  case round =>
    obtain ⟨q, rfl, hq, rfl, rfl⟩ := hrel
    have hlk : lack l.length < 8 := Nat.mod_lt _ (by omega)
    have hsz : (txt (l ++ List.replicate q true)).size = l.length + q := by rw [txt_size]; simp
    have hone : (⟨#[49]⟩ : ByteArray) = txt [true] := rfl
    by_cases hlt : q < lack l.length
    · have hne : (((l.length : Int) + (q : Int)) % 8 != 0) = true := by rw [bne_iff_ne]; unfold lack at hlt; omega
      have hb2 : l.length + q + (txt [true]).size ≤ 9223372036854775807 := by rw [txt_size]; simp; omega
      go_wp2
      go_roundg (8 - (q + 1))
      case rel => exact ⟨q + 1, rfl, by omega, by rw [txt_append, List.append_assoc, ← List.replicate_succ'], rfl⟩
      case measure => omega
    · obtain rfl : q = lack l.length := by omega
      have hne : (((l.length : Int) + (lack l.length : Int)) % 8 != 0) = false := by simp; unfold lack; omega
      have hm : ∃ m, l.length + lack l.length = 8 * m := ⟨(l.length + lack l.length) / 8, by unfold lack; omega⟩
      obtain ⟨m, hm⟩ := hm
      generalize hL : l ++ List.replicate (lack l.length) true = L at *
      have hLl : L.length = 8 * m := by rw [← hL]; simp; omega
      have HL := veil hL; clear hL
      have Hm := veil hm; clear hm
      rw [Hm.out] at hsz
      have hne2 : ((8 * (m : Int)) % 8 != 0) = false := by simp
      have hmm : m ≤ 1000000 := by have := Hm.out; omega
      have hnat : ((l.length + lack l.length : Nat) : Int) = 8 * (m : Int) := by rw [Hm.out]; simp
      clear hne hlt hq hone
      go_wp2_with fail
      clear hnat hne2
      go_loopg [3, 4] m (fun gk v i wr => ∃ (k : Nat) (out : List Int), gk = m - k ∧ k ≤ m ∧ i = .int .i64 (8 * k : Nat) ∧ out.length = k ∧ Bytes out ∧ Hid (unpack out = L.take (8 * k)) ∧ wr.ownsRow w.heap.size 5 1 v out.length (ints .u8 out) ∧ Below w.heap.size w wr)
      case atStart => exact ⟨0, [], rfl, Nat.zero_le _, rfl, rfl, by simp [Bytes], rfl, World.ownsRow_nil _ _ _ _, Below.refl _ _⟩
      case round =>
        obtain ⟨k, out, rfl, hk, rfl, hol, hby, Hu, hown, hb⟩ := hrel
        have hB := hb.size
        by_cases hlt : k < m
        · have hlt' : (8 * (k : Int)) < 8 * (m : Int) := by omega
          have hsl := slice_txt L (8 * (k : Int)) (8 * (k : Int) + 8) (by omega) (by omega) (by omega)
          rw [show (8 * (k : Int)).toNat = 8 * k by omega, show (8 * (k : Int) + 8).toNat - 8 * k = 8 by omega] at hsl
          have hcut : ((L.drop (8 * k)).take 8).length = 8 := by simp; omega
          have hv := valB_lt ((L.drop (8 * k)).take 8)
          rw [hcut] at hv
          have hv2 : valB ((L.drop (8 * k)).take 8) ≤ 255 := by omega
          have Hol := veil hol; clear hol
          have hL2 : out.length ≤ 1000000 := by rw [Hol.out]; omega
          have Hsn : Hid (unpack (out ++ [(valB ((L.drop (8 * k)).take 8) : Int)]) = L.take (8 * (k + 1))) := by
            show unpack _ = _
            rw [unpack_snoc, Hu.out, Int.toNat_natCast]
            have e := bitsN_valB ((L.drop (8 * k)).take 8)
            rw [hcut] at e
            rw [e, show 8 * (k + 1) = 8 * k + 8 by omega, List.take_add]
          have Hcut := veil hcut
          clear hcut hv
          generalize (L.drop (8 * k)).take 8 = D at *
          go_wp2_with (first
            | (go_at_call 49; refine (fromBinary_any D _ (by rw [Hcut.out]; omega)).mono ?_; rintro e w1 ⟨rfl, hb1⟩)
            | (at_builtin; go_loud (refine wpList_app1 _ rfl (.tmp 17) (.tmp 25) _ rfl w.heap.size 5 .u8 1 Try.underlying37 info_byte _ out _ rfl (own_below hown hb1) rfl (by omega) (by omega) (Nat.le_trans hB hb1.size) ?_); intro v' w' hown' hbel' hsz'))
          go_roundg (m - (k + 1))
          case rel => exact ⟨k + 1, out ++ [(valB D : Int)], rfl, by omega, by go_num, by simp [Hol.out], hby.snoc (by omega), Hsn, hown', (hb.trans (hb1.mono hB)).trans hbel'⟩
          case measure => omega
        · obtain rfl : k = m := by omega
          go_wp2
          go_ret
          refine ⟨_, out, rfl, hown, ⟨hby, lack l.length, hlk, ?_⟩, hb⟩
          rw [Hu.out, ← HL.out, List.take_of_length_le]
          rw [HL.out]; omega
end Go.Proofs.Ytbboakdfnjjddaa

/- The reference's Stuff and Plain: the same contracts. -/
namespace Go.Proofs.Ytbboakdfnjjddaa
open Go.RowKit
set_option linter.unusedVariables false
set_option linter.unusedSimpArgs false
set_option maxRecDepth 100000

set_option maxHeartbeats 1000000 in
theorem refStuff_any (A : Option Addr) (c G : Nat) (bs : List Int) (w : World) (hb : Seen w G A (ints .u8 bs)) (hG : G ≤ w.heap.size) (hl : (stuffB bs).length ≤ 140737488355328) :
    Calls Try.prog 37 #[.slice A bs.length c] w fun e w' => ∃ v, e = .returned v ∧ Owns w.heap.size [byteRow v (stuffB bs)] w' ∧ Below w.heap.size w w' := by
  have hl0 : bs.length ≤ 140737488355328 := Nat.le_trans (length_le_stuffB bs) hl
  go_enter Try.func37, Try.ntmps37
  go_wp2_with fail
  go_loopg [3, 5, 8] bs.length (fun gk v x i wr => ∃ k : Nat, gk = bs.length - k ∧ k ≤ bs.length ∧ i = .int .i64 k ∧ Owns w.heap.size [byteRow v (stuffB (bs.take k))] wr ∧ Below w.heap.size w wr)
  case atStart => exact ⟨0, rfl, Nat.zero_le _, rfl, (Owns.start w).fresh _ _, Below.refl _ _⟩
  case round =>
    obtain ⟨k, rfl, hk, rfl, HO, hbel⟩ := hrel
    have hB := hbel.size
    by_cases hlt : k < bs.length
    · obtain ⟨g, o, x, rfl, hg, hx, h1⟩ := hb.int hlt
      have hroom := stuff_room hx
      have hsn := stuff_snoc hx
      have Hsn := veil hsn; clear hsn hx
      rw [← hbel.cell (by simp; omega)] at h1
      generalize stuffB (bs.take k) = out at *
      by_cases h255 : x = 255
      · subst h255
        have hs1 : (stuff1 255).length = 2 := rfl
        rw [hs1] at hroom
        go_wp2_with (first
          | (at_builtin; go_loud (refine wpList_ownI _ rfl (.tmp 12) (.tmp 14) _ rfl w.heap.size 5 .u8 1 elem_byte u3 out [] rfl HO [255] rfl (by unfold maxLen; simp; omega) (by simp; omega) ?_); intro v1 w1 HO1 hb1 hz1)
          | (at_builtin; go_loud (refine wpList_ownI _ rfl (.tmp 18) (.tmp 19) _ rfl w.heap.size 5 .u8 1 elem_byte v1 (out ++ [255]) [] rfl HO1 [0] rfl (by unfold maxLen; simp; omega) (by simp; omega) ?_); intro v2 w2 HO2 hb2 hz2))
        go_roundg (bs.length - (k + 1))
        case rel => exact ⟨k + 1, rfl, by omega, by go_num, by rw [Hsn.out]; simpa [stuff1] using HO2, (hbel.trans hb1).trans hb2⟩
        case measure => omega
      · have hb0 : (x == 255) = false := by simpa using h255
        have hs1 : stuff1 x = [x] := by unfold stuff1; rw [if_neg h255]
        have Hs1 := veil hs1
        rw [hs1] at hroom
        simp at hroom
        clear hs1 h255
        go_wp2_with (at_builtin; go_loud (refine wpList_ownI _ rfl (.tmp 12) (.tmp 14) _ rfl w.heap.size 5 .u8 1 elem_byte u3 out [] rfl HO [x] rfl (by unfold maxLen; simp; omega) (by simp; omega) ?_); intro v1 w1 HO1 hb1 hz1)
        go_roundg (bs.length - (k + 1))
        case rel => exact ⟨k + 1, rfl, by omega, by go_num, by rw [Hsn.out, Hs1.out]; exact HO1, hbel.trans hb1⟩
        case measure => omega
    · obtain rfl : k = bs.length := by omega
      rw [List.take_length] at HO
      go_wp2
      go_ret
      exact ⟨_, rfl, HO, hbel⟩

set_option maxHeartbeats 1000000 in
theorem refPlain_any (A : Option Addr) (c G : Nat) (bs : List Int) (w : World) (hb : Seen w G A (ints .u8 bs)) (hG : G ≤ w.heap.size) (hl : bs.length ≤ 140737488355328) :
    Calls Try.prog 44 #[.slice A bs.length c] w fun e w' => ∃ v, e = .returned (.tuple #[v, .int .i64 (plainErr bs)]) ∧ Owns w.heap.size [byteRow v (plainOut bs)] w' ∧ Below w.heap.size w w' := by
  go_enter Try.func44, Try.ntmps44
  go_wp2_with fail
  go_loopg [4, 5] bs.length (fun gk v i wr => ∃ (k : Nat) (acc : List Int), gk = bs.length - k ∧ k ≤ bs.length ∧ i = .int .i64 k ∧ Hid (PlInv bs k acc) ∧ acc.length ≤ k ∧ Owns w.heap.size [byteRow v acc] wr ∧ Below w.heap.size w wr)
  case atStart => exact ⟨0, [], rfl, Nat.zero_le _, rfl, veil (PlInv.start bs), Nat.zero_le _, (Owns.start w).fresh _ _, Below.refl _ _⟩
  case round =>
    obtain ⟨k, acc, rfl, hk, rfl, HI, hacc, HO, hbel⟩ := hrel
    have hB := hbel.size
    by_cases hlt : k < bs.length
    · obtain ⟨g, o, x, rfl, hg, hx, h1⟩ := hb.int hlt
      have Hx := veil hx; clear hx
      rw [← hbel.cell (by simp; omega)] at h1
      by_cases h255 : x = 255
      · subst h255
        by_cases hlast : k + 1 = bs.length
        · have hpn := HI.out.last Hx.out hlast
          have hpo := plain_none hpn
          have Ho := veil hpo.1; have He := veil hpo.2
          have hlast' : (k : Int) + 1 = (bs.length : Int) := by omega
          clear hpn hpo
          go_wp2_with (first
            | (at_builtin; go_loud (refine wpList_ownI _ rfl (.tmp 12) (.tmp 17) _ rfl w.heap.size 5 .u8 1 elem_byte u4 acc [] rfl HO [255] rfl (by unfold maxLen; simp; omega) (by simp; omega) ?_); intro v1 w1 HO1 hb1 hz1; have h1' := h1; rw [← hb1.cell (by simp; omega)] at h1'))
          go_ret2
          exact ⟨_, ret_two rfl (by rw [He.out]; rfl), by rw [Ho.out]; exact (Owns.nil (hbel.trans hb1).size).fresh _ _, hbel.trans hb1⟩
        · obtain ⟨g2, o2, y, e2, hg2, hy, h2⟩ := hb.int (k := k + 1) (by omega)
          injection e2 with e2
          injection e2 with e3 e4
          subst e3 e4
          have Hy := veil hy; clear hy
          rw [← hbel.cell (by simp; omega)] at h2
          have hne : ¬ ((k : Int) + 1 = (bs.length : Int)) := by omega
          have hlt2 : (k : Int) + 1 < (bs.length : Int) := by omega
          by_cases hy0 : y = 0
          · subst hy0
            go_wp2_with (first
              | (at_builtin; go_loud (refine wpList_ownI _ rfl (.tmp 12) (.tmp 17) _ rfl w.heap.size 5 .u8 1 elem_byte u4 acc [] rfl HO [255] rfl (by unfold maxLen; simp; omega) (by simp; omega) ?_); intro v1 w1 HO1 hb1 hz1; have h1' := h1; have h2' := h2; rw [← hb1.cell (by simp; omega)] at h1' h2'))
            go_roundg (bs.length - (k + 2))
            case rel => exact ⟨k + 2, _, rfl, by omega, by go_num, veil (HI.out.lead Hx.out Hy.out), by simp; omega, HO1, hbel.trans hb1⟩
            case measure => omega
          · have hpn := HI.out.bad Hx.out Hy.out hy0
            have hpo := plain_none hpn
            have Ho := veil hpo.1; have He := veil hpo.2
            have hyb : (y != 0) = true := by simpa using hy0
            clear hpn hpo hy0
            go_wp2_with (first
              | (at_builtin; go_loud (refine wpList_ownI _ rfl (.tmp 12) (.tmp 17) _ rfl w.heap.size 5 .u8 1 elem_byte u4 acc [] rfl HO [255] rfl (by unfold maxLen; simp; omega) (by simp; omega) ?_); intro v1 w1 HO1 hb1 hz1; have h1' := h1; have h2' := h2; rw [← hb1.cell (by simp; omega)] at h1' h2'))
            go_ret2
            exact ⟨_, ret_two rfl (by rw [He.out]; rfl), by rw [Ho.out]; exact (Owns.nil (hbel.trans hb1).size).fresh _ _, hbel.trans hb1⟩
      · have hxb : (x != 255) = true := by simpa using h255
        have hxb' : (x == 255) = false := by simpa using h255
        have H255 := veil h255; clear h255
        go_wp2_with (first
          | (at_builtin; go_loud (refine wpList_ownI _ rfl (.tmp 12) (.tmp 17) _ rfl w.heap.size 5 .u8 1 elem_byte u4 acc [] rfl HO [x] rfl (by unfold maxLen; simp; omega) (by simp; omega) ?_); intro v1 w1 HO1 hb1 hz1; have h1' := h1; rw [← hb1.cell (by simp; omega)] at h1'))
        go_roundg (bs.length - (k + 1))
        case rel => exact ⟨k + 1, _, rfl, by omega, by go_num, veil (HI.out.other Hx.out H255.out), by simp; omega, HO1, hbel.trans hb1⟩
        case measure => omega
    · obtain rfl : k = bs.length := by omega
      have hpo := plain_some HI.out.done
      have Ho := veil hpo.1; have He := veil hpo.2
      clear hpo
      go_wp2
      go_ret2
      exact ⟨_, ret_two rfl (by rw [He.out]; rfl), by rw [Ho.out]; exact HO, hbel⟩
end Go.Proofs.Ytbboakdfnjjddaa

/- strings.Builder once more: what WriteString may change beside. -/
namespace Go.Proofs.Ytbboakdfnjjddaa
open Go.RowKit
set_option linter.unusedVariables false
set_option linter.unusedSimpArgs false
set_option maxRecDepth 100000

/-- append of a text onto a row of the call's own: which block the new slice lies in. -/
theorem run_own_string2 {P : Program} (w : World) (base : Nat) (t u ty e : TypeId) (i : TypeInfo) (ht : P.underlying t = some (.slice e)) (hu : P.underlying u = some .string) (hi : P.info? e = some i) (hz : i.zero = some (.int .u8 0))
    (hsize : i.size = 1) (hby : i.bytes = 1) (v : Value) (n : Nat) (xs : List Value) (hown : w.ownsRow base e 1 v n xs) (s : ByteArray)
    (h63 : n + s.size ≤ maxLen) (hbytes : n + s.size ≤ 140737488355328) (hbase : base ≤ w.heap.size) :
    ∃ v' w', (Builtin.append_ #[t, u] ty #[v, .string s]).run P w = .ok v' w' ∧ w'.ownsRow base e 1 v' (n + s.size) (xs ++ Lib.strCells s) ∧ w.grownBy w' v.ownBlock ∧
      (v' = .slice none 0 0 ↔ v = .slice none 0 0 ∧ s.size = 0) ∧ ∀ g, v'.ownBlock = some g → v.ownBlock = some g ∨ w.heap.size ≤ g := by
  obtain ⟨v', w', hr, h2, h3, h4⟩ := Lib.run_append_own_string (P := P) w base t u ty e i ht hu hi hz hsize hby v n xs hown s h63 hbytes hbase
  refine ⟨v', w', hr, h2, h3, h4, ?_⟩
  have hxl : xs.length = n := by simpa using hown.1
  rcases hown.2 with ⟨hv, hn⟩ | ⟨g, cap, cur, hv, hbg, hg, hnc, hcm, hcs, htake⟩
  · obtain ⟨v2, w2, hr2, h22, _, _⟩ := Lib.run_append_own_string (P := P) w w.heap.size t u ty e i ht hu hi hz hsize hby v n xs ⟨hown.1, .inl ⟨hv, hn⟩⟩ s h63 hbytes (Nat.le_refl _)
    have e1 := hr.symm.trans hr2
    injection e1 with e1 e2
    subst e1
    exact fun g hg => .inr (h22.lt g hg).1
  · subst hv
    by_cases hroom : n + s.size ≤ cap
    · have hcs' : cur.size = cap := by simpa using hcs
      have hr2 := Lib.run_append_room_string (P := P) w t u ty e i ht hu hi hsize g n cap cur hg s hroom (by omega)
      have e1 := hr.symm.trans hr2
      injection e1 with e1 e2
      subst e1
      exact fun q hq => .inl hq
    · have holds : ∀ j u, xs[j]? = some u → w.cell? ((⟨g, 0, none⟩ : Addr).add j) = some u := hown.cells (g := g) rfl
      unfold maxLen at h63
      have hr2 := Lib.run_append_grow_string (P := P) w t u ty e i (.int .u8 0) ht hu hi hz ⟨g, 0, none⟩ n cap xs (by rw [hsize]; simpa using hxl) holds s (by omega) (by omega) (by rw [hby]; exact growslice_fits (by omega) (by omega))
      have e1 := hr.symm.trans hr2
      injection e1 with e1 e2
      subst e1
      exact fun q hq => by simp only [Value.ownBlock, Option.some.injEq] at hq; right; omega
theorem wpList_own_string2 {P : Program} {ops : Array Oper} {rest : List Oper} {o : Oper} {a : Act} {Q : Exit → Act → World → Prop} (w : World) (hgd : o.guard = none) (sl x : Operand) (t u : TypeId)
    (ho : o.op = .call { callee := .builtin .append, args := #[sl, x], argTypes := #[t, u] })
    (base : Nat) (e : TypeId) (i : TypeInfo) (ht : P.underlying t = some (.slice e)) (hu : P.underlying u = some .string) (hi : P.info? e = some i) (hz : i.zero = some (.int .u8 0))
    (hsize : i.size = 1) (hby : i.bytes = 1)
    (v : Value) (n : Nat) (xs : List Value) (hs : a.eval sl = v) (hown : w.ownsRow base e 1 v n xs) (s : ByteArray) (hx : a.eval x = .string s)
    (h63 : n + s.size ≤ maxLen) (hbytes : n + s.size ≤ 140737488355328) (hbase : base ≤ w.heap.size)
    (h : ∀ v' w', w'.ownsRow base e 1 v' (n + s.size) (xs ++ Lib.strCells s) → w.grownBy w' v.ownBlock → (v' = .slice none 0 0 ↔ v = .slice none 0 0 ∧ s.size = 0) → (∀ g, v'.ownBlock = some g → v.ownBlock = some g ∨ w.heap.size ≤ g) → wpList P ops Q rest (a.put o.dst v') w') : wpList P ops Q (o :: rest) a w := by
  refine wpList_plain hgd fun K hK => ?_
  obtain ⟨v', w', hr, h2, h3, h4, h5⟩ := run_own_string2 (P := P) w base t u o.type e i ht hu hi hz hsize hby v n xs hown s h63 hbytes hbase
  unfold Oper.wp execOp
  simp only [ho, resolve, invoke, builtin, Sem.run_bind, Sem.run_pure, Result.andThen_ok, List.map_toArray, List.map_cons, List.map_nil, hs, hx, hr]
  exact hK _ _ (h v' w' h2 h3 h4 h5)

/-- A builder of the call's own, in block b, its bytes' slice named. -/
def BldX (B b : Nat) (v : Value) (l : List Bool) (w : World) : Prop :=
  ∃ p, (p = .pointer none ∨ p = .pointer (some ⟨b, 0, none⟩)) ∧ B ≤ b ∧ w.heap[b]? = some (.cells #[p, v] 77 (0, 0)) ∧
    w.ownsRow B 5 1 v l.length (Lib.strCells (txt l)) ∧ v.ownBlock ≠ some b ∧ (l = [] → v = .slice none 0 0)
/-- The blocks that a builder lies in. -/
def bldF (b : Nat) (v : Value) (q : Nat) : Prop := q = b ∨ v.ownBlock = some q
theorem BldX.bld {B b : Nat} {v : Value} {l : List Bool} {w : World} (h : BldX B b v l w) : Bld B b l w := by
  obtain ⟨p, h⟩ := h
  exact ⟨p, v, h⟩
theorem Bld.x {B b : Nat} {l : List Bool} {w : World} (h : Bld B b l w) : ∃ v, BldX B b v l w := by
  obtain ⟨p, v, h⟩ := h
  exact ⟨v, p, h⟩
theorem BldX.lt {B b : Nat} {v : Value} {l : List Bool} {w : World} (h : BldX B b v l w) {q : Nat} (hq : bldF b v q) : B ≤ q ∧ q < w.heap.size := by
  have hlt := h.bld.lt
  obtain ⟨p, hp, hB, hh, hown, _⟩ := h
  rcases hq with rfl | hq
  · exact ⟨hB, hlt⟩
  · exact hown.lt q hq
theorem BldX.below {B b : Nat} {v : Value} {l : List Bool} {w w' : World} (h : BldX B b v l w) (hb : Below w.heap.size w w') : BldX B b v l w' := by
  have hlt := h.bld.lt
  obtain ⟨p, hp, hB, hh, hown, hne, h0⟩ := h
  exact ⟨p, hp, hB, by rw [hb.block b hlt]; exact hh, own_below hown hb, hne, h0⟩

theorem copyCheckX (B b : Nat) (v : Value) (l : List Bool) (w : World) (h : BldX B b v l w) :
    Calls Try.prog 61 #[.pointer (some ⟨b, 0, none⟩)] w fun e w' => e = .returned (.tuple #[]) ∧
      w'.heap[b]? = some (.cells #[.pointer (some ⟨b, 0, none⟩), v] 77 (0, 0)) ∧ w'.ownsRow B 5 1 v l.length (Lib.strCells (txt l)) ∧ w.grownBy w' (some b) := by
  obtain ⟨p, hp, hB, hh, hown, hne, h0⟩ := h
  have hat : Lib.BuilderAt 77 5 B b p (Lib.strCells (txt l)) w := ⟨hB, v, hh, by rw [Lib.strCells_length, txt_size]; exact hown, hne⟩
  rcases hp with rfl | rfl
  · refine (copyCheck_fresh b w hat.cell0 hat.shape hat.frozen0).mono ?_
    rintro e w' ⟨rfl, rfl⟩
    refine ⟨rfl, ?_, ?_, grown_setCell w b 0 _⟩
    · simp [World.setCell, Array.getElem?_modify, hh]
    · obtain ⟨h1, h2⟩ := hown
      refine ⟨h1, ?_⟩
      rcases h2 with h2 | ⟨g, cap, cur, hv, hg, hh2, r⟩
      · exact .inl h2
      · refine .inr ⟨g, cap, cur, hv, hg, ?_, r⟩
        rw [Below.heap_setCell _ _ _ _ (by rintro rfl; exact hne (by rw [hv]; rfl))]
        exact hh2
  · refine (copyCheck_used b w hat.cell0).mono ?_
    rintro e w' ⟨rfl, rfl⟩
    exact ⟨rfl, hh, hown, World.grownBy.refl _ _⟩

set_option maxHeartbeats 2000000 in
/-- WriteString: beside the builder's own blocks all that was there stands. -/
theorem writeString_x (B b : Nat) (v : Value) (l m : List Bool) (w : World) (h : BldX B b v l w) (hlen : l.length + m.length ≤ 140737488355328) (hBw : B ≤ w.heap.size) :
    Calls Try.prog 35 #[.pointer (some ⟨b, 0, none⟩), .string (txt m)] w fun e w' => e = .returned (.tuple #[.int .i64 (txt m).size, .nilIface]) ∧ ∃ v', BldX B b v' (l ++ m) w' ∧ Only (bldF b v) w w' ∧ ∀ q, bldF b v' q → bldF b v q ∨ w.heap.size ≤ q := by
  obtain ⟨i0, hi, hz0, hz1, hz2⟩ := info_parts info_byte
  obtain ⟨hB, hne, hnil⟩ : B ≤ b ∧ v.ownBlock ≠ some b ∧ (l = [] → v = .slice none 0 0) := by obtain ⟨_, _, h1, _, _, h2, h3⟩ := h; exact ⟨h1, h2, h3⟩
  go_enter Try.func35, Try.ntmps35
  go_wp2_with fail
  refine (copyCheckX B b v l _ h).mono ?_
  rintro e w1 ⟨rfl, hbk, hown, hg1⟩
  have c0 : w1.cell? ⟨b, 0, none⟩ = some (.pointer (some ⟨b, 0, none⟩)) := by rw [Lib.cell_of_heap hbk]; rfl
  have c1 : w1.cell? ⟨b, 1, none⟩ = some v := by rw [Lib.cell_of_heap hbk]; rfl
  go_wp2_with (at_builtin; refine wpList_own_string2 _ rfl _ _ 37 9 rfl B 5 i0 Try.underlying37 Try.underlying9 hi hz0 hz1 hz2 _ _ _ rfl hown (txt m) rfl ?c3 ?c4 ?c5 ?_)
  case c3 => rw [txt_size]; unfold maxLen; omega
  case c4 => rw [txt_size]; omega
  case c5 => have := hg1.size; omega
  intro v' w2 hown' hgrow hn' hblk
  have hlt : b < w1.heap.size := by
    rcases Nat.lt_or_ge b w1.heap.size with h' | h'
    · exact h'
    · simp [Array.getElem?_eq_none h'] at hbk
  have hb2 : w2.heap[b]? = some (.cells #[.pointer (some ⟨b, 0, none⟩), v] 77 (0, 0)) := by
    rw [hgrow.block b hlt (fun e => hne e.symm)]
    exact hbk
  have d0 : w2.cell? ⟨b, 0, none⟩ = some (.pointer (some ⟨b, 0, none⟩)) := by rw [Lib.cell_of_heap hb2]; rfl
  have d1 : w2.cell? ⟨b, 1, none⟩ = some v := by rw [Lib.cell_of_heap hb2]; rfl
  have f1 : w2.frozen? ⟨b, 1, none⟩ = false := Lib.frozen_of_heap hb2 1
  rw [strCells_append, txt_size, ← List.length_append] at hown'
  have hnil' : l ++ m = [] → v' = .slice none 0 0 := by
    intro e
    obtain ⟨e1, e2⟩ := List.append_eq_nil_iff.1 e
    exact hn'.2 ⟨hnil e1, by rw [e2]; rfl⟩
  have hne' := Lib.ownBlock_ne hown' hb2 (by decide)
  have Hnil := veil hnil'; have Hne := veil hne'
  clear hnil' hne' hnil hn' hne
  have hfin : BldX B b v' (l ++ m) (w2.setCell ⟨b, 1, none⟩ v') := by
    refine ⟨_, .inr rfl, hB, ?_, ?_, Hne.out, Hnil.out⟩
    · simp [World.setCell, Array.getElem?_modify, hb2]
    · obtain ⟨h1, h2⟩ := hown'
      refine ⟨h1, ?_⟩
      rcases h2 with h2 | ⟨g, cap, cur, hv, hg, hh2, r⟩
      · exact .inl h2
      · refine .inr ⟨g, cap, cur, hv, hg, ?_, r⟩
        rw [Below.heap_setCell _ _ _ _ (by rintro rfl; exact Hne.out (by rw [hv]; rfl))]
        exact hh2
  have hon : Only (bldF b v) w (w2.setCell ⟨b, 1, none⟩ v') :=
    ((Only.of_grown hg1 (fun g hg => .inl (.inl (by injection hg with hg; exact hg.symm)))).trans (Only.of_grown (F := bldF b v) hgrow (fun g hg => .inl (.inr hg))) (fun q hq => .inl hq)).trans (Only.of_grown (F := bldF b v) (grown_setCell w2 b 1 v') (fun g hg => .inl (.inl (by injection hg with hg; exact hg.symm)))) (fun q hq => .inl hq)
  have hsub : ∀ q, bldF b v' q → bldF b v q ∨ w.heap.size ≤ q := fun q hq => by
    rcases hq with hq | hq
    · exact .inl (.inl hq)
    · rcases hblk q hq with h9 | h9
      · exact .inl (.inr h9)
      · right; have := hg1.size; omega
  obtain ⟨ao, n', cap, rfl⟩ : ∃ ao n' cap, v' = .slice ao n' cap := by
    rcases hown'.2 with ⟨hv, _⟩ | ⟨g, cap, cur, hv, _⟩
    · exact ⟨_, _, _, hv⟩
    · exact ⟨_, _, _, hv⟩
  go_wp2
  go_ret2
  exact ⟨rfl, _, hfin, hon, hsub⟩
end Go.Proofs.Ytbboakdfnjjddaa
