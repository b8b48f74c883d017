/- Texts shared by the claims of this seat, in one. -/
import Derived.Test.YtddkhkpdbjjboaaGreatBd9
import Derived.Test.YtddkhkpdbjjboaaGreatBd4
import Derived.Laws.MakeOwn
import Derived.Test.YtddkhkpdbjjboaaGreatBd5
import Derived.BigQuiet
import Derived.Test.YtddkhkpdbjjboaaGreatBd2
import Derived.Test.YtddkhkpdbjjboaaGreatBd1
import Derived.Test.YtddkhkpdbjjboaaGreatRows
/- seg.Encode: its contract. -/
namespace Go.Proofs.YtddkhkpdbjjboaaGreat
open Go.RowKit
set_option linter.unusedVariables false
set_option linter.unusedSimpArgs false
set_option maxRecDepth 100000

theorem enc_taker (fw rw_ : List (Int × Nat × Nat)) (n1 s1 n2 s2 b1 b2 f r m g B G : Nat) (hp1 : PF fw) (hp2 : PF rw_) (hf : f < g) (hr : r < g) (hb1 : b1 < g) (hb2 : b2 < g) (hgm : g < m) (hmB : m < B) (hG : G ≤ g) :
    Taker 43 #[.pointer (some ⟨r, 0, none⟩), .pointer (some ⟨f, 0, none⟩), .pointer (some ⟨m, 0, none⟩), .pointer (some ⟨g, 0, none⟩)] G (encI fw rw_ n1 s1 n2 s2 b1 b2 f r m g B) where
  enters := Enters.of Tryz.func43 (by kernel_rfl) (by kernel_rfl)
  foot h q hq := by
    obtain ⟨D, P, vd, vp, hW, _, _, _, _, hm, _, _, rfl⟩ := h
    rcases hq with rfl | hq
    · exact ⟨hm.lt, by omega⟩
    · have := hW.foot hq; exact ⟨this.1, by omega⟩
  keep h hb := by
    obtain ⟨D, P, vd, vp, hW, hM1, hM2, hf0, hr0, hm, h1, h2, rfl⟩ := h
    exact ⟨D, P, vd, vp, hW.below hb, hM1.below hb hM1.lt, hM2.below hb hM2.lt, hf0.below hb hf0.lt, hr0.below hb hr0.lt, hm.below hb hm.lt, h1, h2, rfl⟩
  take first t h ha hg := by
    cases first with
    | true => exact enc_true fw rw_ n1 s1 n2 s2 b1 b2 f r m g B hp1 t _ _ _ h ha hg hf hr hb1 hb2 hgm hmB
    | false => exact enc_false fw rw_ n1 s1 n2 s2 b1 b2 f r m g B hp2 t _ _ _ h ha hg hf hr hb1 hb2 hgm hmB
theorem words_pf2 {cs syms : List Int} (hcs : cs.length = 16) (h : checkErr cs syms = 0) : PF (outWords cs syms) := by
  obtain ⟨l, hf, how, hll⟩ := fine_of h
  rw [how]
  exact hf.pf hcs
/-- What Encode makes. -/
def SegOut (cs syms cs2 syms2 : List Int) (L : List (List Int)) (out : List Int) : Prop :=
  (eEnc cs syms cs2 syms2 L ≠ 0 → out = []) ∧ (eEnc cs syms cs2 syms2 L = 0 → ∃ raw, out = stuffB raw ∧ Bytes raw ∧ ∃ p, p < 8 ∧ unpack raw = segBits (outWords cs syms) (outWords cs2 syms2) (toksB 0 L) ++ List.replicate p true)
section
variable {cs syms cs2 syms2 : List Int} {L : List (List Int)}
theorem eEnc_one (h : checkErr cs syms ≠ 0) : eEnc cs syms cs2 syms2 L = checkErr cs syms := if_pos h
theorem eEnc_two (h : checkErr cs syms = 0) (h2 : checkErr cs2 syms2 ≠ 0) : eEnc cs syms cs2 syms2 L = checkErr cs2 syms2 := by unfold eEnc; rw [if_neg (by rw [h]; decide), if_pos h2]
theorem eEnc_blk (h : checkErr cs syms = 0) (h2 : checkErr cs2 syms2 = 0) (h3 : eL L ≠ 0) : eEnc cs syms cs2 syms2 L = eL L := by unfold eEnc; rw [if_neg (by rw [h]; decide), if_neg (by rw [h2]; decide), if_pos h3]
theorem eEnc_end (h : checkErr cs syms = 0) (h2 : checkErr cs2 syms2 = 0) (h3 : eL L = 0) : eEnc cs syms cs2 syms2 L = if AllW (outWords cs syms) (outWords cs2 syms2) (toksB 0 L) then 0 else 5 := by unfold eEnc; rw [if_neg (by rw [h]; decide), if_neg (by rw [h2]; decide), if_neg (by rw [h3]; decide)]
end
set_option maxRecDepth 100000 in
set_option maxHeartbeats 8000000 in
theorem segEncode_any (cs syms : List Int) (A : Option Addr) (c : Nat) (cs2 syms2 : List Int) (A2 : Option Addr) (c2 G : Nat) (L : List (List Int)) (A3 : Option Addr) (c3 : Nat) (w : World)
    (hcs : cs.length = 16) (hn : syms.length ≤ maxLen) (hb : ∀ x ∈ cs, -9223372036854775808 ≤ x ∧ x ≤ 9223372036854775807) (hs : Seen w G A (ints .i64 syms))
    (hcs2 : cs2.length = 16) (hn2 : syms2.length ≤ maxLen) (hb2 : ∀ x ∈ cs2, -9223372036854775808 ≤ x ∧ x ≤ 9223372036854775807) (hs2 : Seen w G A2 (ints .i64 syms2))
    (hl : ∀ r ∈ L, r.length = 64) (hm : L.length ≤ maxLen) (hs3 : Seen w G A3 (rowsC L)) (hG : G ≤ w.heap.size) :
    Calls Tryz.prog 22 #[tabsV cs A syms.length c cs2 A2 syms2.length c2, .slice A3 L.length c3] w fun e w' => ∃ v out, e = .returned (.tuple #[v, .int .i64 (eEnc cs syms cs2 syms2 L)]) ∧ Owns w.heap.size [byteRow v out] w' ∧ SegOut cs syms cs2 syms2 L out ∧ Below w.heap.size w w' := by
  have h17 : (tabCells cs A syms.length c).length = 17 := tabCells_length hcs
  have h17b : (tabCells cs2 A2 syms2.length c2).length = 17 := tabCells_length hcs2
  have HC1 := veil (fun W h hG => codewords_any cs syms A c G W hcs hn hb h hG)
  have HC2 := veil (fun W h hG => codewords_any cs2 syms2 A2 c2 G W hcs2 hn2 hb2 h hG)
  have hb0 := below1 w (.cells (tabsCells cs A syms.length c cs2 A2 syms2.length c2).toArray 27)
  have hz0 : (w.alloc (.cells (tabsCells cs A syms.length c cs2 A2 syms2.length c2).toArray 27)).heap.size = w.heap.size + 1 := by simp
  have hr := range_new w (tabsCells cs A syms.length c cs2 A2 syms2.length c2) 27
  have hr1 := range_left hr
  have hr2 := range_right hr
  rw [h17] at hr2
  have Hcs := veil hcs
  have Hcs2 := veil hcs2
  obtain ⟨E, hE⟩ : ∃ E, E = eEnc cs syms cs2 syms2 L := ⟨_, rfl⟩
  rw [← hE]
  have HSo : Hid (E ≠ 0 → SegOut cs syms cs2 syms2 L []) := fun h => ⟨fun _ => rfl, fun h2 => absurd h2 (by rw [← hE]; exact h)⟩
  have HE := veil hE
  have H17 := veil h17
  have H17b := veil h17b
  clear hr h17 h17b hcs hcs2 hb hb2 hE
  unfold tabsV
  unfold tabV at HC1 HC2
  generalize tabsCells cs A syms.length c cs2 A2 syms2.length c2 = zs at *
  generalize tabCells cs A syms.length c = xs at *
  generalize tabCells cs2 A2 syms2.length c2 = ys at *
  go_enter Tryz.func22, Tryz.ntmps22
  go_wp2_with (first
    | (refine wpList_load_mid rfl 25 (.tmp 12) rfl w.heap.size 0 rfl xs _ hr1 Tryz.underlying25 rfl (by rw [H17.out]; exact info_tab) ?_)
    | fail)
  refine (HC1.out _ (hs.below hb0 hG) (by rw [hz0]; omega)).mono ?_
  rintro e w1 ⟨v1, rfl, hok1, hbad1, hb1⟩
  have hr2' := range_below hr2 hb1 (by rw [hz0]; omega)
  have hbw := hb0.trans (hb1.mono (by rw [hz0]; omega))
  have hz1 := hb1.size
  rw [hz0] at hz1
  clear hr1 hr2 hb0 HC1
  by_cases h0 : checkErr cs syms = 0
  · obtain ⟨b1, rfl, hb1l, HM1⟩ := hok1 h0
    rw [h0]
    rw [hz0] at hb1l
    have H0 := veil h0
    have HM1 := veil HM1
    have hb1z := HM1.out.lt
    clear hok1 hbad1 h0 hb1
    have hba := below1 w1 (.cells #[.map (some b1)] 82)
    have hfv : Blk (w1.alloc (.cells #[.map (some b1)] 82)) w1.heap.size [.map (some b1)] 82 := Blk.new w1 [.map (some b1)] 82
    have hza : (w1.alloc (.cells #[.map (some b1)] 82)).heap.size = w1.heap.size + 1 := by simp
    have hr3 := range_below hr2' hba (by omega)
    have hbwa := hbw.trans (hba.mono hbw.size)
    have HM1a := HM1.out.below hba hb1z
    go_wp2_with (first
      | (refine wpList_load_mid rfl 25 (.tmp 21) rfl w.heap.size 17 rfl ys _ (by simpa using hr3) Tryz.underlying25 rfl (by rw [H17b.out]; exact info_tab) ?_)
      | fail)
    refine (HC2.out _ (hs2.below hbwa hG) (by omega)).mono ?_
    rintro e w2 ⟨v2, rfl, hok2, hbad2, hb2⟩
    have hbw2 := hbwa.trans (hb2.mono hbwa.size)
    have hz2 := hb2.size
    rw [hza] at hz2
    have HM12 := HM1a.below hb2 (by omega)
    have hfv2 := hfv.below hb2 (by omega)
    clear hr2' hr3 HC2 HM1 hba hfv hbwa HM1a
    by_cases h0b : checkErr cs2 syms2 = 0
    · obtain ⟨b2, rfl, hb2l, HM2⟩ := hok2 h0b
      rw [h0b]
      rw [hza] at hb2l
      have hb2z := HM2.lt
      have H0b := veil h0b
      have HM1 := veil HM12
      have HM2 := veil HM2
      have hfv2 := veil hfv2
      clear hok2 hbad2 h0b HM12 hb2
      obtain ⟨fw, hfw⟩ : ∃ fw, fw = outWords cs syms := ⟨_, rfl⟩
      obtain ⟨rw_, hrw⟩ : ∃ rw_, rw_ = outWords cs2 syms2 := ⟨_, rfl⟩
      have hpf1 : PF fw := by rw [hfw]; exact words_pf2 Hcs.out H0.out
      have hpf2 : PF rw_ := by rw [hrw]; exact words_pf2 Hcs2.out H0b.out
      rw [← hfw] at HM1
      rw [← hrw] at HM2
      have hb3 := below1 w2 (.cells #[.map (some b2)] 82)
      have hb4 := below1 (w2.alloc (.cells #[.map (some b2)] 82)) (.cells #[.slice none 0 0, .slice none 0 0, .int .i64 0] 87)
      have hb5 := below1 ((w2.alloc (.cells #[.map (some b2)] 82)).alloc (.cells #[.slice none 0 0, .slice none 0 0, .int .i64 0] 87)) (.cells #[.bool false] 4)
      obtain ⟨w5, hw5⟩ : ∃ w5, w5 = ((w2.alloc (.cells #[.map (some b2)] 82)).alloc (.cells #[.slice none 0 0, .slice none 0 0, .int .i64 0] 87)).alloc (.cells #[.bool false] 4) := ⟨_, rfl⟩
      have hz3 : (w2.alloc (.cells #[.map (some b2)] 82)).heap.size = w2.heap.size + 1 := by simp
      have hz4 : ((w2.alloc (.cells #[.map (some b2)] 82)).alloc (.cells #[.slice none 0 0, .slice none 0 0, .int .i64 0] 87)).heap.size = w2.heap.size + 2 := by simp
      have hr5 : Blk w5 w2.heap.size [.map (some b2)] 82 := by rw [hw5]; exact ((Blk.new w2 [.map (some b2)] 82).below hb4 (by omega)).below hb5 (by omega)
      have hg5 : Blk w5 (w2.heap.size + 1) [.slice none 0 0, .slice none 0 0, .int .i64 0] 87 := by
        have h9 := Blk.new (w2.alloc (.cells #[.map (some b2)] 82)) [.slice none 0 0, .slice none 0 0, .int .i64 0] 87
        rw [hz3] at h9
        rw [hw5]; exact h9.below hb5 (by omega)
      have hm5 : Blk w5 (w2.heap.size + 2) [.bool false] 4 := by
        have h9 := Blk.new ((w2.alloc (.cells #[.map (some b2)] 82)).alloc (.cells #[.slice none 0 0, .slice none 0 0, .int .i64 0] 87)) [.bool false] 4
        rw [hz4] at h9
        rw [hw5]; exact h9
      have hz5 : w5.heap.size = w2.heap.size + 3 := by rw [hw5]; simp
      have hb25 : Below w2.heap.size w2 w5 := by rw [hw5]; exact (hb3.trans (hb4.mono (by omega))).trans (hb5.mono (by omega))
      have hbw5 := hbw2.trans (hb25.mono hbw2.size)
      have hI : encI fw rw_ syms.length (symS fw) syms2.length (symS rw_) b1 b2 w1.heap.size w2.heap.size (w2.heap.size + 2) (w2.heap.size + 1) (w2.heap.size + 3) w5 (fun q => q = w2.heap.size + 2 ∨ wrF (w2.heap.size + 1) (.slice none 0 0) (.slice none 0 0) q) [] :=
        ⟨[], [], .slice none 0 0, .slice none 0 0, ⟨hg5, ((Owns.nil (by omega)).fresh 89 2).fresh 5 1, by omega, by intro x hx; simp at hx, by simp, by simp⟩, HM1.out.below hb25 (by omega), HM2.out.below hb25 hb2z, hfv2.out.below hb25 (by omega), hr5, by
          rw [show (!decide (AllW fw rw_ [])) = false by rw [decide_eq_true (show AllW fw rw_ [] from fun x hx => by simp at hx)]; rfl]; exact hm5, fun _ => by simp [segBits, fieldBits, unpack], by simp [fieldBits, unpack], rfl⟩
      have hTk := enc_taker fw rw_ syms.length (symS fw) syms2.length (symS rw_) b1 b2 w1.heap.size w2.heap.size (w2.heap.size + 2) (w2.heap.size + 1) (w2.heap.size + 3) w.heap.size hpf1 hpf2 (by omega) (by omega) (by omega) (by omega) (by omega) (by omega) (by omega)
      have HEa := veil (eachToken_any _ _ w.heap.size _ hTk _ L A3 c3 w5 hl hm (fun _ => (hs3.below hbw5 hG).up hG) (by omega) hI)
      have hEe : Hid (eL L ≠ 0 → E = eL L) := fun h => HE.out.trans (eEnc_blk H0.out H0b.out h)
      have hEo : Hid (eL L = 0 → E = if AllW fw rw_ (toksB 0 L) then 0 else 5) := fun h => by have := HE.out.trans (eEnc_end H0.out H0b.out h); rw [hfw, hrw]; exact this
      have hSo : Hid (∀ raw, E = 0 → Bytes raw → (∃ p, p < 8 ∧ unpack raw = segBits fw rw_ (toksB 0 L) ++ List.replicate p true) → SegOut cs syms cs2 syms2 L (stuffB raw)) := fun raw h0 h1 h2 => ⟨fun h => absurd (HE.out.symm.trans h0) h, fun _ => ⟨raw, rfl, h1, by rw [← hfw, ← hrw]; exact h2⟩⟩
      have Hhw : Hid (w.heap.size ≤ w2.heap.size) := hbw2.size
      have Hw5 := veil hw5
      have Hbw5 := veil hbw5
      have Hz5 := veil hz5
      clear hb3 hb4 hb5 hz3 hz4 hr5 hg5 hm5 hz5 hb25 hbw5 hI hTk hfw hrw hpf1 hpf2 HM1 HM2 hfv2 hs hs2 hs3 hw5
      go_upto_region 9 with fail
      rw [← Hw5.out]
      go_wp2_with fail
      refine HEa.out.mono ?_
      rintro e w6 ⟨rfl, F, acc, ⟨D, P, vd, vp, hW, _, _, _, _, hm6, hbits, hlen, rfl⟩, hOn, _, hacc⟩
      have hz6 := hOn.size
      have hbw6 : Below w.heap.size w w6 := Hbw5.out.trans (hOn.below (by have := Hz5.out; have := Hhw.out; omega) (fun q hq => by
        have := Hhw.out
        rcases hq with rfl | rfl | h | h
        · omega
        · omega
        · cases h
        · cases h))
      by_cases hE0 : eL L = 0
      · rw [hE0]
        have hac := hacc hE0
        subst hac
        have hE5 := hEo.out hE0
        have hlL : L.length ≤ 400 := (eL_zero hE0).1
        have htl0 := toksB_len L 0
        have htl : (toksB 0 L).length ≤ 25600 := by omega
        clear htl0
        have hDl : D.length ≤ 1000000 := by rw [List.length_append, unpack_length] at hlen; omega
        have cm := hm6.cell (i := 0) (v := .bool (!decide (AllW fw rw_ (toksB 0 L)))) rfl
        by_cases hAW : AllW fw rw_ (toksB 0 L)
        · rw [if_pos hAW] at hE5
          rw [decide_eq_true hAW] at cm
          have HBy := veil (bytes_any (w2.heap.size + 3) (w2.heap.size + 1) D P vd vp w6 hW hDl)
          have hb6 := hbits hAW
          have Hb6 := veil hb6
          have Hbw6 := veil hbw6
          have HE5 := veil hE5
          have hlen6 := hlen
          rw [hb6] at hlen6
          have Hlen6 := veil hlen6
          clear hOn hW hm6 hbits hlen hacc hE0 hAW hb6 hbw6 hE5 hlen6 hlL hDl
          go_wp2_with fail
          refine HBy.out.mono ?_
          rintro e w7 ⟨v7, raw, rfl, hO7, ⟨hby7, p, hp, hun⟩, hb7⟩
          have hz7 := hb7.size
          have hrl := congrArg List.length hun
          rw [Hb6.out, unpack_length, List.length_append, List.length_replicate] at hrl
          obtain ⟨A7, c7, hv7, hs7, _, _⟩ := hO7.seen (List.mem_cons_self ..)
          simp only [byteRow, intRow] at hv7 hs7
          subst hv7
          have hsl := stuffB_length_le raw
          have HSt := veil (stuff_any A7 c7 w7.heap.size raw w7 hs7 (Nat.le_refl _) (by have := Hlen6.out; omega))
          have hSO := hSo.out raw HE5.out hby7 ⟨p, hp, by rw [hun, Hb6.out]⟩
          have HSO := veil hSO
          have hbw7 := Hbw6.out.trans (hb7.mono (by have := Hhw.out; omega))
          have Hbw7 := veil hbw7
          clear hO7 hby7 hun hb7 hrl hs7 hsl hSO hbw7 HBy
          go_wp2_with fail
          refine HSt.out.mono ?_
          rintro e w8 ⟨v8, rfl, hO8, hb8⟩
          have hf8 := Hbw7.out.trans (hb8.mono Hbw7.out.size)
          have hO9 := hO8.down Hbw7.out.size
          clear hO8 hb8 HSt
          go_wp2_with fail
          go_ret2
          exact ⟨v8, stuffB raw, ret_two rfl (by rw [HE5.out]; rfl), hO9, HSO.out, hf8⟩
        · rw [if_neg hAW] at hE5
          rw [decide_eq_false hAW] at cm
          have hS := HSo.out (by rw [hE5]; decide)
          have HS := veil hS
          have HE5 := veil hE5
          clear hOn hW hm6 hbits hlen hacc hE0 hAW hE5 hS hlL hDl
          go_wp2_with fail
          go_ret2
          exact ⟨_, [], ret_two rfl (by rw [HE5.out]; rfl), (Owns.nil hbw6.size).fresh _ _, HS.out, hbw6⟩
      · have hE5 := hEe.out hE0
        have hS := HSo.out (by rw [hE5]; exact hE0)
        have hne : (eL L != 0) = true := by simpa using hE0
        have HS := veil hS
        have HE5 := veil hE5
        obtain ⟨er, her⟩ : ∃ er, er = eL L := ⟨_, rfl⟩
        rw [← her] at hne HE5 ⊢
        clear hOn hW hm6 hbits hlen hacc hE0 hE5 hS her
        go_wp2_with fail
        go_ret2
        exact ⟨_, [], ret_two rfl (by rw [HE5.out]; rfl), (Owns.nil hbw6.size).fresh _ _, HS.out, hbw6⟩
    · have hE1 := HE.out.trans (eEnc_two (L := L) H0.out h0b)
      have hS := HSo.out (by rw [hE1]; exact h0b)
      have HS := veil hS
      have HE1 := veil hE1
      have hne : (checkErr cs2 syms2 != 0) = true := by simpa using h0b
      obtain ⟨er, her⟩ : ∃ er, er = checkErr cs2 syms2 := ⟨_, rfl⟩
      have hbx := hbw2.trans ((below1 w2 (.cells #[.map none] 82)).mono hbw2.size)
      obtain rfl := hbad2 h0b
      rw [← her] at hne HE1 ⊢
      clear hE1 hS h0b her hok2
      go_wp2
      go_ret2
      exact ⟨_, [], ret_two rfl (by rw [HE1.out]; rfl), (Owns.nil hbx.size).fresh _ _, HS.out, hbx⟩
  · have hE1 := HE.out.trans (eEnc_one (cs2 := cs2) (syms2 := syms2) (L := L) h0)
    have hS := HSo.out (by rw [hE1]; exact h0)
    have HS := veil hS
    have HE1 := veil hE1
    have hne : (checkErr cs syms != 0) = true := by simpa using h0
    obtain ⟨er, her⟩ : ∃ er, er = checkErr cs syms := ⟨_, rfl⟩
    have hbx := hbw.trans ((below1 w1 (.cells #[.map none] 82)).mono hbw.size)
    obtain rfl := hbad1 h0
    rw [← her] at hne HE1 ⊢
    clear hE1 hS h0 her hok1
    go_wp2
    go_ret2
    exact ⟨_, [], ret_two rfl (by rw [HE1.out]; rfl), (Owns.nil hbx.size).fresh _ _, HS.out, hbx⟩
end Go.Proofs.YtddkhkpdbjjboaaGreat

/- bits.Read: its contract. -/
namespace Go.Proofs.YtddkhkpdbjjboaaGreat
open Go.RowKit
set_option linter.unusedVariables false
set_option linter.unusedSimpArgs false
set_option maxRecDepth 100000

theorem info_int : (Tryz.prog.info? 3).map (fun i => (i.zero, i.size, i.bytes)) = some (some (.int .i64 0), 1, 8) := by kernel_rfl
theorem run_make_ints (n : Nat) (h : n ≤ 1099511627776) (u : World) : (Instr.makeSlice 23 (.int .i64 0) (.int .i64 (n : Int))).run Tryz.prog u =
    .ok (.slice (some ⟨u.heap.size, 0, none⟩) 0 n) (u.alloc (.cells (madeCells #[.int .i64 0] n) 3)) := by
  obtain ⟨i0, hi, hz0, hz1, hz2⟩ := info_parts info_int
  have h := run_make (P := Tryz.prog) u 23 3 i0 (.int .i64 0) Tryz.underlying23 hi hz0 .i64 .i64 0 n (by omega) (by omega) (by rw [hz2]; omega) (by omega)
  simpa [hz1, Value.cells] using h

/-- What Read answers of widths, so many bits left. -/
def readE (n : Int) : Int → List Int → Int
  | _, [] => 0
  | at_, x :: ws => if okW x = true then (if n - at_ < x then 3 else readE n (at_ + x) ws) else 1
def readErr (bs ws : List Int) : Int := if 20000 < ws.length then 2 else readE (8 * bs.length) 0 ws
def readOut (bs ws : List Int) : List Int := if readErr bs ws = 0 then readB (unpack bs) ws else []
def readSum (bs ws : List Int) : Int := if readErr bs ws = 0 then sumW ws else 0

theorem sumW_snoc (ws : List Int) (x : Int) : sumW (ws ++ [x]) = sumW ws + x := by
  induction ws with
  | nil => simp [sumW]
  | cons y ws ih => simp only [sumW, List.cons_append, List.foldr_cons] at ih ⊢; omega
theorem sumW_nonneg (ws : List Int) (h : ∀ x ∈ ws, 0 ≤ x) : 0 ≤ sumW ws := by
  induction ws with
  | nil => simp [sumW]
  | cons y ws ih =>
    have h1 := h y (by simp)
    have h2 := ih fun x hx => h x (by simp [hx])
    simp only [sumW, List.foldr_cons] at h2 ⊢; omega
theorem readB_snoc (bits : List Bool) (ws : List Int) (x : Int) (h : ∀ y ∈ ws, 0 ≤ y) : readB bits (ws ++ [x]) = readB bits ws ++ [(valB ((bits.drop (sumW ws).toNat).take x.toNat) : Int)] := by
  induction ws generalizing bits with
  | nil => simp [readB, sumW]
  | cons y ws ih =>
    have h1 := h y (by simp)
    have h2 := sumW_nonneg ws fun z hz => h z (by simp [hz])
    rw [List.cons_append, readB, ih _ (fun z hz => h z (by simp [hz])), readB, List.cons_append]
    have e : (sumW (y :: ws)).toNat = y.toNat + (sumW ws).toNat := by
      simp only [sumW, List.foldr_cons] at h2 ⊢; omega
    rw [List.drop_drop, e]

structure RInv (w : World) (bs ws : List Int) (k : Nat) (v : Value) (at_ : Nat) (wr : World) : Prop where
  sum : sumW (ws.take k) = at_
  at_le : at_ ≤ 8 * bs.length
  pos : ∀ x ∈ ws.take k, 0 ≤ x
  err : readE (8 * bs.length) 0 ws = readE (8 * bs.length) at_ (ws.drop k)
  own : wr.ownsRow w.heap.size 3 1 v (readB (unpack bs) (ws.take k)).length (ints .i64 (readB (unpack bs) (ws.take k)))
  bel : Below w.heap.size w wr

theorem readB_length (b : List Bool) (ws : List Int) : (readB b ws).length = ws.length := by
  induction ws generalizing b with
  | nil => rfl
  | cons y ws ih => simp [readB, ih]

theorem readOut_err {bs ws : List Int} (h : readErr bs ws ≠ 0) : readOut bs ws = [] := by unfold readOut; rw [if_neg h]
theorem readSum_err {bs ws : List Int} (h : readErr bs ws ≠ 0) : readSum bs ws = 0 := by unfold readSum; rw [if_neg h]
theorem readOut_ok {bs ws : List Int} (h : readErr bs ws = 0) : readOut bs ws = readB (unpack bs) ws := by unfold readOut; rw [if_pos h]
theorem readSum_ok {bs ws : List Int} (h : readErr bs ws = 0) : readSum bs ws = sumW ws := by unfold readSum; rw [if_pos h]
theorem drop_at {ws : List Int} {k : Nat} {x : Int} (h : ws[k]? = some x) : ws.drop k = x :: ws.drop (k + 1) := by
  obtain ⟨hk, rfl⟩ := List.getElem?_eq_some_iff.1 h
  exact List.drop_eq_getElem_cons hk
section
variable {w wr : World} {bs ws : List Int} {k at_ : Nat} {v : Value}
theorem RInv.stop_arg (h : RInv w bs ws k v at_ wr) {x : Int} (hx : ws[k]? = some x) (hok : okW x = false) (hbig : ¬ 20000 < ws.length) : readErr bs ws = 1 := by
  unfold readErr; rw [if_neg hbig, h.err, drop_at hx, readE, if_neg (by rw [hok]; decide)]
theorem RInv.stop_short (h : RInv w bs ws k v at_ wr) {x : Int} (hx : ws[k]? = some x) (hok : okW x = true) (hs : 8 * (bs.length : Int) - at_ < x) (hbig : ¬ 20000 < ws.length) : readErr bs ws = 3 := by
  unfold readErr; rw [if_neg hbig, h.err, drop_at hx, readE, if_pos hok, if_pos hs]
theorem RInv.done (h : RInv w bs ws ws.length v at_ wr) (hbig : ¬ 20000 < ws.length) : readErr bs ws = 0 := by
  unfold readErr; rw [if_neg hbig, h.err, List.drop_length]; rfl
theorem RInv.step (h : RInv w bs ws k v at_ wr) {X : Nat} (hx : ws[k]? = some (X : Int)) (hok : okW (X : Int) = true) (hs : ¬ 8 * (bs.length : Int) - at_ < X) {v' : Value} {w' : World}
    (hown : w'.ownsRow w.heap.size 3 1 v' (readB (unpack bs) (ws.take k) ++ [(valB (cutB bs at_ X) : Int)]).length (ints .i64 (readB (unpack bs) (ws.take k) ++ [(valB (cutB bs at_ X) : Int)]))) (hb : Below w.heap.size wr w') :
    RInv w bs ws (k + 1) v' (at_ + X) w' := by
  have ht := take_snoc hx
  refine ⟨?_, by omega, ?_, ?_, ?_, h.bel.trans hb⟩
  · rw [ht, sumW_snoc, h.sum]; simp
  · intro y hy
    rw [ht] at hy
    rcases List.mem_append.1 hy with hy | hy
    · exact h.pos y hy
    · simp at hy; omega
  · rw [h.err, drop_at hx, readE, if_pos hok, if_neg hs]; simp
  · rw [ht, readB_snoc _ _ _ h.pos, h.sum, Int.toNat_natCast, Int.toNat_natCast]
    exact hown
end

set_option maxHeartbeats 1000000 in
theorem read_any (A A2 : Option Addr) (c c2 G : Nat) (bs ws : List Int) (w : World) (hb : Seen w G A (ints .u8 bs)) (hby : Bytes bs) (hws : Seen w G A2 (ints .i64 ws)) (hG : G ≤ w.heap.size) (hl : bs.length ≤ 1152921504606846975) (hlw : ws.length ≤ maxLen) (hw64 : ∀ x ∈ ws, -9223372036854775808 ≤ x ∧ x ≤ 9223372036854775807) :
    Calls Tryz.prog 75 #[.slice A bs.length c, .slice A2 ws.length c2] w fun e w' => ∃ v, e = .returned (.tuple #[v, .int .i64 (readSum bs ws), .int .i64 (readErr bs ws)]) ∧ w'.ownsRow w.heap.size 3 1 v (readOut bs ws).length (ints .i64 (readOut bs ws)) ∧ Below w.heap.size w w' := by
  unfold maxLen at hlw
  by_cases hbig : 20000 < ws.length
  · have hbig' : (20000 : Int) < (ws.length : Int) := by omega
    have He : Hid (readErr bs ws = 2) := by show readErr bs ws = 2; unfold readErr; rw [if_pos hbig]
    have Ho : Hid (readOut bs ws = []) := by show readOut bs ws = []; unfold readOut; rw [He.out]; rfl
    have Hs : Hid (readSum bs ws = 0) := by show readSum bs ws = 0; unfold readSum; rw [He.out]; rfl
    go_enter Tryz.func75, Tryz.ntmps75
    go_wp2
    go_ret3
    exact ⟨_, ret_three rfl (by rw [Hs.out]; rfl) (by rw [He.out]; rfl), by rw [Ho.out]; exact World.ownsRow_nil _ _ _ _, Below.refl _ _⟩
  · have hbig' : ¬ (20000 : Int) < (ws.length : Int) := by omega
    have hmk := run_make_ints ws.length (by omega)
    go_enter Tryz.func75, Tryz.ntmps75
    go_wp2_with fail
    clear hmk
    go_loopg [7, 8, 10, 19] ws.length (fun gk v av x i wr => ∃ (k at_ : Nat), gk = ws.length - k ∧ k ≤ ws.length ∧ i = .int .i64 k ∧ av = .int .i64 at_ ∧ RInv w bs ws k v at_ wr)
    case atStart =>
      refine ⟨0, 0, rfl, Nat.zero_le _, rfl, rfl, rfl, by omega, by simp, rfl, ?_, below1 _ _⟩
      exact World.ownsRow_made _ _ _ (Nat.le_refl _) (by unfold maxLen; omega) (by rw [size_madeCells, Nat.mul_one])
    case round =>
      obtain ⟨k, at_, rfl, hk, rfl, rfl, hI⟩ := hrel
      have hat := hI.at_le
      by_cases hlt : k < ws.length
      · obtain ⟨g, o, x, rfl, hg, hx, h1⟩ := hws.int hlt
        have hx64 := hw64 x (List.mem_of_getElem? hx)
        have Hx := veil hx; clear hx
        rw [← hI.bel.cell (by simp; omega)] at h1
        by_cases hok : okW x = true
        · by_cases hsh : 8 * (bs.length : Int) - at_ < x
          · have He := hI.stop_short Hx.out hok hsh hbig
            have Ho := readOut_err (by rw [He]; decide)
            have Hs := readSum_err (by rw [He]; decide)
            have He := veil He; have Ho := veil Ho; have Hs := veil Hs
            go_wp2_with (go_at_call 92; refine (isWidth_any _ _).mono ?_; rintro e w1 ⟨rfl, rfl⟩)
            go_ret3
            exact ⟨_, ret_three rfl (by rw [Hs.out]; rfl) (by rw [He.out]; rfl), by rw [Ho.out]; exact World.ownsRow_nil _ _ _ _, hI.bel⟩
          · obtain ⟨X, hX, rfl⟩ : ∃ X : Nat, X ≤ 24 ∧ x = X := by
              simp [okW] at hok
              exact ⟨x.toNat, by omega, by omega⟩
            have hL : (readB (unpack bs) (ws.take k)).length ≤ 20000 := by rw [readB_length]; simp; omega
            have hB := hI.bel.size
            go_wp2_with (first
              | (go_at_call 92; refine (isWidth_any _ _).mono ?_; rintro e w1 ⟨rfl, rfl⟩)
              | (go_at_call 93; refine (number_any A c G bs at_ X _ (hb.below hI.bel (by omega)) hby (by omega) hX hl).mono ?_; rintro e w1 ⟨rfl, rfl⟩)
              | (at_builtin; go_loud (refine wpList_app1 _ rfl (.tmp 33) (.tmp 38) _ rfl w.heap.size 3 .i64 8 Tryz.underlying23 info_int _ (readB (unpack bs) (ws.take k)) _ rfl hI.own rfl (by omega) (by omega) (by omega) ?_); intro v' w' hown' hbel' hsz'))
            go_roundg (ws.length - (k + 1))
            case rel => exact ⟨k + 1, at_ + X, rfl, by omega, by go_num, by go_num, hI.step Hx.out hok (by omega) hown' hbel'⟩
            case measure => omega
        · have hok' : okW x = false := by simpa using hok
          have He := hI.stop_arg Hx.out hok' hbig
          have Ho := readOut_err (by rw [He]; decide)
          have Hs := readSum_err (by rw [He]; decide)
          have He := veil He; have Ho := veil Ho; have Hs := veil Hs
          clear hok
          go_wp2_with (go_at_call 92; refine (isWidth_any _ _).mono ?_; rintro e w1 ⟨rfl, rfl⟩)
          go_ret3
          exact ⟨_, ret_three rfl (by rw [Hs.out]; rfl) (by rw [He.out]; rfl), by rw [Ho.out]; exact World.ownsRow_nil _ _ _ _, hI.bel⟩
      · obtain rfl : k = ws.length := by omega
        have He := hI.done hbig
        have Ho := readOut_ok He
        have Hs := readSum_ok He
        have hw := hI.sum
        have hown := hI.own
        rw [List.take_length] at hw hown
        rw [← Ho] at hown
        rw [hw] at Hs
        have He := veil He; have Hs := veil Hs; clear Ho hw
        go_wp2
        go_ret3
        exact ⟨_, ret_three rfl (by rw [Hs.out]; rfl) (by rw [He.out]; rfl), hown, hI.bel⟩
end Go.Proofs.YtddkhkpdbjjboaaGreat

/- seg's bit reader: take, its contract. -/
namespace Go.Proofs.YtddkhkpdbjjboaaGreat
open Go.RowKit
set_option linter.unusedVariables false
set_option linter.unusedSimpArgs false
set_option maxRecDepth 100000

theorem grown_below2 {w w2 : World} {g : Nat} (h : Below w.heap.size w w2) {i : Nat} (x : Value) : w.grownBy (w2.setCell ⟨g, i, none⟩ x) (some g) :=
  ⟨h.os, h.tape, h.output, by have := h.size; simpa [World.setCell] using this, fun k hk hr => (Below.heap_setCell _ _ _ _ (fun e => hr (by rw [e]))).trans (h.block k hk)⟩
/-- Block g is a reader that stands at bit at_ of these bytes. -/
structure Rd (A : Option Addr) (c G g : Nat) (bs : List Int) (m1 m2 : Value) (at_ : Nat) (w : World) : Prop where
  blk : Blk w g [.slice A bs.length c, .int .i64 (at_ : Int), m1, m2] 64
  seen : Seen w G A (ints .u8 bs)
  cap : bs.length ≤ c
  max : c ≤ maxLen
  few : bs.length ≤ 140737488355328
  le : at_ ≤ 8 * bs.length
  low : G ≤ g
theorem Rd.below {A : Option Addr} {c G g B : Nat} {bs : List Int} {m1 m2 : Value} {at_ : Nat} {w w' : World} (h : Rd A c G g bs m1 m2 at_ w) (hb : Below B w w') (hg : g < B) : Rd A c G g bs m1 m2 at_ w' :=
  ⟨h.blk.below hb hg, h.seen.below hb (by have := h.low; omega), h.cap, h.max, h.few, h.le, h.low⟩
theorem Rd.kept {A : Option Addr} {c G g b : Nat} {bs : List Int} {m1 m2 : Value} {at_ : Nat} {w w' : World} (h : Rd A c G g bs m1 m2 at_ w) (hb : w.grownBy w' (some b)) (hg : g ≠ b) (hG : G ≤ b) : Rd A c G g bs m1 m2 at_ w' :=
  ⟨h.blk.kept hb (by simpa using hg), h.seen.grown hb hG (by have := h.blk.lt; have := h.low; omega), h.cap, h.max, h.few, h.le, h.low⟩
theorem read2_ok {bs : List Int} {at_ d q r : Nat} (e : at_ = 8 * q + r) (hr : r < 8) (hd : d ≤ 24) (h : at_ + d ≤ 8 * bs.length) :
    readErr (bs.drop q) [(r : Int), (d : Int)] = 0 ∧ readOut (bs.drop q) [(r : Int), (d : Int)] = [(valB ((unpack (bs.drop q)).take r) : Int), (valB (((unpack bs).drop at_).take d) : Int)] := by
  have h1 : okW (r : Int) = true := by simp [okW]; omega
  have h2 : okW (d : Int) = true := by simp [okW]; omega
  have h3 : readErr (bs.drop q) [(r : Int), (d : Int)] = 0 := by
    unfold readErr
    rw [if_neg (by simp), readE, if_pos h1, if_neg (by rw [List.length_drop]; omega), readE, if_pos h2, if_neg (by rw [List.length_drop]; omega), readE]
  refine ⟨h3, ?_⟩
  rw [readOut_ok h3, readB, readB, readB, Int.toNat_natCast, Int.toNat_natCast, unpack_drop, List.drop_drop, e]
theorem read2_short {bs : List Int} {at_ d q r : Nat} (e : at_ = 8 * q + r) (hr : r < 8) (hd : d ≤ 24) (hl : at_ ≤ 8 * bs.length) (h : 8 * bs.length < at_ + d) :
    readErr (bs.drop q) [(r : Int), (d : Int)] = 3 := by
  have h1 : okW (r : Int) = true := by simp [okW]; omega
  have h2 : okW (d : Int) = true := by simp [okW]; omega
  unfold readErr
  rw [if_neg (by simp), readE, if_pos h1, if_neg (by rw [List.length_drop]; omega), readE, if_pos h2, if_pos (by rw [List.length_drop]; omega)]
theorem own_at {w : World} {B : Nat} {e : TypeId} {v : Value} {n : Nat} {xs : List Value} (h : w.ownsRow B e 1 v n xs) (hn : 0 < n) : ∃ p c, v = .slice (some ⟨p, 0, none⟩) n c ∧ B ≤ p ∧ p < w.heap.size ∧ ∀ j u, xs[j]? = some u → w.cell? ⟨p, j, none⟩ = some u := by
  obtain ⟨h1, h2⟩ := h
  rcases h2 with ⟨rfl, rfl⟩ | ⟨g, cap, cur, rfl, hg, hh, hn2, hc, hs, ht⟩
  · omega
  · refine ⟨g, cap, rfl, hg, ?_, fun j u hu => ?_⟩
    · rcases Nat.lt_or_ge g w.heap.size with hl | hl
      · exact hl
      · rw [Array.getElem?_eq_none hl] at hh; cases hh
    · have hj : j < n * 1 := by have := (List.getElem?_eq_some_iff.1 hu).1; omega
      rw [← ht, List.getElem?_take, if_pos hj] at hu
      simp [World.cell?, hh]
      simpa using hu
set_option maxRecDepth 100000 in
set_option maxHeartbeats 2000000 in
theorem take_any (A : Option Addr) (c G g : Nat) (bs : List Int) (m1 m2 : Value) (at_ d : Nat) (w : World) (h : Rd A c G g bs m1 m2 at_ w) (hd : d ≤ 24) (hby : Bytes bs) :
    Calls Tryz.prog 52 #[.pointer (some ⟨g, 0, none⟩), .int .i64 (d : Int)] w fun e w' =>
      (at_ + d ≤ 8 * bs.length → e = .returned (.tuple #[.int .i64 (valB (((unpack bs).drop at_).take d) : Int), .int .i64 0]) ∧ Rd A c G g bs m1 m2 (at_ + d) w' ∧ w.grownBy w' (some g)) ∧
      (8 * bs.length < at_ + d → e = .returned (.tuple #[.int .i64 0, .int .i64 3]) ∧ Below w.heap.size w w') := by
  obtain ⟨q, r, hqr, hr8⟩ : ∃ q r, at_ = 8 * q + r ∧ r < 8 := ⟨at_ / 8, at_ % 8, by omega, by omega⟩
  have hgl := h.blk.lt
  have hle := h.le
  have hmx := h.max
  have hcp := h.cap
  have hlow := h.low
  have hfew := h.few
  unfold maxLen at hmx
  have c0 := h.blk.cell (i := 0) (v := .slice A bs.length c) rfl
  have c1 := h.blk.cell (i := 1) (v := .int .i64 (at_ : Int)) rfl
  have hq1 : (at_ : Int) / 8 = (q : Int) := by omega
  have hq2 : (at_ : Int) % 8 = (r : Int) := by omega
  have hq3 : (at_ : Int).tmod 8 = (r : Int) := by rw [Int.tmod_eq_emod_of_nonneg (by omega)]; omega
  have hql : q ≤ bs.length := by omega
  have hwq : IntKind.i64.wrap (q : Int) = (q : Int) := by rw [IntKind.wrap_i64]; omega
  have hcut := fun u => run_cutB_end A bs.length c q hql u
  obtain ⟨A', hA', hs'⟩ := cutB_drop h.seen hql hcp
  have hby' : Bytes (bs.drop q) := fun x hx => hby x (List.mem_of_mem_drop hx)
  have hrd : ∀ (W : World) (hb : Below w.heap.size w W) (A2 : Option Addr) (c2 : Nat) (h2 : Seen W W.heap.size A2 (ints .i64 [(r : Int), (d : Int)])),
      Calls Tryz.prog 75 #[.slice A' (bs.length - q) (c - q), .slice A2 2 c2] W fun e w' => ∃ v, e = .returned (.tuple #[v, .int .i64 (readSum (bs.drop q) [(r : Int), (d : Int)]), .int .i64 (readErr (bs.drop q) [(r : Int), (d : Int)])]) ∧ w'.ownsRow W.heap.size 3 1 v (readOut (bs.drop q) [(r : Int), (d : Int)]).length (ints .i64 (readOut (bs.drop q) [(r : Int), (d : Int)])) ∧ Below W.heap.size W w' := by
    intro W hb A2 c2 h2
    have h3 := read_any A' A2 (c - q) c2 W.heap.size (bs.drop q) [(r : Int), (d : Int)] W ((hs'.below hb (by omega)).up (by have := hb.size; omega)) hby' h2 (Nat.le_refl _) (by rw [List.length_drop]; omega) (by simp [maxLen]) (by intro x hx; simp at hx; rcases hx with rfl | rfl <;> omega)
    rw [List.length_drop] at h3
    exact h3
  have Hrd := veil hrd
  have Hby := veil hby
  have Hs := veil h.seen
  have Hblk := veil h.blk
  have Hcut := veil hcut
  have Hqr := veil hqr
  have HA := veil hA'
  clear hrd hby' hs' hcut h hA' hqr
  go_enter Tryz.func52, Tryz.ntmps52
  go_wp2_with fail
  clear c0 c1
  have hX : Blk w.drew g [.slice A bs.length c, .int .i64 (at_ : Int), m1, m2] 64 := Hblk.out
  refine wp_region_held_drew (S := fun w' => w'.cell? ⟨g, 0, none⟩ = some (.slice A bs.length c) ∧ w'.cell? ⟨g, 1, none⟩ = some (.int .i64 (at_ : Int))) (by kernel_rfl) ⟨hX.cell (i := 0) rfl, hX.cell (i := 1) rfl⟩ (fun hHeld0 => ?_)
  refine take_pure 0 10 (Value.pointer (some ⟨g, 0, none⟩)) _ rfl rfl (by kernel_rfl) (by kernel_rfl) (by kernel_rfl) (fun _ _ _ h => h) rfl (fun w' hS => by have := hS.1; have := hS.2; go_simp) hHeld0 rfl ?_
  refine take_pure 1 11 (Value.pointer (some ⟨g, 0, none⟩)) _ rfl rfl (by kernel_rfl) (by kernel_rfl) (by kernel_rfl) (fun _ _ _ h => h) rfl (fun w' hS => by have := hS.1; have := hS.2; go_simp) hHeld0 rfl ?_
  refine take_pure 2 12 (Value.pointer (some ⟨g, 0, none⟩)) _ rfl rfl (by kernel_rfl) (by kernel_rfl) (by kernel_rfl) (fun _ _ _ h => h) rfl (fun w' hS => by have := hS.1; have := hS.2; go_simp) hHeld0 rfl ?_
  refine take_pure 3 13 (Value.slice A bs.length c) _ rfl rfl (by kernel_rfl) (by kernel_rfl) (by kernel_rfl) (fun _ _ _ h => h) rfl (fun w' hS => by have := hS.1; have := hS.2; go_simp) hHeld0 rfl ?_
  refine take_pure 4 14 (Value.pointer (some ⟨g, 0, none⟩)) _ rfl rfl (by kernel_rfl) (by kernel_rfl) (by kernel_rfl) (fun _ _ _ h => h) rfl (fun w' hS => by have := hS.1; have := hS.2; go_simp) hHeld0 rfl ?_
  refine take_pure 5 15 (Value.pointer (some ⟨g, 0, none⟩)) _ rfl rfl (by kernel_rfl) (by kernel_rfl) (by kernel_rfl) (fun _ _ _ h => h) rfl (fun w' hS => by have := hS.1; have := hS.2; go_simp) hHeld0 rfl ?_
  refine take_pure 6 16 (Value.pointer (some ⟨g, 1, none⟩)) _ rfl rfl (by kernel_rfl) (by kernel_rfl) (by kernel_rfl) (fun _ _ _ h => h) rfl (fun w' hS => by have := hS.1; have := hS.2; go_simp) hHeld0 rfl ?_
  refine take_pure 7 17 (Value.int .i64 (at_ : Int)) _ rfl rfl (by kernel_rfl) (by kernel_rfl) (by kernel_rfl) (fun _ _ _ h => h) rfl (fun w' hS => by have := hS.1; have := hS.2; go_simp) hHeld0 rfl ?_
  refine take_pure 8 18 (Value.int .i64 (q : Int)) _ rfl rfl (by kernel_rfl) (by kernel_rfl) (by kernel_rfl) (fun _ _ _ h => h) rfl (fun w' hS => by have := hS.1; have := hS.2; go_simp) hHeld0 rfl ?_
  refine take_pure 9 19 (cutV A q bs.length c) _ rfl rfl (by kernel_rfl) (by kernel_rfl) (by kernel_rfl) (fun _ _ _ h => h) rfl (fun w' hS => by have := Hcut.out w'; go_simp) hHeld0 rfl ?_
  refine take_pure 10 20 (Value.pointer (some ⟨g, 0, none⟩)) _ rfl rfl (by kernel_rfl) (by kernel_rfl) (by kernel_rfl) (fun _ _ _ h => h) rfl (fun w' hS => by have := hS.1; have := hS.2; go_simp) hHeld0 rfl ?_
  refine take_pure 11 21 (Value.pointer (some ⟨g, 0, none⟩)) _ rfl rfl (by kernel_rfl) (by kernel_rfl) (by kernel_rfl) (fun _ _ _ h => h) rfl (fun w' hS => by have := hS.1; have := hS.2; go_simp) hHeld0 rfl ?_
  refine take_pure 12 22 (Value.pointer (some ⟨g, 1, none⟩)) _ rfl rfl (by kernel_rfl) (by kernel_rfl) (by kernel_rfl) (fun _ _ _ h => h) rfl (fun w' hS => by have := hS.1; have := hS.2; go_simp) hHeld0 rfl ?_
  refine take_pure 13 23 (Value.int .i64 (at_ : Int)) _ rfl rfl (by kernel_rfl) (by kernel_rfl) (by kernel_rfl) (fun _ _ _ h => h) rfl (fun w' hS => by have := hS.1; have := hS.2; go_simp) hHeld0 rfl ?_
  refine take_pure 14 24 (Value.int .i64 (r : Int)) _ rfl rfl (by kernel_rfl) (by kernel_rfl) (by kernel_rfl) (fun _ _ _ h => h) rfl (fun w' hS => by have := hS.1; have := hS.2; go_simp) hHeld0 rfl ?_
  refine take_pure 15 25 (Value.int .i64 (d : Int)) _ rfl rfl (by kernel_rfl) (by kernel_rfl) (by kernel_rfl) (fun _ _ _ h => h) rfl (fun w' hS => by have := hS.1; have := hS.2; go_simp) hHeld0 rfl ?_
  refine wpAnyH_ready (rs := [16]) (by kernel_rfl) (by simp) ?_
  refine AllReadyH.cons rfl (fun K hK => ?_) AllReadyH.nil
  go_simp
  have hbA := below1 w (.cells #[.int .i64 (r : Int), .int .i64 (d : Int)] 3)
  have hW1 : Blk (w.alloc (.cells #[.int .i64 (r : Int), .int .i64 (d : Int)] 3)).drew g [.slice A bs.length c, .int .i64 (at_ : Int), m1, m2] 64 := Hblk.out.below hbA.drew hgl
  refine hK.out _ _ ⟨hW1.cell (i := 0) rfl, hW1.cell (i := 1) rfl⟩ (fun hHeld1 => ?_)
  clear hK K hHeld0
  refine wpAnyH_ready (rs := [17]) (by kernel_rfl) (by simp) ?_
  refine AllReadyH.cons rfl (fun K hK => ?_) AllReadyH.nil
  rw [HA.out]
  go_simp
  have hzA : (w.alloc (.cells #[.int .i64 (r : Int), .int .i64 (d : Int)] 3)).drew.heap.size = w.heap.size + 1 := by show (w.alloc _).heap.size = _; simp
  refine (Hrd.out (w.alloc (.cells #[.int .i64 (r : Int), .int .i64 (d : Int)] 3)).drew hbA.drew (some ⟨w.heap.size, 0, none⟩) 2 (by rw [hzA]; exact Seen.new w (ints .i64 [(r : Int), (d : Int)]) 3 _ (Nat.lt_succ_self _))).mono ?_
  rintro e w2 ⟨v, rfl, hown, hb2⟩
  rw [hzA] at hown hb2
  have hb2' : Below w.heap.size w w2 := hbA.drew.trans (hb2.mono (by omega))
  have hW2 : Blk w2 g [.slice A bs.length c, .int .i64 (at_ : Int), m1, m2] 64 := Hblk.out.below hb2' hgl
  refine hK.out _ _ ⟨hW2.cell (i := 0) rfl, hW2.cell (i := 1) rfl⟩ (fun hHeld2 => ?_)
  clear hK K hHeld1 hW1
  have hsm : ∃ S : Int, readSum (bs.drop q) [(r : Int), (d : Int)] = S := ⟨_, rfl⟩
  obtain ⟨S, hS⟩ := hsm
  rw [hS]
  by_cases hin : at_ + d ≤ 8 * bs.length
  · obtain ⟨he, ho⟩ := read2_ok Hqr.out hr8 hd hin
    rw [ho] at hown
    rw [he]
    obtain ⟨p, c3, hv, hp, hpz, hcell⟩ := own_at hown (by simp)
    have hv' : v = .slice (some ⟨p, 0, none⟩) 2 c3 := hv
    subst hv'
    have k1 := hcell 1 (.int .i64 (valB (((unpack bs).drop at_).take d) : Int)) rfl
    have hpg : p ≠ g := by omega
    have hgr : w.grownBy (w2.setCell ⟨g, 1, none⟩ (.int .i64 ((at_ + d : Nat) : Int))) (some g) := grown_below2 hb2' _
    have hrd2 : Rd A c G g bs m1 m2 (at_ + d) (w2.setCell ⟨g, 1, none⟩ (.int .i64 ((at_ + d : Nat) : Int))) := ⟨hW2.set 1 _, Hs.out.grown hgr hlow (by omega), hcp, by unfold maxLen; omega, hfew, hin, hlow⟩
    have hw1 : IntKind.i64.wrap ((at_ : Int) + (d : Int)) = ((at_ + d : Nat) : Int) := by rw [IntKind.wrap_i64]; omega
    have k0 := hW2.cell (i := 1) (v := .int .i64 (at_ : Int)) rfl
    have hfz := hW2.frozen 1
    have HR := veil hrd2
    have HG := veil hgr
    have Hin := veil hin
    obtain ⟨X, hX⟩ : ∃ X : Nat, X = valB (((unpack bs).drop at_).take d) := ⟨_, rfl⟩
    rw [← hX] at k1
    have HX := veil hX
    clear hX
    clear hrd2 hgr hown hv ho he hcell hb2 hS hin
    refine take_pure 18 9 (Value.tuple #[Value.slice (some ⟨p, 0, none⟩) 2 c3, Value.int .i64 S, Value.int .i64 0]) _ rfl rfl (by kernel_rfl) (by kernel_rfl) (by kernel_rfl) (fun _ _ _ h => h) rfl (fun w' hS => by go_simp) hHeld2 rfl ?_
    refine take_pure 19 28 (Value.slice (some ⟨p, 0, none⟩) 2 c3) _ rfl rfl (by kernel_rfl) (by kernel_rfl) (by kernel_rfl) (fun _ _ _ h => h) rfl (fun w' hS => by go_simp) hHeld2 rfl ?_
    refine take_pure 20 29 (Value.int .i64 S) _ rfl rfl (by kernel_rfl) (by kernel_rfl) (by kernel_rfl) (fun _ _ _ h => h) rfl (fun w' hS => by go_simp) hHeld2 rfl ?_
    refine take_pure 21 30 (Value.int .i64 0) _ rfl rfl (by kernel_rfl) (by kernel_rfl) (by kernel_rfl) (fun _ _ _ h => h) rfl (fun w' hS => by go_simp) hHeld2 rfl ?_
    refine take_pure 22 6 (Value.slice (some ⟨p, 0, none⟩) 2 c3) _ rfl rfl (by kernel_rfl) (by kernel_rfl) (by kernel_rfl) (fun _ _ _ h => h) rfl (fun w' hS => by go_simp) hHeld2 rfl ?_
    refine take_pure 23 7 (Value.int .i64 S) _ rfl rfl (by kernel_rfl) (by kernel_rfl) (by kernel_rfl) (fun _ _ _ h => h) rfl (fun w' hS => by go_simp) hHeld2 rfl ?_
    refine take_pure 24 8 (Value.int .i64 0) _ rfl rfl (by kernel_rfl) (by kernel_rfl) (by kernel_rfl) (fun _ _ _ h => h) rfl (fun w' hS => by go_simp) hHeld2 rfl ?_
    refine wpAnyH_done (by kernel_rfl) ?_ _
    clear hHeld2
    go_wp2_with fail
    go_ret2
    exact ⟨fun _ => ⟨ret_two (by rw [← HX.out]; rfl) rfl, HR.out, HG.out⟩, fun hx => absurd Hin.out (by omega)⟩
  · have he := read2_short Hqr.out hr8 hd hle (by omega)
    rw [he]
    have Hin := veil hin
    clear hown hin he
    refine take_pure 18 9 (Value.tuple #[v, Value.int .i64 S, Value.int .i64 3]) _ rfl rfl (by kernel_rfl) (by kernel_rfl) (by kernel_rfl) (fun _ _ _ h => h) rfl (fun w' hS => by go_simp) hHeld2 rfl ?_
    refine take_pure 19 28 (v) _ rfl rfl (by kernel_rfl) (by kernel_rfl) (by kernel_rfl) (fun _ _ _ h => h) rfl (fun w' hS => by go_simp) hHeld2 rfl ?_
    refine take_pure 20 29 (Value.int .i64 S) _ rfl rfl (by kernel_rfl) (by kernel_rfl) (by kernel_rfl) (fun _ _ _ h => h) rfl (fun w' hS => by go_simp) hHeld2 rfl ?_
    refine take_pure 21 30 (Value.int .i64 3) _ rfl rfl (by kernel_rfl) (by kernel_rfl) (by kernel_rfl) (fun _ _ _ h => h) rfl (fun w' hS => by go_simp) hHeld2 rfl ?_
    refine take_pure 22 6 (v) _ rfl rfl (by kernel_rfl) (by kernel_rfl) (by kernel_rfl) (fun _ _ _ h => h) rfl (fun w' hS => by go_simp) hHeld2 rfl ?_
    refine take_pure 23 7 (Value.int .i64 S) _ rfl rfl (by kernel_rfl) (by kernel_rfl) (by kernel_rfl) (fun _ _ _ h => h) rfl (fun w' hS => by go_simp) hHeld2 rfl ?_
    refine take_pure 24 8 (Value.int .i64 3) _ rfl rfl (by kernel_rfl) (by kernel_rfl) (by kernel_rfl) (fun _ _ _ h => h) rfl (fun w' hS => by go_simp) hHeld2 rfl ?_
    refine wpAnyH_done (by kernel_rfl) ?_ _
    clear hHeld2
    go_wp2_with fail
    go_ret2
    exact ⟨fun hx => absurd hx Hin.out, fun _ => ⟨rfl, hb2'⟩⟩
end Go.Proofs.YtddkhkpdbjjboaaGreat

/- seg's token reader: symbol, its contract. -/
namespace Go.Proofs.YtddkhkpdbjjboaaGreat
open Go.RowKit
set_option linter.unusedVariables false
set_option linter.unusedSimpArgs false
set_option maxRecDepth 100000

theorem MapC.kept {w w' : World} {b n g : Nat} {f : Int × Int → Option Int} (h : MapC w b n f) (hg : w.grownBy w' (some g)) (hn : b ≠ g) : MapC w' b n f := by
  have hlt := h.lt
  obtain ⟨D, ⟨es, clock, h1, h2⟩, h3⟩ := h
  exact ⟨D, ⟨es, clock, by rw [hg.block b hlt (by simpa using hn)]; exact h1, h2⟩, h3⟩
theorem or_bit (V t : Nat) (hV : V < 16777216) (ht : t ≤ 1) : bits BinOp.or IntKind.i64 (wrap64 ((V : Int) * 2)) (t : Int) = ((2 * V + t : Nat) : Int) := by
  have e2 : wrap64 ((V : Int) * 2) = ((V * 2 ^ 1 : Nat) : Int) := by
    rw [show (V : Int) * 2 = ((V * 2 : Nat) : Int) by simp]; exact wrap64_nat _ (by omega)
  rw [e2, i64_or _ _ (by omega) (by omega), nat_or_low _ 1 _ (by omega)]
  omega
theorem cut_one {bs : List Int} {at_ k : Nat} (h : at_ + k < 8 * bs.length) : ∃ t : Nat, t ≤ 1 ∧ valB (((unpack bs).drop (at_ + k)).take 1) = t ∧ valB (cutB bs at_ (k + 1)) = 2 * valB (cutB bs at_ k) + t := by
  obtain ⟨x, hx⟩ := some_at (xs := unpack bs) (j := at_ + k) (by rw [unpack_length]; exact h)
  have e1 : ((unpack bs).drop (at_ + k)).take 1 = [x] := by
    obtain ⟨hk, rfl⟩ := List.getElem?_eq_some_iff.1 hx
    rw [List.drop_eq_getElem_cons hk]; rfl
  have e2 : cutB bs at_ (k + 1) = cutB bs at_ k ++ [x] := by
    unfold cutB
    exact take_snoc (by rw [List.getElem?_drop]; exact hx)
  refine ⟨x.toNat, by cases x <;> simp, ?_, ?_⟩
  · rw [e1]; cases x <;> rfl
  · rw [e2, valB_snoc]
set_option maxRecDepth 100000 in
set_option maxHeartbeats 2000000 in
theorem symbol_any (A : Option Addr) (c G g : Nat) (bs : List Int) (m1 m2 : Value) (at_ b n : Nat) (ws : List (Int × Nat × Nat)) (w : World) (h : Rd A c G g bs m1 m2 at_ w) (hby : Bytes bs) (HM : MapC w b n (codeF ws)) (hpf : PF ws) (hbg : b ≠ g) :
    Calls Tryz.prog 70 #[.pointer (some ⟨g, 0, none⟩), .map (some b)] w fun e w' =>
      e = .returned (.tuple #[.int .i64 (nextS ws ((unpack bs).drop at_)), .int .i64 (nextE ws ((unpack bs).drop at_))]) ∧ w.grownBy w' (some g) ∧ (nextE ws ((unpack bs).drop at_) = 0 → Rd A c G g bs m1 m2 (at_ + nextL ws ((unpack bs).drop at_)) w') := by
  have hgl := h.blk.lt
  have hle := h.le
  have hfew := h.few
  have hbl := HM.lt
  have hlen : ((unpack bs).drop at_).length = 8 * bs.length - at_ := by rw [List.length_drop, unpack_length]
  have Hlen := veil hlen; clear hlen
  have Hpf := veil hpf; clear hpf
  have HT := veil (fun (k : Nat) (W : World) (hr : Rd A c G g bs m1 m2 (at_ + k) W) => take_any A c G g bs m1 m2 (at_ + k) 1 W hr (by omega) hby)
  have hcut : ∀ k, cutB bs at_ k = ((unpack bs).drop at_).take k := fun _ => rfl
  have Hcut := veil hcut; clear hcut hby
  have HR := veil h
  have HB := Blk.new w [.int .i64 0, .int .i64 0] 89
  have hb0 := below1 w (.cells #[.int .i64 0, .int .i64 0] 89)
  have hR0 := h.below hb0 hgl
  have hM0 := HM.below hb0 hbl
  clear h HM
  go_enter Tryz.func70, Tryz.ntmps70
  go_wp2_with fail
  go_loopg [7, 8, 9, 10] 16 (fun gk i0 b0 s0 o0 wr => ∃ (k V : Nat), gk = 16 - k ∧ k ≤ 16 ∧ at_ + k ≤ 8 * bs.length ∧ Hid (V = valB (cutB bs at_ k)) ∧ Hid (∀ j : Nat, 1 ≤ j → j ≤ k → codeF ws ((j : Int), (valB (((unpack bs).drop at_).take j) : Int)) = none) ∧ Hid (Blk wr w.heap.size [.int .i64 (k : Int), .int .i64 (V : Int)] 89) ∧ Hid (Rd A c G g bs m1 m2 (at_ + k) wr) ∧ Hid (MapC wr b n (codeF ws)) ∧ w.grownBy wr (some g))
  case atStart => exact ⟨0, 0, rfl, by omega, by omega, veil rfl, veil (by intro j h1 h2; omega), veil HB, veil hR0, veil hM0, grown_below (World.grownBy.refl _ _) hb0 (Nat.le_refl _)⟩
  case round =>
    clear HB hb0 hR0 hM0
    obtain ⟨k, V, rfl, hk, hin, HV, HN, HBk, HRk, HMk, hgr⟩ := hrel
    have hz := hgr.size
    have hFz := HBk.out.lt
    have c0 := HBk.out.cell (i := 0) (v := .int .i64 (k : Int)) rfl
    by_cases hlt : k < 16
    · have hlt' : (k : Int) < 16 := by omega
      have HTk := veil (HT.out k wr HRk.out)
      by_cases hend : at_ + k = 8 * bs.length
      · have hf := Hpf.out.miss (k := k) (b := (unpack bs).drop at_) (.inr (by rw [Hlen.out]; omega)) HN.out
        have h1 : nextS ws ((unpack bs).drop at_) = 0 := by unfold nextS; rw [hf]; rfl
        have h3 : nextE ws ((unpack bs).drop at_) = 3 := by unfold nextE; rw [hf, if_neg (by simp), if_pos (by rw [Hlen.out]; omega)]
        have H1 := veil h1; have H3 := veil h3
        have Hend := veil hend
        clear h1 h3 hf hend
        go_wp2_with fail
        refine HTk.out.mono ?_
        rintro e w2 ⟨_, hsh⟩
        obtain ⟨rfl, hb2⟩ := hsh (by have := Hend.out; omega)
        go_wp2_with fail
        go_ret2
        exact ⟨ret_two (by rw [H1.out]; rfl) (by rw [H3.out]; rfl), grown_below hgr hb2 hz, fun hx => by rw [H3.out] at hx; exact absurd hx (by decide)⟩
      · have hin1 : at_ + k + 1 ≤ 8 * bs.length := by omega
        obtain ⟨t, ht, hval, hst⟩ := cut_one (bs := bs) (at_ := at_) (k := k) (by omega)
        rw [← HV.out] at hst
        obtain ⟨V', hV'⟩ : ∃ V', V' = valB (cutB bs at_ (k + 1)) := ⟨_, rfl⟩
        rw [← hV'] at hst
        have hVlt : V' < 65536 := by
          have h2 := valB_lt (cutB bs at_ (k + 1))
          rw [cutB_length _ _ _ (by omega), ← hV'] at h2
          have h3 : 2 ^ (k + 1) ≤ 2 ^ 16 := Nat.pow_le_pow_right (by omega) (by omega)
          omega
        have hor := or_bit V t (by omega) ht
        rw [← hst] at hor
        have HV' := veil hV'
        have Hval := veil hval
        have hk1 : IntKind.i64.wrap ((k : Int) + 1) = ((k + 1 : Nat) : Int) := by rw [IntKind.wrap_i64]; omega
        clear hV' hval hst hend
        go_wp2_with fail
        refine HTk.out.mono ?_
        rintro e w2 ⟨hokk, _⟩
        obtain ⟨rfl, hR2, hg2⟩ := hokk hin1
        rw [Hval.out]
        have hB2 := HBk.out.kept hg2 (by simp; omega)
        have hM2 := HMk.out.kept hg2 hbg
        have d0 := hB2.cell (i := 0) (v := .int .i64 (k : Int)) rfl
        have d1 := hB2.cell (i := 1) (v := .int .i64 (V : Int)) rfl
        have f0 := hB2.frozen 0
        have f1 := hB2.frozen 1
        have hB3 : Blk ((w2.setCell ⟨w.heap.size, 0, none⟩ (.int .i64 ((k + 1 : Nat) : Int))).setCell ⟨w.heap.size, 1, none⟩ (.int .i64 (V' : Int))) w.heap.size [.int .i64 ((k + 1 : Nat) : Int), .int .i64 (V' : Int)] 89 := (hB2.set 0 _).set 1 _
        have hg3 : w.grownBy ((w2.setCell ⟨w.heap.size, 0, none⟩ (.int .i64 ((k + 1 : Nat) : Int))).setCell ⟨w.heap.size, 1, none⟩ (.int .i64 (V' : Int))) (some g) := grown_set (grown_set (hgr.trans hg2) (Nat.le_refl _)) (Nat.le_refl _)
        have hx3 : w2.grownBy ((w2.setCell ⟨w.heap.size, 0, none⟩ (.int .i64 ((k + 1 : Nat) : Int))).setCell ⟨w.heap.size, 1, none⟩ (.int .i64 (V' : Int))) (some w.heap.size) := (grown_setCell w2 w.heap.size 0 _).trans (grown_setCell _ w.heap.size 1 _)
        have hR3 := hR2.kept hx3 (by omega) (by have := hR2.low; omega)
        have hM3 := hM2.kept hx3 (by omega)
        have HB3 := veil hB3; have HR3 := veil hR3; have HM3 := veil hM3; have HG3 := veil hg3
        clear hB2 hM2 hB3 hg3 hR3 hM3 hx3 hR2 hg2 hokk c0
        cases hq : codeF ws (((k + 1 : Nat) : Int), (V' : Int)) with
        | none =>
          have Hq := veil hq; clear hq
          go_wp2_with (first
            | (at_lookup; go_loud (refine wpList_lookC _ rfl (.tmp 35) (.tmp 36) rfl b n (codeF ws) rfl HM3.out (((k + 1 : Nat) : Int), (V' : Int)) rfl (wf_of (by omega)) (wf_of (by omega)) 0 false (by rw [Hq.out]; rfl) (by rw [Hq.out]; rfl) ?_))
            | fail)
          go_roundg (16 - (k + 1))
          case rel =>
            refine ⟨k + 1, V', rfl, by omega, by omega, HV', veil ?_, HB3, HR3, HM3, HG3.out⟩
            intro j h1 h2
            by_cases hj : j = k + 1
            · subst hj; rw [← Hcut.out, ← HV'.out]; exact Hq.out
            · exact HN.out j h1 (by omega)
          case measure => omega
        | some s =>
          have hf := Hpf.out.hit (b := (unpack bs).drop at_) (k := k + 1) (by rw [Hlen.out]; omega) (s := s) (by rw [← Hcut.out, ← HV'.out]; exact hq)
          have h11 : nextS ws ((unpack bs).drop at_) = s := by unfold nextS; rw [hf]; rfl
          have h12 : nextL ws ((unpack bs).drop at_) = k + 1 := by unfold nextL; rw [hf]; rfl
          have h13 : nextE ws ((unpack bs).drop at_) = 0 := by unfold nextE; rw [hf]; rfl
          have H1 := veil h11; have H2 := veil h12; have H3 := veil h13
          clear h11 h12 h13 hf
          have Hq := veil hq; clear hq
          go_wp2_with (first
            | (at_lookup; go_loud (refine wpList_lookC _ rfl (.tmp 35) (.tmp 36) rfl b n (codeF ws) rfl HM3.out (((k + 1 : Nat) : Int), (V' : Int)) rfl (wf_of (by omega)) (wf_of (by omega)) s true (by rw [Hq.out]; rfl) (by rw [Hq.out]; rfl) ?_))
            | fail)
          go_ret2
          exact ⟨ret_two (by rw [H1.out]; rfl) (by rw [H3.out]; rfl), HG3.out, fun _ => by rw [H2.out]; exact HR3.out⟩
    · obtain rfl : k = 16 := by omega
      have hf := Hpf.out.miss (k := 16) (b := (unpack bs).drop at_) (.inl rfl) HN.out
      have h1 : nextS ws ((unpack bs).drop at_) = 0 := by unfold nextS; rw [hf]; rfl
      have h3 : nextE ws ((unpack bs).drop at_) = 4 := by unfold nextE; rw [hf, if_neg (by simp), if_neg (by rw [Hlen.out]; omega)]
      have H1 := veil h1; have H3 := veil h3
      clear h1 h3 hf
      go_wp2_with fail
      go_ret2
      exact ⟨ret_two (by rw [H1.out]; rfl) (by rw [H3.out]; rfl), hgr, fun hx => by rw [H3.out] at hx; exact absurd hx (by decide)⟩
end Go.Proofs.YtddkhkpdbjjboaaGreat

/- What a source of tokens does when it is called. No program is named here. -/
namespace Go.Proofs.YtddkhkpdbjjboaaGreat
open Go.RowKit
set_option linter.unusedVariables false
set_option linter.unusedSimpArgs false
set_option maxRecDepth 100000

/-- What a call of a source does: an error, or a token and the source behind it. -/
def NextPost {σ : Type} (R : World → σ → Prop) (g : Nat) (w : World) : Int ⊕ ((Int × Int × Int) × σ) → Ending → World → Prop
  | .inl d, e, w' => e = .returned (.tuple #[tokV (0, 0, 0), .int .i64 d]) ∧ w.grownBy w' (some g)
  | .inr (t, s), e, w' => e = .returned (.tuple #[tokV t, .int .i64 0]) ∧ w.grownBy w' (some g) ∧ R w' s
end Go.Proofs.YtddkhkpdbjjboaaGreat

/- Rows of numbers. -/
namespace Go.Proofs.YtddkhkpdbjjboaaGreat
open Go.RowKit

theorem elem_int : ElemOf Tryz.prog 23 3 1 8 := .mk' (z := .int .i64 0) Tryz.underlying23 (by kernel_rfl) rfl (by omega)
abbrev numRow (v : Value) (l : List Int) : Row := intRow 3 .i64 v l
end Go.Proofs.YtddkhkpdbjjboaaGreat

/- table.Decode: its contract. -/
namespace Go.Proofs.YtddkhkpdbjjboaaGreat
open Go.RowKit
set_option linter.unusedVariables false
set_option linter.unusedSimpArgs false
set_option maxRecDepth 100000

/-- n symbols off a row of bits: the error, the symbols ahead of it, the bits they take. -/
def dec (ws : List (Int × Nat × Nat)) : Nat → List Bool → Int × List Int × Nat
  | 0, _ => (0, [], 0)
  | n + 1, b => if (find1 ws b).isSome = true then let r := dec ws n (b.drop (nextL ws b)); (r.1, nextS ws b :: r.2.1, nextL ws b + r.2.2) else (nextE ws b, [], 0)
theorem dec_hit {ws : List (Int × Nat × Nat)} {b : List Bool} (h : nextE ws b = 0) (n : Nat) : dec ws (n + 1) b = ((dec ws n (b.drop (nextL ws b))).1, nextS ws b :: (dec ws n (b.drop (nextL ws b))).2.1, nextL ws b + (dec ws n (b.drop (nextL ws b))).2.2) := by
  unfold nextE at h
  split at h
  · rename_i h1
    rw [dec, if_pos h1]
  · split at h <;> cases h
/-- What has been read, and what is to come. -/
def DInv (ws : List (Int × Nat × Nat)) (n : Nat) (b : List Bool) (k at_ : Nat) (acc : List Int) : Prop :=
  (dec ws n b).1 = (dec ws (n - k) (b.drop at_)).1 ∧ (dec ws n b).2.1 = acc ++ (dec ws (n - k) (b.drop at_)).2.1 ∧ (dec ws n b).2.2 = at_ + (dec ws (n - k) (b.drop at_)).2.2
theorem DInv.start (ws : List (Int × Nat × Nat)) (n : Nat) (b : List Bool) : DInv ws n b 0 0 [] := by simp [DInv]
theorem DInv.next {ws : List (Int × Nat × Nat)} {n : Nat} {b : List Bool} {k at_ : Nat} {acc : List Int} (h : DInv ws n b k at_ acc) (hk : k < n) (he : nextE ws (b.drop at_) = 0) :
    DInv ws n b (k + 1) (at_ + nextL ws (b.drop at_)) (acc ++ [nextS ws (b.drop at_)]) := by
  unfold DInv at h ⊢
  rw [show n - k = (n - (k + 1)) + 1 by omega, dec_hit he, List.drop_drop] at h
  refine ⟨h.1, by rw [h.2.1]; simp, by rw [h.2.2]; simp only []; omega⟩
theorem DInv.done {ws : List (Int × Nat × Nat)} {n : Nat} {b : List Bool} {at_ : Nat} {acc : List Int} (h : DInv ws n b n at_ acc) : dec ws n b = (0, acc, at_) := by
  unfold DInv at h
  simp only [Nat.sub_self, dec, List.append_nil, Nat.add_zero] at h
  exact Prod.ext h.1 (Prod.ext h.2.1 h.2.2)
theorem nextL_le {ws : List (Int × Nat × Nat)} {b : List Bool} : nextL ws b ≤ b.length := by
  unfold nextL
  cases h : find1 ws b with
  | none => simp
  | some p =>
    obtain ⟨s, n⟩ := p
    obtain ⟨t, _, _, e, h1⟩ := find1_mem h
    have := h1.length_le
    rw [bitsN_length] at this
    simp; omega
theorem nextS_wf {ws : List (Int × Nat × Nat)} {b : List Bool} (h : ∀ t ∈ ws, 0 ≤ t.1 ∧ t.1 ≤ 255) : 0 ≤ nextS ws b ∧ nextS ws b ≤ 255 := by
  unfold nextS
  cases hq : find1 ws b with
  | none => simp
  | some p =>
    obtain ⟨s, n⟩ := p
    obtain ⟨t, ht, e, _⟩ := find1_mem hq
    have := h t ht
    simp; omega

end Go.Proofs.YtddkhkpdbjjboaaGreat

/- seg's token reader: token, firstToken, restToken, their contracts. -/
namespace Go.Proofs.YtddkhkpdbjjboaaGreat
open Go.RowKit
set_option linter.unusedVariables false
set_option linter.unusedSimpArgs false
set_option maxRecDepth 100000

theorem info_tok3 : (Tryz.prog.info? 73).map (·.size) = some 3 := by kernel_rfl
abbrev tokL (t : Int × Int × Int) : List Value := [.int .i64 t.1, .int .i64 t.2.1, .int .i64 t.2.2]
theorem tokL_one (t : Int × Int × Int) : ∀ u ∈ tokL t, u.oneCell' = true := by intro u hu; simp at hu; rcases hu with rfl | rfl | rfl <;> rfl
set_option maxRecDepth 100000 in
set_option maxHeartbeats 2000000 in
theorem segToken_any (A : Option Addr) (c G g : Nat) (bs : List Int) (m1 m2 : Value) (at_ d : Nat) (S : Int) (w : World) (h : Rd A c G g bs m1 m2 at_ w) (hd : d ≤ 24) (hby : Bytes bs) :
    Calls Tryz.prog 71 #[.pointer (some ⟨g, 0, none⟩), .int .i64 S, .int .i64 (d : Int)] w fun e w' =>
      (at_ + d ≤ 8 * bs.length → e = .returned (.tuple #[tokV (S, (d : Int), (valB (((unpack bs).drop at_).take d) : Int)), .int .i64 0]) ∧ Rd A c G g bs m1 m2 (at_ + d) w' ∧ w.grownBy w' (some g)) ∧
      (8 * bs.length < at_ + d → e = .returned (.tuple #[tokV (0, 0, 0), .int .i64 3]) ∧ w.grownBy w' (some g)) := by
  have hgl := h.blk.lt
  have hb0 := below1 w (.cells (tokL (0, 0, 0)).toArray 73)
  have HB := Blk.new w (tokL (0, 0, 0)) 73
  have hz0 : (w.alloc (.cells (tokL (0, 0, 0)).toArray 73)).heap.size = w.heap.size + 1 := by simp
  have HT := veil (take_any A c G g bs m1 m2 at_ d _ (h.below hb0 hgl) hd hby)
  clear h
  go_enter Tryz.func71, Tryz.ntmps71
  go_wp2_with fail
  refine HT.out.mono ?_
  rintro e w2 ⟨hok, hsh⟩
  by_cases hin : at_ + d ≤ 8 * bs.length
  · obtain ⟨rfl, hR, hg⟩ := hok hin
    have hB2 := HB.kept hg (by simp; omega)
    have hg2 : w.grownBy w2 (some g) := (grown_below (World.grownBy.refl w _) hb0 (Nat.le_refl _)).trans hg
    have HR := veil hR
    have Hin := veil hin
    obtain ⟨X, hX⟩ : ∃ X : Nat, X = valB (((unpack bs).drop at_).take d) := ⟨_, rfl⟩
    rw [← hX]
    have HX := veil hX
    have hone := tokL_one (S, (d : Int), (X : Int))
    clear hR hok hsh HT hin hX hb0 HB hg
    go_wp2_with (first
      | (refine wpList_store_blk w2 rfl 73 (.tmp 6) (.tmp 25) rfl w.heap.size (tokL (0, 0, 0)) (tokL (S, (d : Int), (X : Int))) 73 hB2 rfl rfl info_tok3 rfl hone ?_; intro w5 HB7 hg7)
      | fail)
    refine bodyPost_ret (results_row_tmp rfl _ _ w.heap.size 73 (tokL (S, (d : Int), (X : Int))).toArray (0, 0) _ (.int .i64 0) rfl rfl HB7 Tryz.underlying73 rfl (by simp only [List.size_toArray]; exact info_tok3)) rfl ⟨fun _ => ⟨?_, HR.out.kept hg7 (by omega) (by have := HR.out.low; omega), grown_grown hg2 hg7 (Nat.le_refl _)⟩, fun hx => absurd Hin.out (by omega)⟩
    rw [← HX.out]; rfl
  · obtain ⟨rfl, hb2⟩ := hsh (by omega)
    have hB2 := HB.below hb2 (by omega)
    have hg2 : w.grownBy w2 (some g) := grown_below (grown_below (World.grownBy.refl w _) hb0 (Nat.le_refl _)) hb2 (by omega)
    have Hin := veil hin
    have hone := tokL_one (0, 0, 0)
    clear hok hsh HT hin hb0 HB hb2
    go_wp2_with (first
      | (refine wpList_store_blk w2 rfl 73 (.tmp 6) (.tmp 20) rfl w.heap.size (tokL (0, 0, 0)) (tokL (0, 0, 0)) 73 hB2 rfl rfl info_tok3 rfl hone ?_; intro w5 HB7 hg7)
      | fail)
    exact bodyPost_ret (results_row_tmp rfl _ _ w.heap.size 73 (tokL (0, 0, 0)).toArray (0, 0) _ (.int .i64 3) rfl rfl HB7 Tryz.underlying73 rfl (by simp only [List.size_toArray]; exact info_tok3)) rfl ⟨fun hx => absurd hx Hin.out, fun _ => ⟨rfl, grown_grown hg2 hg7 (Nat.le_refl _)⟩⟩
/-- The reader of tokens stands before these bits. -/
def TR (A : Option Addr) (c G g : Nat) (bs : List Int) (b1 n1 : Nat) (fw : List (Int × Nat × Nat)) (b2 n2 : Nat) (rw_ : List (Int × Nat × Nat)) (w : World) (s : List Bool) : Prop :=
  ∃ at_, Rd A c G g bs (.map (some b1)) (.map (some b2)) at_ w ∧ MapC w b1 n1 (codeF fw) ∧ MapC w b2 n2 (codeF rw_) ∧ b1 ≠ g ∧ b2 ≠ g ∧ s = (unpack bs).drop at_
theorem TR.below {A : Option Addr} {c G g B : Nat} {bs : List Int} {b1 n1 : Nat} {fw : List (Int × Nat × Nat)} {b2 n2 : Nat} {rw_ : List (Int × Nat × Nat)} {w w' : World} {s : List Bool} (h : TR A c G g bs b1 n1 fw b2 n2 rw_ w s) (hb : Below B w w') (hB : w.heap.size ≤ B) : TR A c G g bs b1 n1 fw b2 n2 rw_ w' s := by
  obtain ⟨at_, h1, h2, h3, h4, h5, h6⟩ := h
  exact ⟨at_, h1.below hb (by have := h1.blk.lt; omega), h2.below hb (by have := h2.lt; omega), h3.below hb (by have := h3.lt; omega), h4, h5, h6⟩
theorem TR.kept {A : Option Addr} {c G g b : Nat} {bs : List Int} {b1 n1 : Nat} {fw : List (Int × Nat × Nat)} {b2 n2 : Nat} {rw_ : List (Int × Nat × Nat)} {w w' : World} {s : List Bool} (h : TR A c G g bs b1 n1 fw b2 n2 rw_ w s) (hb : w.grownBy w' (some b)) (hg : g < b) (h1b : b1 ≠ b) (h2b : b2 ≠ b) : TR A c G g bs b1 n1 fw b2 n2 rw_ w' s := by
  obtain ⟨at_, h1, h2, h3, h4, h5, h6⟩ := h
  exact ⟨at_, h1.kept hb (by omega) (by have := h1.low; omega), h2.kept hb h1b, h3.kept hb h2b, h4, h5, h6⟩
section
variable {fw rw_ : List (Int × Nat × Nat)} {first : Bool} {s : List Bool}
theorem stepS_err (h : nextE (wsOf fw rw_ first) s ≠ 0) : stepS fw rw_ first s = .inl (nextE (wsOf fw rw_ first) s) := by unfold stepS; rw [if_pos h]
theorem stepS_wide (h : nextE (wsOf fw rw_ first) s = 0) (h2 : 12 < widS first (nextS (wsOf fw rw_ first) s) ∨ (first = false ∧ 11 < widS first (nextS (wsOf fw rw_ first) s))) : stepS fw rw_ first s = .inl 4 := by
  unfold stepS; rw [if_neg (by rw [h]; decide), if_pos h2]
theorem stepS_short {d : Nat} (h : nextE (wsOf fw rw_ first) s = 0) (hd : widS first (nextS (wsOf fw rw_ first) s) = (d : Int)) (h2 : ¬ (12 < d ∨ (first = false ∧ 11 < d))) (h3 : (s.drop (nextL (wsOf fw rw_ first) s)).length < d) : stepS fw rw_ first s = .inl 3 := by
  unfold stepS; rw [if_neg (by rw [h]; decide), hd, if_neg (by intro hx; apply h2; rcases hx with hx | ⟨hx, hy⟩; exact .inl (by omega); exact .inr ⟨hx, by omega⟩), Int.toNat_natCast, if_pos h3]
theorem stepS_ok {d : Nat} (h : nextE (wsOf fw rw_ first) s = 0) (hd : widS first (nextS (wsOf fw rw_ first) s) = (d : Int)) (h2 : ¬ (12 < d ∨ (first = false ∧ 11 < d))) (h3 : ¬ (s.drop (nextL (wsOf fw rw_ first) s)).length < d) :
    stepS fw rw_ first s = .inr ((nextS (wsOf fw rw_ first) s, (d : Int), (valB ((s.drop (nextL (wsOf fw rw_ first) s)).take d) : Int)), (s.drop (nextL (wsOf fw rw_ first) s)).drop d) := by
  unfold stepS; rw [if_neg (by rw [h]; decide), hd, if_neg (by intro hx; apply h2; rcases hx with hx | ⟨hx, hy⟩; exact .inl (by omega); exact .inr ⟨hx, by omega⟩), Int.toNat_natCast, if_neg h3]
end
end Go.Proofs.YtddkhkpdbjjboaaGreat
