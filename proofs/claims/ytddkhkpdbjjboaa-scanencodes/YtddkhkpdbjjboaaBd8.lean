/- Texts shared by the claims of this seat, in one. -/
import Derived.Test.YtddkhkpdbjjboaaBd7
import Derived.Test.YtddkhkpdbjjboaaBd4
import Derived.Laws.MakeOwn
import Derived.BigQuiet
import Derived.Test.YtddkhkpdbjjboaaBd2
import Derived.Test.YtddkhkpdbjjboaaBd1
import Derived.Test.YtddkhkpdbjjboaaRows
import Derived.Test.YtddkhkpdbjjboaaBd6
import Derived.Great.BuildSlice
import Derived.Laws.CopyOwn
import Derived.Test.YtddkhkpdbjjboaaBd3
import Derived.Lib.Builder
import Derived.Lib.UnsafeStr
import Derived.Lib.AppendStr
import Derived.Laws.Externs
/- seg.Encode: its contract. -/
namespace Go.Proofs.Ytddkhkpdbjjboaa
open Go.RowKit
set_option linter.unusedVariables false
set_option linter.unusedSimpArgs false
set_option maxRecDepth 100000

theorem enc_taker (fw rw_ : List (Int × Nat × Nat)) (n1 s1 n2 s2 b1 b2 f r m g B G : Nat) (hp1 : PF fw) (hp2 : PF rw_) (hf : f < g) (hr : r < g) (hb1 : b1 < g) (hb2 : b2 < g) (hgm : g < m) (hmB : m < B) (hG : G ≤ g) :
    Taker 34 #[.pointer (some ⟨r, 0, none⟩), .pointer (some ⟨f, 0, none⟩), .pointer (some ⟨m, 0, none⟩), .pointer (some ⟨g, 0, none⟩)] G (encI fw rw_ n1 s1 n2 s2 b1 b2 f r m g B) where
  enters := Enters.of Try.func34 (by kernel_rfl) (by kernel_rfl)
  foot h q hq := by
    obtain ⟨D, P, vd, vp, hW, _, _, _, _, hm, _, _, rfl⟩ := h
    rcases hq with rfl | hq
    · exact ⟨hm.lt, by omega⟩
    · have := hW.foot hq; exact ⟨this.1, by omega⟩
  keep h hb := by
    obtain ⟨D, P, vd, vp, hW, hM1, hM2, hf0, hr0, hm, h1, h2, rfl⟩ := h
    exact ⟨D, P, vd, vp, hW.below hb, hM1.below hb hM1.lt, hM2.below hb hM2.lt, hf0.below hb hf0.lt, hr0.below hb hr0.lt, hm.below hb hm.lt, h1, h2, rfl⟩
  take first t h ha hg := by
    cases first with
    | true => exact enc_true fw rw_ n1 s1 n2 s2 b1 b2 f r m g B hp1 t _ _ _ h ha hg hf hr hb1 hb2 hgm hmB
    | false => exact enc_false fw rw_ n1 s1 n2 s2 b1 b2 f r m g B hp2 t _ _ _ h ha hg hf hr hb1 hb2 hgm hmB
theorem words_pf2 {cs syms : List Int} (hcs : cs.length = 16) (h : checkErr cs syms = 0) : PF (outWords cs syms) := by
  obtain ⟨l, hf, how, hll⟩ := fine_of h
  rw [how]
  exact hf.pf hcs
/-- What Encode makes. -/
def SegOut (cs syms cs2 syms2 : List Int) (L : List (List Int)) (out : List Int) : Prop :=
  (eEnc cs syms cs2 syms2 L ≠ 0 → out = []) ∧ (eEnc cs syms cs2 syms2 L = 0 → ∃ raw, out = stuffB raw ∧ Bytes raw ∧ ∃ p, p < 8 ∧ unpack raw = segBits (outWords cs syms) (outWords cs2 syms2) (toksB 0 L) ++ List.replicate p true)
section
variable {cs syms cs2 syms2 : List Int} {L : List (List Int)}
theorem eEnc_one (h : checkErr cs syms ≠ 0) : eEnc cs syms cs2 syms2 L = checkErr cs syms := if_pos h
theorem eEnc_two (h : checkErr cs syms = 0) (h2 : checkErr cs2 syms2 ≠ 0) : eEnc cs syms cs2 syms2 L = checkErr cs2 syms2 := by unfold eEnc; rw [if_neg (by rw [h]; decide), if_pos h2]
theorem eEnc_blk (h : checkErr cs syms = 0) (h2 : checkErr cs2 syms2 = 0) (h3 : eL L ≠ 0) : eEnc cs syms cs2 syms2 L = eL L := by unfold eEnc; rw [if_neg (by rw [h]; decide), if_neg (by rw [h2]; decide), if_pos h3]
theorem eEnc_end (h : checkErr cs syms = 0) (h2 : checkErr cs2 syms2 = 0) (h3 : eL L = 0) : eEnc cs syms cs2 syms2 L = if AllW (outWords cs syms) (outWords cs2 syms2) (toksB 0 L) then 0 else 5 := by unfold eEnc; rw [if_neg (by rw [h]; decide), if_neg (by rw [h2]; decide), if_neg (by rw [h3]; decide)]
end
set_option maxRecDepth 100000 in
set_option maxHeartbeats 8000000 in
theorem segEncode_any (cs syms : List Int) (A : Option Addr) (c : Nat) (cs2 syms2 : List Int) (A2 : Option Addr) (c2 G : Nat) (L : List (List Int)) (A3 : Option Addr) (c3 : Nat) (w : World)
    (hcs : cs.length = 16) (hn : syms.length ≤ maxLen) (hb : ∀ x ∈ cs, -9223372036854775808 ≤ x ∧ x ≤ 9223372036854775807) (hs : Seen w G A (ints .i64 syms))
    (hcs2 : cs2.length = 16) (hn2 : syms2.length ≤ maxLen) (hb2 : ∀ x ∈ cs2, -9223372036854775808 ≤ x ∧ x ≤ 9223372036854775807) (hs2 : Seen w G A2 (ints .i64 syms2))
    (hl : ∀ r ∈ L, r.length = 64) (hm : L.length ≤ maxLen) (hs3 : Seen w G A3 (rowsC L)) (hG : G ≤ w.heap.size) :
    Calls Try.prog 16 #[tabsV cs A syms.length c cs2 A2 syms2.length c2, .slice A3 L.length c3] w fun e w' => ∃ v out, e = .returned (.tuple #[v, .int .i64 (eEnc cs syms cs2 syms2 L)]) ∧ Owns w.heap.size [byteRow v out] w' ∧ SegOut cs syms cs2 syms2 L out ∧ Below w.heap.size w w' := by
  have h17 : (tabCells cs A syms.length c).length = 17 := tabCells_length hcs
  have h17b : (tabCells cs2 A2 syms2.length c2).length = 17 := tabCells_length hcs2
  have HC1 := veil (fun W h hG => codewords_any cs syms A c G W hcs hn hb h hG)
  have HC2 := veil (fun W h hG => codewords_any cs2 syms2 A2 c2 G W hcs2 hn2 hb2 h hG)
  have hb0 := below1 w (.cells (tabsCells cs A syms.length c cs2 A2 syms2.length c2).toArray 27)
  have hz0 : (w.alloc (.cells (tabsCells cs A syms.length c cs2 A2 syms2.length c2).toArray 27)).heap.size = w.heap.size + 1 := by simp
  have hr := range_new w (tabsCells cs A syms.length c cs2 A2 syms2.length c2) 27
  have hr1 := range_left hr
  have hr2 := range_right hr
  rw [h17] at hr2
  have Hcs := veil hcs
  have Hcs2 := veil hcs2
  obtain ⟨E, hE⟩ : ∃ E, E = eEnc cs syms cs2 syms2 L := ⟨_, rfl⟩
  rw [← hE]
  have HSo : Hid (E ≠ 0 → SegOut cs syms cs2 syms2 L []) := fun h => ⟨fun _ => rfl, fun h2 => absurd h2 (by rw [← hE]; exact h)⟩
  have HE := veil hE
  have H17 := veil h17
  have H17b := veil h17b
  clear hr h17 h17b hcs hcs2 hb hb2 hE
  unfold tabsV
  unfold tabV at HC1 HC2
  generalize tabsCells cs A syms.length c cs2 A2 syms2.length c2 = zs at *
  generalize tabCells cs A syms.length c = xs at *
  generalize tabCells cs2 A2 syms2.length c2 = ys at *
  go_enter Try.func16, Try.ntmps16
  go_wp2_with (first
    | (refine wpList_load_mid rfl 25 (.tmp 12) rfl w.heap.size 0 rfl xs _ hr1 Try.underlying25 rfl (by rw [H17.out]; exact info_tab) ?_)
    | fail)
  refine (HC1.out _ (hs.below hb0 hG) (by rw [hz0]; omega)).mono ?_
  rintro e w1 ⟨v1, rfl, hok1, hbad1, hb1⟩
  have hr2' := range_below hr2 hb1 (by rw [hz0]; omega)
  have hbw := hb0.trans (hb1.mono (by rw [hz0]; omega))
  have hz1 := hb1.size
  rw [hz0] at hz1
  clear hr1 hr2 hb0 HC1
  by_cases h0 : checkErr cs syms = 0
  · obtain ⟨b1, rfl, hb1l, HM1⟩ := hok1 h0
    rw [h0]
    rw [hz0] at hb1l
    have H0 := veil h0
    have HM1 := veil HM1
    have hb1z := HM1.out.lt
    clear hok1 hbad1 h0 hb1
    have hba := below1 w1 (.cells #[.map (some b1)] 68)
    have hfv : Blk (w1.alloc (.cells #[.map (some b1)] 68)) w1.heap.size [.map (some b1)] 68 := Blk.new w1 [.map (some b1)] 68
    have hza : (w1.alloc (.cells #[.map (some b1)] 68)).heap.size = w1.heap.size + 1 := by simp
    have hr3 := range_below hr2' hba (by omega)
    have hbwa := hbw.trans (hba.mono hbw.size)
    have HM1a := HM1.out.below hba hb1z
    go_wp2_with (first
      | (refine wpList_load_mid rfl 25 (.tmp 21) rfl w.heap.size 17 rfl ys _ (by simpa using hr3) Try.underlying25 rfl (by rw [H17b.out]; exact info_tab) ?_)
      | fail)
    refine (HC2.out _ (hs2.below hbwa hG) (by omega)).mono ?_
    rintro e w2 ⟨v2, rfl, hok2, hbad2, hb2⟩
    have hbw2 := hbwa.trans (hb2.mono hbwa.size)
    have hz2 := hb2.size
    rw [hza] at hz2
    have HM12 := HM1a.below hb2 (by omega)
    have hfv2 := hfv.below hb2 (by omega)
    clear hr2' hr3 HC2 HM1 hba hfv hbwa HM1a
    by_cases h0b : checkErr cs2 syms2 = 0
    · obtain ⟨b2, rfl, hb2l, HM2⟩ := hok2 h0b
      rw [h0b]
      rw [hza] at hb2l
      have hb2z := HM2.lt
      have H0b := veil h0b
      have HM1 := veil HM12
      have HM2 := veil HM2
      have hfv2 := veil hfv2
      clear hok2 hbad2 h0b HM12 hb2
      obtain ⟨fw, hfw⟩ : ∃ fw, fw = outWords cs syms := ⟨_, rfl⟩
      obtain ⟨rw_, hrw⟩ : ∃ rw_, rw_ = outWords cs2 syms2 := ⟨_, rfl⟩
      have hpf1 : PF fw := by rw [hfw]; exact words_pf2 Hcs.out H0.out
      have hpf2 : PF rw_ := by rw [hrw]; exact words_pf2 Hcs2.out H0b.out
      rw [← hfw] at HM1
      rw [← hrw] at HM2
      have hb3 := below1 w2 (.cells #[.map (some b2)] 68)
      have hb4 := below1 (w2.alloc (.cells #[.map (some b2)] 68)) (.cells #[.slice none 0 0, .slice none 0 0, .int .i64 0] 73)
      have hb5 := below1 ((w2.alloc (.cells #[.map (some b2)] 68)).alloc (.cells #[.slice none 0 0, .slice none 0 0, .int .i64 0] 73)) (.cells #[.bool false] 4)
      obtain ⟨w5, hw5⟩ : ∃ w5, w5 = ((w2.alloc (.cells #[.map (some b2)] 68)).alloc (.cells #[.slice none 0 0, .slice none 0 0, .int .i64 0] 73)).alloc (.cells #[.bool false] 4) := ⟨_, rfl⟩
      have hz3 : (w2.alloc (.cells #[.map (some b2)] 68)).heap.size = w2.heap.size + 1 := by simp
      have hz4 : ((w2.alloc (.cells #[.map (some b2)] 68)).alloc (.cells #[.slice none 0 0, .slice none 0 0, .int .i64 0] 73)).heap.size = w2.heap.size + 2 := by simp
      have hr5 : Blk w5 w2.heap.size [.map (some b2)] 68 := by rw [hw5]; exact ((Blk.new w2 [.map (some b2)] 68).below hb4 (by omega)).below hb5 (by omega)
      have hg5 : Blk w5 (w2.heap.size + 1) [.slice none 0 0, .slice none 0 0, .int .i64 0] 73 := by
        have h9 := Blk.new (w2.alloc (.cells #[.map (some b2)] 68)) [.slice none 0 0, .slice none 0 0, .int .i64 0] 73
        rw [hz3] at h9
        rw [hw5]; exact h9.below hb5 (by omega)
      have hm5 : Blk w5 (w2.heap.size + 2) [.bool false] 4 := by
        have h9 := Blk.new ((w2.alloc (.cells #[.map (some b2)] 68)).alloc (.cells #[.slice none 0 0, .slice none 0 0, .int .i64 0] 73)) [.bool false] 4
        rw [hz4] at h9
        rw [hw5]; exact h9
      have hz5 : w5.heap.size = w2.heap.size + 3 := by rw [hw5]; simp
      have hb25 : Below w2.heap.size w2 w5 := by rw [hw5]; exact (hb3.trans (hb4.mono (by omega))).trans (hb5.mono (by omega))
      have hbw5 := hbw2.trans (hb25.mono hbw2.size)
      have hI : encI fw rw_ syms.length (symS fw) syms2.length (symS rw_) b1 b2 w1.heap.size w2.heap.size (w2.heap.size + 2) (w2.heap.size + 1) (w2.heap.size + 3) w5 (fun q => q = w2.heap.size + 2 ∨ wrF (w2.heap.size + 1) (.slice none 0 0) (.slice none 0 0) q) [] :=
        ⟨[], [], .slice none 0 0, .slice none 0 0, ⟨hg5, ((Owns.nil (by omega)).fresh 78 2).fresh 5 1, by omega, by intro x hx; simp at hx, by simp, by simp⟩, HM1.out.below hb25 (by omega), HM2.out.below hb25 hb2z, hfv2.out.below hb25 (by omega), hr5, by
          rw [show (!decide (AllW fw rw_ [])) = false by rw [decide_eq_true (show AllW fw rw_ [] from fun x hx => by simp at hx)]; rfl]; exact hm5, fun _ => by simp [segBits, fieldBits, unpack], by simp [fieldBits, unpack], rfl⟩
      have hTk := enc_taker fw rw_ syms.length (symS fw) syms2.length (symS rw_) b1 b2 w1.heap.size w2.heap.size (w2.heap.size + 2) (w2.heap.size + 1) (w2.heap.size + 3) w.heap.size hpf1 hpf2 (by omega) (by omega) (by omega) (by omega) (by omega) (by omega) (by omega)
      have HEa := veil (eachToken_any _ _ w.heap.size _ hTk _ L A3 c3 w5 hl hm (fun _ => (hs3.below hbw5 hG).up hG) (by omega) hI)
      have hEe : Hid (eL L ≠ 0 → E = eL L) := fun h => HE.out.trans (eEnc_blk H0.out H0b.out h)
      have hEo : Hid (eL L = 0 → E = if AllW fw rw_ (toksB 0 L) then 0 else 5) := fun h => by have := HE.out.trans (eEnc_end H0.out H0b.out h); rw [hfw, hrw]; exact this
      have hSo : Hid (∀ raw, E = 0 → Bytes raw → (∃ p, p < 8 ∧ unpack raw = segBits fw rw_ (toksB 0 L) ++ List.replicate p true) → SegOut cs syms cs2 syms2 L (stuffB raw)) := fun raw h0 h1 h2 => ⟨fun h => absurd (HE.out.symm.trans h0) h, fun _ => ⟨raw, rfl, h1, by rw [← hfw, ← hrw]; exact h2⟩⟩
      have Hhw : Hid (w.heap.size ≤ w2.heap.size) := hbw2.size
      have Hw5 := veil hw5
      have Hbw5 := veil hbw5
      have Hz5 := veil hz5
      clear hb3 hb4 hb5 hz3 hz4 hr5 hg5 hm5 hz5 hb25 hbw5 hI hTk hfw hrw hpf1 hpf2 HM1 HM2 hfv2 hs hs2 hs3 hw5
      go_upto_region 9 with fail
      rw [← Hw5.out]
      go_wp2_with fail
      refine HEa.out.mono ?_
      rintro e w6 ⟨rfl, F, acc, ⟨D, P, vd, vp, hW, _, _, _, _, hm6, hbits, hlen, rfl⟩, hOn, _, hacc⟩
      have hz6 := hOn.size
      have hbw6 : Below w.heap.size w w6 := Hbw5.out.trans (hOn.below (by have := Hz5.out; have := Hhw.out; omega) (fun q hq => by
        have := Hhw.out
        rcases hq with rfl | rfl | h | h
        · omega
        · omega
        · cases h
        · cases h))
      by_cases hE0 : eL L = 0
      · rw [hE0]
        have hac := hacc hE0
        subst hac
        have hE5 := hEo.out hE0
        have hlL : L.length ≤ 400 := (eL_zero hE0).1
        have htl0 := toksB_len L 0
        have htl : (toksB 0 L).length ≤ 25600 := by omega
        clear htl0
        have hDl : D.length ≤ 1000000 := by rw [List.length_append, unpack_length] at hlen; omega
        have cm := hm6.cell (i := 0) (v := .bool (!decide (AllW fw rw_ (toksB 0 L)))) rfl
        by_cases hAW : AllW fw rw_ (toksB 0 L)
        · rw [if_pos hAW] at hE5
          rw [decide_eq_true hAW] at cm
          have HBy := veil (bytes_any (w2.heap.size + 3) (w2.heap.size + 1) D P vd vp w6 hW hDl)
          have hb6 := hbits hAW
          have Hb6 := veil hb6
          have Hbw6 := veil hbw6
          have HE5 := veil hE5
          have hlen6 := hlen
          rw [hb6] at hlen6
          have Hlen6 := veil hlen6
          clear hOn hW hm6 hbits hlen hacc hE0 hAW hb6 hbw6 hE5 hlen6 hlL hDl
          go_wp2_with fail
          refine HBy.out.mono ?_
          rintro e w7 ⟨v7, raw, rfl, hO7, ⟨hby7, p, hp, hun⟩, hb7⟩
          have hz7 := hb7.size
          have hrl := congrArg List.length hun
          rw [Hb6.out, unpack_length, List.length_append, List.length_replicate] at hrl
          obtain ⟨A7, c7, hv7, hs7, _, _⟩ := hO7.seen (List.mem_cons_self ..)
          simp only [byteRow, intRow] at hv7 hs7
          subst hv7
          have hsl := stuffB_length_le raw
          have HSt := veil (stuff_any A7 c7 w7.heap.size raw w7 hs7 (Nat.le_refl _) (by have := Hlen6.out; omega))
          have hSO := hSo.out raw HE5.out hby7 ⟨p, hp, by rw [hun, Hb6.out]⟩
          have HSO := veil hSO
          have hbw7 := Hbw6.out.trans (hb7.mono (by have := Hhw.out; omega))
          have Hbw7 := veil hbw7
          clear hO7 hby7 hun hb7 hrl hs7 hsl hSO hbw7 HBy
          go_wp2_with fail
          refine HSt.out.mono ?_
          rintro e w8 ⟨v8, rfl, hO8, hb8⟩
          have hf8 := Hbw7.out.trans (hb8.mono Hbw7.out.size)
          have hO9 := hO8.down Hbw7.out.size
          clear hO8 hb8 HSt
          go_wp2_with fail
          go_ret2
          exact ⟨v8, stuffB raw, ret_two rfl (by rw [HE5.out]; rfl), hO9, HSO.out, hf8⟩
        · rw [if_neg hAW] at hE5
          rw [decide_eq_false hAW] at cm
          have hS := HSo.out (by rw [hE5]; decide)
          have HS := veil hS
          have HE5 := veil hE5
          clear hOn hW hm6 hbits hlen hacc hE0 hAW hE5 hS hlL hDl
          go_wp2_with fail
          go_ret2
          exact ⟨_, [], ret_two rfl (by rw [HE5.out]; rfl), (Owns.nil hbw6.size).fresh _ _, HS.out, hbw6⟩
      · have hE5 := hEe.out hE0
        have hS := HSo.out (by rw [hE5]; exact hE0)
        have hne : (eL L != 0) = true := by simpa using hE0
        have HS := veil hS
        have HE5 := veil hE5
        obtain ⟨er, her⟩ : ∃ er, er = eL L := ⟨_, rfl⟩
        rw [← her] at hne HE5 ⊢
        clear hOn hW hm6 hbits hlen hacc hE0 hE5 hS her
        go_wp2_with fail
        go_ret2
        exact ⟨_, [], ret_two rfl (by rw [HE5.out]; rfl), (Owns.nil hbw6.size).fresh _ _, HS.out, hbw6⟩
    · have hE1 := HE.out.trans (eEnc_two (L := L) H0.out h0b)
      have hS := HSo.out (by rw [hE1]; exact h0b)
      have HS := veil hS
      have HE1 := veil hE1
      have hne : (checkErr cs2 syms2 != 0) = true := by simpa using h0b
      obtain ⟨er, her⟩ : ∃ er, er = checkErr cs2 syms2 := ⟨_, rfl⟩
      have hbx := hbw2.trans ((below1 w2 (.cells #[.map none] 68)).mono hbw2.size)
      obtain rfl := hbad2 h0b
      rw [← her] at hne HE1 ⊢
      clear hE1 hS h0b her hok2
      go_wp2
      go_ret2
      exact ⟨_, [], ret_two rfl (by rw [HE1.out]; rfl), (Owns.nil hbx.size).fresh _ _, HS.out, hbx⟩
  · have hE1 := HE.out.trans (eEnc_one (cs2 := cs2) (syms2 := syms2) (L := L) h0)
    have hS := HSo.out (by rw [hE1]; exact h0)
    have HS := veil hS
    have HE1 := veil hE1
    have hne : (checkErr cs syms != 0) = true := by simpa using h0
    obtain ⟨er, her⟩ : ∃ er, er = checkErr cs syms := ⟨_, rfl⟩
    have hbx := hbw.trans ((below1 w1 (.cells #[.map none] 68)).mono hbw.size)
    obtain rfl := hbad1 h0
    rw [← her] at hne HE1 ⊢
    clear hE1 hS h0 her hok1
    go_wp2
    go_ret2
    exact ⟨_, [], ret_two rfl (by rw [HE1.out]; rfl), (Owns.nil hbx.size).fresh _ _, HS.out, hbx⟩
end Go.Proofs.Ytddkhkpdbjjboaa

/- bits.Read: its contract. -/
namespace Go.Proofs.Ytddkhkpdbjjboaa
open Go.RowKit
set_option linter.unusedVariables false
set_option linter.unusedSimpArgs false
set_option maxRecDepth 100000

/-- What Read answers of widths, so many bits left. -/
def readE (n : Int) : Int → List Int → Int
  | _, [] => 0
  | at_, x :: ws => if okW x = true then (if n - at_ < x then 3 else readE n (at_ + x) ws) else 1
def readErr (bs ws : List Int) : Int := if 20000 < ws.length then 2 else readE (8 * bs.length) 0 ws
theorem sumW_snoc (ws : List Int) (x : Int) : sumW (ws ++ [x]) = sumW ws + x := by
  induction ws with
  | nil => simp [sumW]
  | cons y ws ih => simp only [sumW, List.cons_append, List.foldr_cons] at ih ⊢; omega
theorem sumW_nonneg (ws : List Int) (h : ∀ x ∈ ws, 0 ≤ x) : 0 ≤ sumW ws := by
  induction ws with
  | nil => simp [sumW]
  | cons y ws ih =>
    have h1 := h y (by simp)
    have h2 := ih fun x hx => h x (by simp [hx])
    simp only [sumW, List.foldr_cons] at h2 ⊢; omega
theorem readB_snoc (bits : List Bool) (ws : List Int) (x : Int) (h : ∀ y ∈ ws, 0 ≤ y) : readB bits (ws ++ [x]) = readB bits ws ++ [(valB ((bits.drop (sumW ws).toNat).take x.toNat) : Int)] := by
  induction ws generalizing bits with
  | nil => simp [readB, sumW]
  | cons y ws ih =>
    have h1 := h y (by simp)
    have h2 := sumW_nonneg ws fun z hz => h z (by simp [hz])
    rw [List.cons_append, readB, ih _ (fun z hz => h z (by simp [hz])), readB, List.cons_append]
    have e : (sumW (y :: ws)).toNat = y.toNat + (sumW ws).toNat := by
      simp only [sumW, List.foldr_cons] at h2 ⊢; omega
    rw [List.drop_drop, e]

structure RInv (w : World) (bs ws : List Int) (k : Nat) (v : Value) (at_ : Nat) (wr : World) : Prop where
  sum : sumW (ws.take k) = at_
  at_le : at_ ≤ 8 * bs.length
  pos : ∀ x ∈ ws.take k, 0 ≤ x
  err : readE (8 * bs.length) 0 ws = readE (8 * bs.length) at_ (ws.drop k)
  own : wr.ownsRow w.heap.size 3 1 v (readB (unpack bs) (ws.take k)).length (ints .i64 (readB (unpack bs) (ws.take k)))
  bel : Below w.heap.size w wr

theorem drop_at {ws : List Int} {k : Nat} {x : Int} (h : ws[k]? = some x) : ws.drop k = x :: ws.drop (k + 1) := by
  obtain ⟨hk, rfl⟩ := List.getElem?_eq_some_iff.1 h
  exact List.drop_eq_getElem_cons hk
section
variable {w wr : World} {bs ws : List Int} {k at_ : Nat} {v : Value}
theorem RInv.done (h : RInv w bs ws ws.length v at_ wr) (hbig : ¬ 20000 < ws.length) : readErr bs ws = 0 := by
  unfold readErr; rw [if_neg hbig, h.err, List.drop_length]; rfl
theorem RInv.step (h : RInv w bs ws k v at_ wr) {X : Nat} (hx : ws[k]? = some (X : Int)) (hok : okW (X : Int) = true) (hs : ¬ 8 * (bs.length : Int) - at_ < X) {v' : Value} {w' : World}
    (hown : w'.ownsRow w.heap.size 3 1 v' (readB (unpack bs) (ws.take k) ++ [(valB (cutB bs at_ X) : Int)]).length (ints .i64 (readB (unpack bs) (ws.take k) ++ [(valB (cutB bs at_ X) : Int)]))) (hb : Below w.heap.size wr w') :
    RInv w bs ws (k + 1) v' (at_ + X) w' := by
  have ht := take_snoc hx
  refine ⟨?_, by omega, ?_, ?_, ?_, h.bel.trans hb⟩
  · rw [ht, sumW_snoc, h.sum]; simp
  · intro y hy
    rw [ht] at hy
    rcases List.mem_append.1 hy with hy | hy
    · exact h.pos y hy
    · simp at hy; omega
  · rw [h.err, drop_at hx, readE, if_pos hok, if_neg hs]; simp
  · rw [ht, readB_snoc _ _ _ h.pos, h.sum, Int.toNat_natCast, Int.toNat_natCast]
    exact hown
end

end Go.Proofs.Ytddkhkpdbjjboaa

/- seg's bit reader: take, its contract. -/
namespace Go.Proofs.Ytddkhkpdbjjboaa
open Go.RowKit
set_option linter.unusedVariables false
set_option linter.unusedSimpArgs false
set_option maxRecDepth 100000

/-- Block g is a reader that stands at bit at_ of these bytes. -/
structure Rd (A : Option Addr) (c G g : Nat) (bs : List Int) (m1 m2 : Value) (at_ : Nat) (w : World) : Prop where
  blk : Blk w g [.slice A bs.length c, .int .i64 (at_ : Int), m1, m2] 110
  seen : Seen w G A (ints .u8 bs)
  cap : bs.length ≤ c
  max : c ≤ maxLen
  few : bs.length ≤ 140737488355328
  le : at_ ≤ 8 * bs.length
  low : G ≤ g
theorem Rd.below {A : Option Addr} {c G g B : Nat} {bs : List Int} {m1 m2 : Value} {at_ : Nat} {w w' : World} (h : Rd A c G g bs m1 m2 at_ w) (hb : Below B w w') (hg : g < B) : Rd A c G g bs m1 m2 at_ w' :=
  ⟨h.blk.below hb hg, h.seen.below hb (by have := h.low; omega), h.cap, h.max, h.few, h.le, h.low⟩
theorem Rd.kept {A : Option Addr} {c G g b : Nat} {bs : List Int} {m1 m2 : Value} {at_ : Nat} {w w' : World} (h : Rd A c G g bs m1 m2 at_ w) (hb : w.grownBy w' (some b)) (hg : g ≠ b) (hG : G ≤ b) : Rd A c G g bs m1 m2 at_ w' :=
  ⟨h.blk.kept hb (by simpa using hg), h.seen.grown hb hG (by have := h.blk.lt; have := h.low; omega), h.cap, h.max, h.few, h.le, h.low⟩
end Go.Proofs.Ytddkhkpdbjjboaa

/- seg's token reader: symbol, its contract. -/
namespace Go.Proofs.Ytddkhkpdbjjboaa
open Go.RowKit
set_option linter.unusedVariables false
set_option linter.unusedSimpArgs false
set_option maxRecDepth 100000

theorem MapC.kept {w w' : World} {b n g : Nat} {f : Int × Int → Option Int} (h : MapC w b n f) (hg : w.grownBy w' (some g)) (hn : b ≠ g) : MapC w' b n f := by
  have hlt := h.lt
  obtain ⟨D, ⟨es, clock, h1, h2⟩, h3⟩ := h
  exact ⟨D, ⟨es, clock, by rw [hg.block b hlt (by simpa using hn)]; exact h1, h2⟩, h3⟩
end Go.Proofs.Ytddkhkpdbjjboaa

/- What a source of tokens does when it is called. No program is named here. -/
namespace Go.Proofs.Ytddkhkpdbjjboaa
open Go.RowKit
set_option linter.unusedVariables false
set_option linter.unusedSimpArgs false
set_option maxRecDepth 100000

end Go.Proofs.Ytddkhkpdbjjboaa

/- Rows of numbers. -/
namespace Go.Proofs.Ytddkhkpdbjjboaa
open Go.RowKit

theorem elem_int : ElemOf Try.prog 23 3 1 8 := .mk' (z := .int .i64 0) Try.underlying23 (by kernel_rfl) rfl (by omega)
end Go.Proofs.Ytddkhkpdbjjboaa

/- table.Decode: its contract. -/
namespace Go.Proofs.Ytddkhkpdbjjboaa
open Go.RowKit
set_option linter.unusedVariables false
set_option linter.unusedSimpArgs false
set_option maxRecDepth 100000

/-- n symbols off a row of bits: the error, the symbols ahead of it, the bits they take. -/
def dec (ws : List (Int × Nat × Nat)) : Nat → List Bool → Int × List Int × Nat
  | 0, _ => (0, [], 0)
  | n + 1, b => if (find1 ws b).isSome = true then let r := dec ws n (b.drop (nextL ws b)); (r.1, nextS ws b :: r.2.1, nextL ws b + r.2.2) else (nextE ws b, [], 0)
theorem dec_hit {ws : List (Int × Nat × Nat)} {b : List Bool} (h : nextE ws b = 0) (n : Nat) : dec ws (n + 1) b = ((dec ws n (b.drop (nextL ws b))).1, nextS ws b :: (dec ws n (b.drop (nextL ws b))).2.1, nextL ws b + (dec ws n (b.drop (nextL ws b))).2.2) := by
  unfold nextE at h
  split at h
  · rename_i h1
    rw [dec, if_pos h1]
  · split at h <;> cases h
/-- What has been read, and what is to come. -/
def DInv (ws : List (Int × Nat × Nat)) (n : Nat) (b : List Bool) (k at_ : Nat) (acc : List Int) : Prop :=
  (dec ws n b).1 = (dec ws (n - k) (b.drop at_)).1 ∧ (dec ws n b).2.1 = acc ++ (dec ws (n - k) (b.drop at_)).2.1 ∧ (dec ws n b).2.2 = at_ + (dec ws (n - k) (b.drop at_)).2.2
theorem DInv.start (ws : List (Int × Nat × Nat)) (n : Nat) (b : List Bool) : DInv ws n b 0 0 [] := by simp [DInv]
theorem DInv.next {ws : List (Int × Nat × Nat)} {n : Nat} {b : List Bool} {k at_ : Nat} {acc : List Int} (h : DInv ws n b k at_ acc) (hk : k < n) (he : nextE ws (b.drop at_) = 0) :
    DInv ws n b (k + 1) (at_ + nextL ws (b.drop at_)) (acc ++ [nextS ws (b.drop at_)]) := by
  unfold DInv at h ⊢
  rw [show n - k = (n - (k + 1)) + 1 by omega, dec_hit he, List.drop_drop] at h
  refine ⟨h.1, by rw [h.2.1]; simp, by rw [h.2.2]; simp only []; omega⟩
theorem DInv.done {ws : List (Int × Nat × Nat)} {n : Nat} {b : List Bool} {at_ : Nat} {acc : List Int} (h : DInv ws n b n at_ acc) : dec ws n b = (0, acc, at_) := by
  unfold DInv at h
  simp only [Nat.sub_self, dec, List.append_nil, Nat.add_zero] at h
  exact Prod.ext h.1 (Prod.ext h.2.1 h.2.2)
end Go.Proofs.Ytddkhkpdbjjboaa

/- seg's token reader: token, firstToken, restToken, their contracts. -/
namespace Go.Proofs.Ytddkhkpdbjjboaa
open Go.RowKit
set_option linter.unusedVariables false
set_option linter.unusedSimpArgs false
set_option maxRecDepth 100000

/-- The reader of tokens stands before these bits. -/
def TR (A : Option Addr) (c G g : Nat) (bs : List Int) (b1 n1 : Nat) (fw : List (Int × Nat × Nat)) (b2 n2 : Nat) (rw_ : List (Int × Nat × Nat)) (w : World) (s : List Bool) : Prop :=
  ∃ at_, Rd A c G g bs (.map (some b1)) (.map (some b2)) at_ w ∧ MapC w b1 n1 (codeF fw) ∧ MapC w b2 n2 (codeF rw_) ∧ b1 ≠ g ∧ b2 ≠ g ∧ s = (unpack bs).drop at_
theorem TR.below {A : Option Addr} {c G g B : Nat} {bs : List Int} {b1 n1 : Nat} {fw : List (Int × Nat × Nat)} {b2 n2 : Nat} {rw_ : List (Int × Nat × Nat)} {w w' : World} {s : List Bool} (h : TR A c G g bs b1 n1 fw b2 n2 rw_ w s) (hb : Below B w w') (hB : w.heap.size ≤ B) : TR A c G g bs b1 n1 fw b2 n2 rw_ w' s := by
  obtain ⟨at_, h1, h2, h3, h4, h5, h6⟩ := h
  exact ⟨at_, h1.below hb (by have := h1.blk.lt; omega), h2.below hb (by have := h2.lt; omega), h3.below hb (by have := h3.lt; omega), h4, h5, h6⟩
theorem TR.kept {A : Option Addr} {c G g b : Nat} {bs : List Int} {b1 n1 : Nat} {fw : List (Int × Nat × Nat)} {b2 n2 : Nat} {rw_ : List (Int × Nat × Nat)} {w w' : World} {s : List Bool} (h : TR A c G g bs b1 n1 fw b2 n2 rw_ w s) (hb : w.grownBy w' (some b)) (hg : g < b) (h1b : b1 ≠ b) (h2b : b2 ≠ b) : TR A c G g bs b1 n1 fw b2 n2 rw_ w' s := by
  obtain ⟨at_, h1, h2, h3, h4, h5, h6⟩ := h
  exact ⟨at_, h1.kept hb (by omega) (by have := h1.low; omega), h2.kept hb h1b, h3.kept hb h2b, h4, h5, h6⟩
section
variable {fw rw_ : List (Int × Nat × Nat)} {first : Bool} {s : List Bool}
end
end Go.Proofs.Ytddkhkpdbjjboaa

/- seg's token reader: firstToken, its contract. -/
namespace Go.Proofs.Ytddkhkpdbjjboaa
open Go.RowKit
set_option linter.unusedVariables false
set_option linter.unusedSimpArgs false
set_option maxRecDepth 100000

end Go.Proofs.Ytddkhkpdbjjboaa

/- seg's token reader: restToken, its contract. -/
namespace Go.Proofs.Ytddkhkpdbjjboaa
open Go.RowKit
set_option linter.unusedVariables false
set_option linter.unusedSimpArgs false
set_option maxRecDepth 100000

end Go.Proofs.Ytddkhkpdbjjboaa

/- A block read token by token, each looked at by Block before the next one is read: it comes to the reader over the source. No program is named here. -/
namespace Go.Proofs.Ytddkhkpdbjjboaa
set_option linter.unusedVariables false
set_option linter.unusedSimpArgs false
set_option maxRecDepth 100000

theorem decQ_shape : ∀ (l : List (Int × Int × Int)) (k : Nat), (decQ k l).1 ≠ 0 → decQ k l = ((decQ k l).1, [], 0)
  | l, 0, h => by rw [decQ_zero] at h; exact absurd rfl h
  | [], k + 1, _ => rfl
  | t :: l, k + 1, h => by
    rw [decQ] at h ⊢
    by_cases h1 : okQ t = true
    · rw [if_pos h1] at h ⊢
      by_cases h2 : t.1 = 0
      · rw [if_pos h2] at h; exact absurd rfl h
      · rw [if_neg h2] at h ⊢
        by_cases h3 : k + 1 < farT t
        · rw [if_pos h3]
        · rw [if_neg h3] at h ⊢
          simp only [] at h ⊢
          by_cases h4 : (decQ (k + 1 - farT t) l).1 = 0
          · rw [if_pos h4] at h; exact absurd rfl h
          · rw [if_neg h4]
    · rw [if_neg h1]
/-- These tokens tell pre, and k numbers are left to tell. -/
structure RunQ (k0 : Nat) (l : List (Int × Int × Int)) (pre : List Int) (k : Nat) : Prop where
  pos : 0 < k
  few : l.length + k ≤ k0
  eq : ∀ m, decQ k0 (l ++ m) = joinQ pre l.length (decQ k m)
theorem RunQ.start {k : Nat} (h : 0 < k) : RunQ k [] [] k where
  pos := h
  few := by simp
  eq m := by
    rw [List.nil_append]
    unfold joinQ
    by_cases h0 : (decQ k m).1 = 0
    · rw [if_pos h0, List.nil_append, List.length_nil, Nat.zero_add, ← h0]
    · rw [if_neg h0]; exact decQ_shape m k h0
theorem RunQ.next {k0 : Nat} {l : List (Int × Int × Int)} {pre : List Int} {k : Nat} (h : RunQ k0 l pre k) {t : Int × Int × Int} (ht : okQ t = true) (h0 : t.1 ≠ 0) (hf : farT t < k) :
    RunQ k0 (l ++ [t]) (pre ++ (List.replicate (farT t - 1) 0 ++ [numT t])) (k - farT t) where
  pos := by omega
  few := by have := h.few; have : 0 < farT t := by unfold farT; omega
            simp only [List.length_append, List.length_singleton]; omega
  eq m := by
    rw [List.append_assoc, List.singleton_append, h.eq, joinQ_next _ _ ht h0 (by omega), List.length_append, List.length_singleton]
section
variable {σ : Type} (step : Bool → σ → Int ⊕ ((Int × Int × Int) × σ))
/-- Where a reading stands: the tokens so far, and the source behind them. -/
def SBInv (before : Int) (D : Int × List Int × List (Int × Int × Int) × Option σ) (toks : List (Int × Int × Int)) (s : σ) : Prop :=
  (toks = [] ∧ D = gB step before s) ∨ (∃ t0 tl pre k, toks = t0 :: tl ∧ firstT before t0 ∧ RunQ 63 tl pre k ∧ D = finG before (joinG ((before + numT t0) :: pre) toks (gR step k s)))
variable {step}
theorem SBInv.few {before : Int} {D : Int × List Int × List (Int × Int × Int) × Option σ} {toks : List (Int × Int × Int)} {s : σ} (h : SBInv step before D toks s) : toks.length ≤ 63 := by
  rcases h with ⟨rfl, _⟩ | ⟨t0, tl, pre, k, rfl, _, h, _⟩
  · simp
  · have := h.few; have := h.pos; simp only [List.length_cons]; omega
theorem SBInv.err {before : Int} {D : Int × List Int × List (Int × Int × Int) × Option σ} {toks : List (Int × Int × Int)} {s : σ} (h : SBInv step before D toks s) {er : Int} (hs : step toks.isEmpty s = .inl er) (hne : er ≠ 0) : D = (er, [], [], none) := by
  rcases h with ⟨rfl, hD⟩ | ⟨t0, tl, pre, k, rfl, _, h, hD⟩
  · rw [hD, gB_none hs]
  · rw [hD, joinG_none _ _ h.pos hne hs]; unfold finG; rw [if_neg hne]
end
end Go.Proofs.Ytddkhkpdbjjboaa

/- seg's token reader: block, its contract. -/
namespace Go.Proofs.Ytddkhkpdbjjboaa
open Go.RowKit
set_option linter.unusedVariables false
set_option linter.unusedSimpArgs false
set_option maxRecDepth 100000

section
variable {A : Option Addr} {c G g B : Nat} {bs : List Int} {b1 n1 : Nat} {fw : List (Int × Nat × Nat)} {b2 n2 : Nat} {rw_ : List (Int × Nat × Nat)} {w w' : World} {s : List Bool}
theorem TR.lt (h : TR A c G g bs b1 n1 fw b2 n2 rw_ w s) : g < w.heap.size ∧ b1 < w.heap.size ∧ b2 < w.heap.size := by
  obtain ⟨at_, h1, h2, h3, _⟩ := h
  exact ⟨h1.blk.lt, h2.lt, h3.lt⟩
end
end Go.Proofs.Ytddkhkpdbjjboaa

/- seg's bit reader: onlyFillLeft, its contract. -/
namespace Go.Proofs.Ytddkhkpdbjjboaa
open Go.RowKit
set_option linter.unusedVariables false
set_option linter.unusedSimpArgs false
set_option maxRecDepth 100000

end Go.Proofs.Ytddkhkpdbjjboaa

/- Blocks in a row: made, built, appended. -/
namespace Go.Proofs.Ytddkhkpdbjjboaa
open Go.RowKit
set_option linter.unusedVariables false
set_option linter.unusedSimpArgs false
set_option maxRecDepth 100000

end Go.Proofs.Ytddkhkpdbjjboaa

/- table.Symbols: its contract. -/
namespace Go.Proofs.Ytddkhkpdbjjboaa
open Go.RowKit
set_option linter.unusedVariables false
set_option linter.unusedSimpArgs false
set_option maxRecDepth 100000

end Go.Proofs.Ytddkhkpdbjjboaa

/- seg.Decode: its contract. -/
namespace Go.Proofs.Ytddkhkpdbjjboaa
open Go.RowKit
set_option linter.unusedVariables false
set_option linter.unusedSimpArgs false
set_option maxRecDepth 100000

section
variable {cs syms cs2 syms2 bs : List Int} {n : Int}
end
end Go.Proofs.Ytddkhkpdbjjboaa

/- Segments in numbers: what Encode, Decode and Mend of scan answer. -/
namespace Go.Proofs.Ytddkhkpdbjjboaa
set_option linter.unusedVariables false
set_option linter.unusedSimpArgs false
set_option maxRecDepth 100000

/-- Bits as bytes, the last one filled with ones. -/
def packB (b : List Bool) : List Int :=
  if h : b = [] then [] else (valB (b.take 8 ++ List.replicate (8 - (b.take 8).length) true) : Int) :: packB (b.drop 8)
termination_by b.length
decreasing_by
  have : 0 < b.length := List.length_pos_iff.2 h
  rw [List.length_drop]; omega
theorem packB_nil : packB [] = [] := by rw [packB, dif_pos rfl]
theorem packB_cons {b : List Bool} (h : b ≠ []) : packB b = (valB (b.take 8 ++ List.replicate (8 - (b.take 8).length) true) : Int) :: packB (b.drop 8) := by rw [packB, dif_neg h]
theorem packB_bytes (b : List Bool) : Bytes (packB b) := by
  have : ∀ n (b : List Bool), b.length = n → Bytes (packB b) := by
    intro n
    induction n using Nat.strongRecOn with
    | _ n ih =>
      intro b hb
      by_cases h : b = []
      · subst h; rw [packB_nil]; intro x hx; simp at hx
      · rw [packB_cons h]
        intro x hx
        rcases List.mem_cons.1 hx with rfl | hx
        · have h1 := valB_lt (b.take 8 ++ List.replicate (8 - (b.take 8).length) true)
          have h2 : (b.take 8 ++ List.replicate (8 - (b.take 8).length) true).length = 8 := by
            have : (b.take 8).length ≤ 8 := by rw [List.length_take]; omega
            rw [List.length_append, List.length_replicate]; omega
          rw [h2] at h1
          omega
        · have : 0 < b.length := List.length_pos_iff.2 h
          exact ih (b.drop 8).length (by rw [List.length_drop]; omega) _ rfl x hx
  exact this _ b rfl
theorem unpack_packB (b : List Bool) : ∃ p, p < 8 ∧ unpack (packB b) = b ++ List.replicate p true := by
  have : ∀ n (b : List Bool), b.length = n → ∃ p, p < 8 ∧ unpack (packB b) = b ++ List.replicate p true := by
    intro n
    induction n using Nat.strongRecOn with
    | _ n ih =>
      intro b hb
      by_cases h : b = []
      · subst h; rw [packB_nil]; exact ⟨0, by omega, rfl⟩
      · have hp : 0 < b.length := List.length_pos_iff.2 h
        obtain ⟨p, hp8, hu⟩ := ih (b.drop 8).length (by rw [List.length_drop]; omega) _ rfl
        have h2 : (b.take 8 ++ List.replicate (8 - (b.take 8).length) true).length = 8 := by
          have : (b.take 8).length ≤ 8 := by rw [List.length_take]; omega
          rw [List.length_append, List.length_replicate]; omega
        have h3 := bitsN_valB (b.take 8 ++ List.replicate (8 - (b.take 8).length) true)
        rw [h2] at h3
        rw [packB_cons h, unpack_cons, Int.toNat_natCast, h3, hu]
        by_cases hl : 8 ≤ b.length
        · refine ⟨p, hp8, ?_⟩
          rw [show 8 - (b.take 8).length = 0 by rw [List.length_take]; omega, List.replicate_zero, List.append_nil, ← List.append_assoc, List.take_append_drop]
        · have hd : b.drop 8 = [] := List.drop_of_length_le (by omega)
          have ht : b.take 8 = b := List.take_of_length_le (by omega)
          rw [hd, packB_nil] at hu
          have hp0 : p = 0 := by have := congrArg List.length hu; simpa [unpack_nil] using this.symm
          subst hp0
          refine ⟨8 - b.length, by omega, ?_⟩
          rw [hd, ht]; simp
  exact this _ b rfl
section
variable (cs syms cs2 syms2 : List Int)
/-- A segment's bytes. -/
def segF (L : List (List Int)) : List Int := if eEnc cs syms cs2 syms2 L = 0 then stuffB (packB (segBits (outWords cs syms) (outWords cs2 syms2) (toksB 0 L))) else []
theorem segOut_is {L : List (List Int)} {out : List Int} (h : SegOut cs syms cs2 syms2 L out) : out = segF cs syms cs2 syms2 L := by
  unfold segF
  by_cases h0 : eEnc cs syms cs2 syms2 L = 0
  · rw [if_pos h0]
    obtain ⟨raw, rfl, hb, p, hp, hu⟩ := h.2 h0
    obtain ⟨q, hq, hv⟩ := unpack_packB (segBits (outWords cs syms) (outWords cs2 syms2) (toksB 0 L))
    have h1 := congrArg List.length hu
    have h2 := congrArg List.length hv
    rw [unpack_length, List.length_append, List.length_replicate] at h1 h2
    have : p = q := by omega
    subst this
    rw [unpack_inj hb (packB_bytes _) (hu.trans hv.symm)]
  · rw [if_neg h0]; exact h.1 h0
/-- Segments with the marks between them. -/
def joinM : Nat → List (List Int) → List Int
  | _, [] => []
  | k, o :: os => (if k = 0 then ([] : List Int) else ([255, 208 + (((k + 7) % 8 : Nat) : Int)] : List Int)) ++ o ++ joinM (k + 1) os
theorem joinM_snoc : ∀ (os : List (List Int)) (k : Nat) (o : List Int), joinM k (os ++ [o]) = joinM k os ++ ((if k + os.length = 0 then [] else ([255, 208 + (((k + os.length + 7) % 8 : Nat) : Int)] : List Int)) ++ o)
  | [], k, o => by simp [joinM]
  | a :: os, k, o => by
    rw [List.cons_append, joinM, joinM_snoc os (k + 1) o, joinM, List.length_cons, show k + 1 + os.length = k + (os.length + 1) by omega]
    simp
def segs (L : List (List Int)) (every : Int) : List (List (List Int)) := segsOf (partsN L.length every.toNat) L
/-- Encode's error and bytes. -/
def eScan (L : List (List Int)) (every : Int) : Int :=
  if every < 0 ∨ 100 < every then 1 else if eTs cs syms cs2 syms2 ≠ 0 then eTs cs syms cs2 syms2 else if eL L ≠ 0 then eL L else firstE ((segs L every).map (eEnc cs syms cs2 syms2))
def oScan (L : List (List Int)) (every : Int) : List Int := if eScan cs syms cs2 syms2 L every = 0 then joinM 0 ((segs L every).map (segF cs syms cs2 syms2)) else []
end
end Go.Proofs.Ytddkhkpdbjjboaa

/- How long tokens are as bits; what tokens blocks have. -/
namespace Go.Proofs.Ytddkhkpdbjjboaa
open Go.RowKit
set_option linter.unusedVariables false
set_option linter.unusedSimpArgs false
set_option maxRecDepth 100000

theorem tokBits_len {ws : List (Int × Nat × Nat)} (hpf : PF ws) {t : Int × Int × Int} (hg : goodT t) : (tokBits ws t).length ≤ 28 := by
  unfold tokBits symBits
  rw [List.length_append, bitsN_length, bitsN_length]
  have h1 := (goodT_fit hg).1
  have h2 : (((symF ws t.1).getD (0, 0)).1).toNat ≤ 16 := by
    cases hq : symF ws t.1 with
    | none => simp
    | some p => obtain ⟨p1, p2⟩ := p; exact sym_short hpf hq
  omega
theorem segBits_len {fw rw_ : List (Int × Nat × Nat)} (h1 : PF fw) (h2 : PF rw_) : ∀ (l : List (Bool × Int × Int × Int)), (∀ x ∈ l, goodT x.2) → (segBits fw rw_ l).length ≤ 28 * l.length
  | [], _ => by simp [segBits]
  | x :: l, h => by
    have ih := segBits_len h1 h2 l fun y hy => h y (by simp [hy])
    have hx := h x (by simp)
    have h3 : (tokBits (wsOf fw rw_ x.1) x.2).length ≤ 28 := by
      unfold wsOf; split
      · exact tokBits_len h1 hx
      · exact tokBits_len h2 hx
    have e : segBits fw rw_ (x :: l) = tokBits (wsOf fw rw_ x.1) x.2 ++ segBits fw rw_ l := by simp [segBits]
    rw [e, List.length_append, List.length_cons]; omega
theorem flag_good : ∀ {l : List (Int × Int × Int)}, (∀ t ∈ l, goodT t) → ∀ x ∈ flagT l, goodT x.2
  | [], _, x, hx => by simp [flagT] at hx
  | t :: l, h, x, hx => by
    rcases List.mem_cons.1 hx with rfl | hx
    · exact h t (by simp)
    · obtain ⟨y, hy, rfl⟩ := List.mem_map.1 hx
      exact h y (by simp [hy])
theorem toksB_good : ∀ (L : List (List Int)) (b : Int), (∀ r ∈ L, r.length = 64) → (∀ r ∈ L, inB (-2047) 2047 r = true) → (-2047 ≤ b ∧ b ≤ 2047) → ∀ x ∈ toksB b L, goodT x.2
  | [], b, _, _, _, x, hx => by simp [toksB] at hx
  | r :: L, b, hl, hin, hb, x, hx => by
    have h1 := hl r (by simp)
    have h2 := hin r (by simp)
    rw [toksB] at hx
    rcases List.mem_append.1 hx with hx | hx
    · exact flag_good (toks_good hb (toL_in h1 h2)) x hx
    · refine toksB_good L _ (fun y hy => hl y (by simp [hy])) (fun y hy => hin y (by simp [hy])) ?_ x hx
      match r, h1, h2 with
      | z :: r, _, h2 => exact inB_mem.1 h2 z (by simp)
theorem eTs_one' {cs syms cs2 syms2 : List Int} (h : checkErr cs syms ≠ 0) : eTs cs syms cs2 syms2 = checkErr cs syms := if_neg h
theorem eTs_two' {cs syms cs2 syms2 : List Int} (h : checkErr cs syms = 0) : eTs cs syms cs2 syms2 = checkErr cs2 syms2 := if_pos h
end Go.Proofs.Ytddkhkpdbjjboaa

/- What Encode makes: no marks, and not too long. -/
namespace Go.Proofs.Ytddkhkpdbjjboaa
open Go.RowKit
set_option linter.unusedVariables false
set_option linter.unusedSimpArgs false
set_option maxRecDepth 100000

theorem eEnc_none {cs syms cs2 syms2 : List Int} {L : List (List Int)} (h : eEnc cs syms cs2 syms2 L = 0) : checkErr cs syms = 0 ∧ checkErr cs2 syms2 = 0 ∧ eL L = 0 := by
  by_cases h1 : checkErr cs syms = 0
  · by_cases h2 : checkErr cs2 syms2 = 0
    · by_cases h3 : eL L = 0
      · exact ⟨h1, h2, h3⟩
      · rw [eEnc_blk h1 h2 h3] at h; exact absurd h h3
    · rw [eEnc_two h1 h2] at h; exact absurd h h2
  · rw [eEnc_one h1] at h; exact absurd h h1
end Go.Proofs.Ytddkhkpdbjjboaa

/- Segments encoded, in numbers: errors and lengths. -/
namespace Go.Proofs.Ytddkhkpdbjjboaa
open Go.RowKit
set_option linter.unusedVariables false
set_option linter.unusedSimpArgs false
set_option maxRecDepth 100000

section
variable {cs syms cs2 syms2 : List Int} {L : List (List Int)} {every : Int}
theorem eScan_every (h : every < 0 ∨ 100 < every) : eScan cs syms cs2 syms2 L every = 1 := if_pos h
theorem eScan_tab (h : ¬ (every < 0 ∨ 100 < every)) (h2 : eTs cs syms cs2 syms2 ≠ 0) : eScan cs syms cs2 syms2 L every = eTs cs syms cs2 syms2 := by unfold eScan; rw [if_neg h, if_pos h2]
theorem eScan_blk (h : ¬ (every < 0 ∨ 100 < every)) (h2 : eTs cs syms cs2 syms2 = 0) (h3 : eL L ≠ 0) : eScan cs syms cs2 syms2 L every = eL L := by unfold eScan; rw [if_neg h, if_neg (by rw [h2]; decide), if_pos h3]
theorem eScan_seg (h : ¬ (every < 0 ∨ 100 < every)) (h2 : eTs cs syms cs2 syms2 = 0) (h3 : eL L = 0) : eScan cs syms cs2 syms2 L every = firstE ((segs L every).map (eEnc cs syms cs2 syms2)) := by unfold eScan; rw [if_neg h, if_neg (by rw [h2]; decide), if_neg (by rw [h3]; decide)]
theorem oScan_err (h : eScan cs syms cs2 syms2 L every ≠ 0) : oScan cs syms cs2 syms2 L every = [] := if_neg h
theorem segF_len (hcs : cs.length = 16) (hcs2 : cs2.length = 16) (hl : ∀ r ∈ L, r.length = 64) : (segF cs syms cs2 syms2 L).length ≤ 250002 := by
  unfold segF
  by_cases h0 : eEnc cs syms cs2 syms2 L = 0
  · rw [if_pos h0]
    obtain ⟨h1, h2, h3⟩ := eEnc_none h0
    obtain ⟨h400, hin⟩ := eL_zero h3
    have h5 := segBits_len (words_pf2 hcs h1) (words_pf2 hcs2 h2) (toksB 0 L) (toksB_good L 0 hl hin (by omega))
    have h6 := toksB_len L 0
    obtain ⟨p, hp, hu⟩ := unpack_packB (segBits (outWords cs syms) (outWords cs2 syms2) (toksB 0 L))
    have h7 := congrArg List.length hu
    rw [unpack_length, List.length_append, List.length_replicate] at h7
    have h8 := stuffB_length_le (packB (segBits (outWords cs syms) (outWords cs2 syms2) (toksB 0 L)))
    omega
  · rw [if_neg h0]; simp
end
theorem u8_208 (q : Nat) (h : q < 8) : IntKind.u8.wrap (208 + (q : Int)) = 208 + (q : Int) := by
  have : q = 0 ∨ q = 1 ∨ q = 2 ∨ q = 3 ∨ q = 4 ∨ q = 5 ∨ q = 6 ∨ q = 7 := by omega
  rcases this with rfl | rfl | rfl | rfl | rfl | rfl | rfl | rfl <;> rfl
theorem seen_second {w : World} {B : Nat} {r : Row} {A : Option Addr} {c : Nat} {xs : List Int} (h : Owns B [r, byteRow (.slice A xs.length c) xs] w) : Seen w w.heap.size A (ints .u8 xs) := by
  obtain ⟨A2, c2, e, hs, _, _⟩ := h.seen (List.mem_cons_of_mem _ (List.mem_cons_self ..))
  have e' : (Value.slice A xs.length c) = .slice A2 xs.length c2 := e
  obtain ⟨rfl, rfl⟩ : A = A2 ∧ c = c2 := by simpa using e'
  exact hs
end Go.Proofs.Ytddkhkpdbjjboaa

/- Blocks out of bits: the bits of their tokens are what was read. -/
namespace Go.Proofs.Ytddkhkpdbjjboaa
set_option linter.unusedVariables false
set_option linter.unusedSimpArgs false
set_option maxRecDepth 100000

end Go.Proofs.Ytddkhkpdbjjboaa

/- Segments decoded, in numbers: pieces, marks, errors. -/
namespace Go.Proofs.Ytddkhkpdbjjboaa
set_option linter.unusedVariables false
set_option linter.unusedSimpArgs false
set_option maxRecDepth 100000

section
variable {cs syms cs2 syms2 bs : List Int} {n every : Int}
end
end Go.Proofs.Ytddkhkpdbjjboaa

/- What Decode and Mend ask first, in numbers. -/
namespace Go.Proofs.Ytddkhkpdbjjboaa
open Go.RowKit
set_option linter.unusedVariables false
set_option linter.unusedSimpArgs false
set_option maxRecDepth 100000

section
variable {cs syms cs2 syms2 bs : List Int} {n every : Int}
end
section
variable (cs syms cs2 syms2 bs : List Int) (n every : Int)
end
end Go.Proofs.Ytddkhkpdbjjboaa

/- copy of blocks into a block of memory that is known. -/
namespace Go.Proofs.Ytddkhkpdbjjboaa
open Go.RowKit
set_option linter.unusedVariables false
set_option linter.unusedSimpArgs false
set_option maxRecDepth 100000

end Go.Proofs.Ytddkhkpdbjjboaa

/- Mend in numbers, step by step; blocks of zeros made. -/
namespace Go.Proofs.Ytddkhkpdbjjboaa
open Go.RowKit
set_option linter.unusedVariables false
set_option linter.unusedSimpArgs false
set_option maxRecDepth 100000

section
variable {cs syms cs2 syms2 : List Int} {ps : List (List Int)} {ns : List Nat} {k m : Nat}
end
end Go.Proofs.Ytddkhkpdbjjboaa

/- Rows of blocks written in place; what Mend answers where it refuses. -/
namespace Go.Proofs.Ytddkhkpdbjjboaa
open Go.RowKit
set_option linter.unusedVariables false
set_option linter.unusedSimpArgs false
set_option maxRecDepth 100000

section
variable {cs syms cs2 syms2 bs : List Int} {n every : Int}
end
end Go.Proofs.Ytddkhkpdbjjboaa

/- What scan's Encode, Decode and Mend are to do, as the laws use it. -/
namespace Go.Proofs.Ytddkhkpdbjjboaa
open Go.RowKit
set_option linter.unusedVariables false
set_option linter.unusedSimpArgs false
set_option maxRecDepth 100000

/-- Two tables in memory. -/
structure TabsIn (cs syms : List Int) (A : Option Addr) (c : Nat) (cs2 syms2 : List Int) (A2 : Option Addr) (c2 G : Nat) (w : World) : Prop where
  len : cs.length = 16
  max : syms.length ≤ maxLen
  cap : syms.length ≤ c
  bnd : ∀ x ∈ cs, -9223372036854775808 ≤ x ∧ x ≤ 9223372036854775807
  see : Seen w G A (ints .i64 syms)
  len2 : cs2.length = 16
  max2 : syms2.length ≤ maxLen
  cap2 : syms2.length ≤ c2
  bnd2 : ∀ x ∈ cs2, -9223372036854775808 ≤ x ∧ x ≤ 9223372036854775807
  see2 : Seen w G A2 (ints .i64 syms2)
theorem TabsIn.below {cs syms : List Int} {A : Option Addr} {c : Nat} {cs2 syms2 : List Int} {A2 : Option Addr} {c2 G B : Nat} {w w' : World} (h : TabsIn cs syms A c cs2 syms2 A2 c2 G w) (hb : Below B w w') (hG : G ≤ B) : TabsIn cs syms A c cs2 syms2 A2 c2 G w' :=
  ⟨h.len, h.max, h.cap, h.bnd, h.see.below hb hG, h.len2, h.max2, h.cap2, h.bnd2, h.see2.below hb hG⟩
theorem TabsIn.up {cs syms : List Int} {A : Option Addr} {c : Nat} {cs2 syms2 : List Int} {A2 : Option Addr} {c2 G G' : Nat} {w : World} (h : TabsIn cs syms A c cs2 syms2 A2 c2 G w) (hG : G ≤ G') : TabsIn cs syms A c cs2 syms2 A2 c2 G' w :=
  ⟨h.len, h.max, h.cap, h.bnd, h.see.up hG, h.len2, h.max2, h.cap2, h.bnd2, h.see2.up hG⟩
/-- scan.Encode's contract. -/
def EncSpec : Prop := ∀ (cs syms : List Int) (A : Option Addr) (c : Nat) (cs2 syms2 : List Int) (A2 : Option Addr) (c2 G : Nat) (L : List (List Int)) (A3 : Option Addr) (c3 : Nat) (every : Int) (w : World),
  TabsIn cs syms A c cs2 syms2 A2 c2 G w → (∀ r ∈ L, r.length = 64) → L.length ≤ maxLen → L.length ≤ c3 → Seen w G A3 (rowsC L) → G ≤ w.heap.size →
    Calls Try.prog 6 #[tabsV cs A syms.length c cs2 A2 syms2.length c2, .slice A3 L.length c3, .int .i64 every] w fun e w' => ∃ v, e = .returned (.tuple #[v, .int .i64 (eScan cs syms cs2 syms2 L every)]) ∧ Owns w.heap.size [byteRow v (oScan cs syms cs2 syms2 L every)] w' ∧ Below w.heap.size w w'
/-- Encode of no blocks in segments that may not be. -/
theorem encNeg_any (HS : EncSpec) {cs syms : List Int} {A : Option Addr} {c : Nat} {cs2 syms2 : List Int} {A2 : Option Addr} {c2 G : Nat} {w : World} (hT : TabsIn cs syms A c cs2 syms2 A2 c2 G w) (hG : G ≤ w.heap.size) :
    Calls Try.prog 6 #[tabsV cs A syms.length c cs2 A2 syms2.length c2, .slice none 0 0, .int .i64 (-1)] w fun e w' => ∃ A2 n2 c2, e = .returned (.tuple #[.slice A2 n2 c2, .int .i64 1]) ∧ Below w.heap.size w w' := by
  refine (HS cs syms A c cs2 syms2 A2 c2 G [] none 0 (-1) w hT (by intro r hr; cases hr) (by unfold maxLen; decide) (by simp) (.inl rfl) hG).mono ?_
  rintro e w' ⟨v, rfl, HO, hb⟩
  obtain ⟨A2, c2, hv, _⟩ := HO.seen (List.mem_cons_self ..)
  rw [eScan_every (by omega)]
  exact ⟨A2, _, c2, by rw [show v = _ from hv], hb⟩
theorem tabs34 {cs syms : List Int} {A : Option Addr} {c : Nat} {cs2 syms2 : List Int} {A2 : Option Addr} {c2 : Nat} (h : cs.length = 16) (h2 : cs2.length = 16) : (tabsCells cs A syms.length c cs2 A2 syms2.length c2).length = 34 := by unfold tabsCells; rw [List.length_append, tabCells_length h, tabCells_length h2]
end Go.Proofs.Ytddkhkpdbjjboaa

/- The reference's parts, where all is one part. -/
namespace Go.Proofs.Ytddkhkpdbjjboaa
open Go.RowKit
set_option linter.unusedVariables false
set_option linter.unusedSimpArgs false
set_option maxRecDepth 100000

theorem parts0_any (n : Nat) (w : World) : Calls Try.prog 25 #[.int .i64 (n : Int), .int .i64 0] w fun e w' => ∃ v, e = .returned v ∧ Owns w.heap.size [intRow 3 .i64 v ([n].map Int.ofNat)] w' ∧ Below w.heap.size w w' := by
  have ho : Owns w.heap.size [intRow 3 .i64 (.slice (some ⟨w.heap.size, 0, none⟩) 1 1) ([n].map Int.ofNat)] (w.alloc (.cells #[.int .i64 (n : Int)] 3)) :=
    ⟨by simp, fun r hr => by
      rw [List.mem_singleton.1 hr]
      exact ⟨rfl, .inr ⟨w.heap.size, 1, _, rfl, Nat.le_refl _, heap_alloc_new w _, Nat.le_refl _, by unfold maxLen; decide, rfl, rfl⟩⟩, List.pairwise_singleton _ _⟩
  have Ho := veil ho
  clear ho
  go_enter Try.func25, Try.ntmps25
  go_wp2
  go_ret
  exact ⟨_, rfl, Ho.out, below1 w _⟩
end Go.Proofs.Ytddkhkpdbjjboaa

/- The reference's parts: its contract. -/
namespace Go.Proofs.Ytddkhkpdbjjboaa
open Go.RowKit
set_option linter.unusedVariables false
set_option linter.unusedSimpArgs false
set_option maxRecDepth 100000

theorem parts_one (n : Nat) (w : World) : Owns w.heap.size [intRow 3 .i64 (.slice (some ⟨w.heap.size, 0, none⟩) 1 1) ([n].map Int.ofNat)] (w.alloc (.cells #[.int .i64 (n : Int)] 3)) :=
  ⟨by simp, fun r hr => by
    rw [List.mem_singleton.1 hr]
    exact ⟨rfl, .inr ⟨w.heap.size, 1, _, rfl, Nat.le_refl _, heap_alloc_new w _, Nat.le_refl _, by unfold maxLen; decide, rfl, rfl⟩⟩, List.pairwise_singleton _ _⟩
set_option maxHeartbeats 1000000 in
theorem parts_any (n E : Nat) (w : World) (hn : n ≤ 100000) (hE : E ≤ 1000000) : Calls Try.prog 25 #[.int .i64 (n : Int), .int .i64 (E : Int)] w fun e w' => ∃ v, e = .returned v ∧ Owns w.heap.size [intRow 3 .i64 v ((partsN n E).map Int.ofNat)] w' ∧ Below w.heap.size w w' := by
  by_cases h0 : E = 0
  · subst h0
    have e : partsN n 0 = [n] := by unfold partsN; rw [if_pos (.inl rfl)]
    rw [e]
    exact parts0_any n w
  · by_cases hn0 : n = 0
    · subst hn0
      have e : partsN 0 E = [0] := by unfold partsN; rw [if_pos (.inr rfl)]
      rw [e]
      have Ho := veil (parts_one 0 w)
      have hE0 : ((E : Int) == 0) = false := by simp; omega
      go_enter Try.func25, Try.ntmps25
      go_wp2
      go_ret
      exact ⟨_, rfl, Ho.out, below1 w _⟩
    · have e : partsN n E = chunk E n := by unfold partsN; rw [if_neg (by omega)]
      rw [e]
      have hE0 : ((E : Int) == 0) = false := by simp; omega
      have hn1 : ((n : Int) == 0) = false := by simp; omega
      have HC0 : Hid (chunk E n = [] ++ chunk E n) := rfl
      have hst := Owns.start w
      clear e
      go_enter Try.func25, Try.ntmps25
      go_wp2_with fail
      go_loopg [0, 5] (n + 1) (fun gk mv v wr => ∃ (m : Nat) (acc : List Nat), gk = m + 1 ∧ m ≤ n ∧ mv = .int .i64 (m : Int) ∧ acc.length + m ≤ n ∧ Hid (chunk E n = acc ++ chunk E m) ∧ Owns w.heap.size [intRow 3 .i64 v (acc.map Int.ofNat)] wr ∧ Below w.heap.size w wr)
      case atStart => exact ⟨n, [], rfl, Nat.le_refl _, rfl, by simp, HC0, hst.fresh _ _, Below.refl _ _⟩
      case round =>
        clear HC0 hst
        obtain ⟨m, acc, rfl, hm, rfl, hal, HC, HO, hbel⟩ := hrel
        by_cases hm0 : m = 0
        · subst hm0
          have hc : chunk E n = acc := by rw [HC.out, chunk_zero, List.append_nil]
          have Hc := veil hc
          clear hc
          go_wp2_with fail
          go_ret
          exact ⟨_, rfl, by rw [Hc.out]; exact HO, hbel⟩
        · have hmz : (0 : Int) < (m : Int) := by omega
          have hc := chunk_pos (e := E) (n := m) h0 hm0
          have hl1 : (acc.map Int.ofNat).length = acc.length := by simp
          rcases Nat.lt_or_ge E m with hlt | hge
          · have hltz : (E : Int) < (m : Int) := by omega
            rw [Nat.min_eq_right (by omega)] at hc
            have HC2 : Hid (chunk E n = (acc ++ [E]) ++ chunk E (m - E)) := by show _ = _; rw [HC.out, hc]; simp
            have hmi : min (m : Int) (E : Int) = (E : Int) := by omega
            clear hc
            go_wp2_with (first
              | (at_builtin; go_loud (refine wpList_ownI _ rfl (.tmp 16) (.tmp 20) _ rfl w.heap.size 3 .i64 8 elem_int u5 (acc.map Int.ofNat) [] rfl HO [(E : Int)] rfl (by rw [hl1]; unfold maxLen; simp; omega) (by rw [hl1]; simp; omega) ?_); intro v4 w4 HO4 hb4 hz4)
              | fail)
            all_goals (go_roundg (m - E + 1))
            all_goals first
              | (case rel => exact ⟨m - E, acc ++ [E], rfl, by omega, by go_num, by simp; omega, HC2, by rw [List.map_append]; exact HO4, hbel.trans hb4⟩)
              | (case measure => omega)
              | omega
          · rw [Nat.min_eq_left hge, show m - E = 0 by omega] at hc
            have HC2 : Hid (chunk E n = (acc ++ [m]) ++ chunk E 0) := by show _ = _; rw [HC.out, hc]; simp
            have hmi : min (m : Int) (E : Int) = (m : Int) := by omega
            have hgez : (m : Int) ≤ (E : Int) := by omega
            clear hc
            go_wp2_with (first
              | (at_builtin; go_loud (refine wpList_ownI _ rfl (.tmp 16) (.tmp 20) _ rfl w.heap.size 3 .i64 8 elem_int u5 (acc.map Int.ofNat) [] rfl HO [(m : Int)] rfl (by rw [hl1]; unfold maxLen; simp; omega) (by rw [hl1]; simp; omega) ?_); intro v4 w4 HO4 hb4 hz4)
              | fail)
            all_goals (go_roundg 1)
            all_goals first
              | (case rel => exact ⟨0, acc ++ [m], rfl, by omega, by go_num, by simp; omega, HC2, by rw [List.map_append]; exact HO4, hbel.trans hb4⟩)
              | (case measure => omega)
              | omega
end Go.Proofs.Ytddkhkpdbjjboaa

/- The reference's BlocksCheck: its contract. -/
namespace Go.Proofs.Ytddkhkpdbjjboaa
open Go.RowKit
set_option linter.unusedVariables false
set_option linter.unusedSimpArgs false
set_option maxRecDepth 100000

set_option maxHeartbeats 2000000 in
set_option maxRecDepth 100000 in
theorem blocksCheck_any (L : List (List Int)) (A : Option Addr) (c G : Nat) (w : World) (hl : ∀ r ∈ L, r.length = 64) (hm : L.length ≤ maxLen) (hs : Seen w G A (rowsC L)) (hG : G ≤ w.heap.size) :
    Calls Try.prog 24 #[.slice A L.length c] w fun e w' => e = .returned (.int .i64 (eL L)) ∧ Below w.heap.size w w' := by
  unfold maxLen at hm
  obtain ⟨E, hE⟩ : ∃ E, E = eL L := ⟨_, rfl⟩
  rw [← hE]
  by_cases hbig : 400 < L.length
  · have hbz : (400 : Int) < (L.length : Int) := by omega
    rw [eL_large hbig] at hE
    subst hE
    go_enter Try.func24, Try.ntmps24
    go_wp2
    go_ret
    exact ⟨rfl, Below.refl _ _⟩
  · have hbz : ¬ (400 : Int) < (L.length : Int) := by omega
    have HE := veil hE
    have Hbig := veil hbig
    have HW : Hid (∀ r ∈ L, ∀ W, Calls Try.prog 41 #[blkV r, .int .i64 (-2047), .int .i64 2047] W fun e w' => e = .returned (.bool (inB (-2047) 2047 r)) ∧ Below W.heap.size W w') := fun r hr W => bwithin_any r (-2047) 2047 W (hl r hr)
    clear hE hbig
    unfold blkV at HW
    go_enter Try.func24, Try.ntmps24
    go_wp2_with fail
    go_loopg [10] L.length (fun gk iv wr => ∃ k : Nat, gk = L.length - k ∧ k ≤ L.length ∧ iv = .int .i64 (k : Int) ∧ Hid (∀ r ∈ L.take k, inB (-2047) 2047 r = true) ∧ Below w.heap.size w wr)
    case atStart => exact ⟨0, rfl, Nat.zero_le _, rfl, veil (by simp), Below.refl _ _⟩
    case round =>
      obtain ⟨k, rfl, hk, rfl, HI, hb⟩ := hrel
      by_cases hlt : k < L.length
      · have hltz : (k : Int) < (L.length : Int) := by omega
        obtain ⟨g, o, r, rfl, hg, hr, hrl, hrange⟩ := hs.row hl (by omega) hlt
        have hrg := range_below hrange hb (by omega)
        have hmem := List.mem_of_getElem? hr
        have HC := veil (HW.out r hmem)
        have Hl : Hid ((ints .i64 r).length = 64) := by show _ = _; rw [ints_length, hrl]
        have hone := ints_one (k := .i64) (l := r)
        have hr2 := range_new wr (ints .i64 r) 42
        have hb2 := hb.alloc hb.size (.cells (ints .i64 r).toArray 42)
        have HIn : Hid (inB (-2047) 2047 r = true → ∀ x ∈ L.take (k + 1), inB (-2047) 2047 x = true) := fun h x hx => by
          rw [take_snoc hr] at hx
          rcases List.mem_append.1 hx with hx | hx
          · exact HI.out x hx
          · rw [List.mem_singleton.1 hx]; exact h
        have Hr := veil hr
        clear hrange hr hmem
        generalize hys : ints .i64 r = ys at *
        clear hys
        go_wp2_with (first
          | (refine wpList_load_mid rfl 42 (.tmp 12) rfl g (o + k * 64) rfl ys _ hrg Try.underlying42 rfl (info_blkn Hl.out) ?_)
          | (refine wpList_store_new wr rfl 42 (.tmp 4) (.tmp 13) rfl zeroB.toArray ys rfl rfl (info_blkn Hl.out) (by rw [Hl.out]; rfl) hone ?_)
          | (refine wpList_load_mid rfl 42 (.tmp 4) rfl wr.heap.size 0 rfl ys _ hr2 Try.underlying42 rfl (info_blkn Hl.out) ?_)
          | fail)
        refine (HC.out _).mono ?_
        rintro e w2 ⟨rfl, hb3⟩
        have hb4 := hb2.trans (hb3.mono hb2.size)
        clear hrg hr2 hb2 hb3 HC
        cases hin : inB (-2047) 2047 r with
        | true =>
          have HI2 := veil (HIn.out hin)
          clear hin HIn HI
          go_wp2_with fail
          go_roundg (L.length - (k + 1))
          case rel => exact ⟨k + 1, rfl, by omega, by go_num, HI2, hb4⟩
          case measure => omega
        | false =>
          have h5 := eL_bad Hbig.out Hr.out hin
          rw [← HE.out] at h5
          subst h5
          clear hin HIn HI
          go_wp2
          go_ret
          exact ⟨rfl, hb4⟩
      · obtain rfl : k = L.length := by omega
        have h5 := eL_ok Hbig.out (fun r hr => HI.out r (by rw [List.take_of_length_le (Nat.le_refl _)]; exact hr))
        rw [← HE.out] at h5
        subst h5
        go_wp2
        go_ret
        exact ⟨rfl, hb⟩
end Go.Proofs.Ytddkhkpdbjjboaa

/- strings.Builder, over digits: what the reference writes into one and takes out of it. -/
namespace Go.Proofs.Ytddkhkpdbjjboaa
open Go.RowKit
set_option linter.unusedVariables false
set_option linter.unusedSimpArgs false
set_option maxRecDepth 100000

/-- A builder of the call's own, in block b, that holds these digits. -/
def Bld (B b : Nat) (l : List Bool) (w : World) : Prop :=
  ∃ p v, (p = .pointer none ∨ p = .pointer (some ⟨b, 0, none⟩)) ∧ B ≤ b ∧ w.heap[b]? = some (.cells #[p, v] 88 (0, 0)) ∧
    w.ownsRow B 5 1 v l.length (Lib.strCells (txt l)) ∧ v.ownBlock ≠ some b ∧ (l = [] → v = .slice none 0 0)

theorem bld_new (w : World) : Bld w.heap.size w.heap.size [] (w.alloc (.cells #[.pointer none, .slice none 0 0] 88)) :=
  ⟨_, _, .inl rfl, Nat.le_refl _, heap_alloc_new w _, World.ownsRow_nil _ _ _ _, by simp [Value.ownBlock], fun _ => rfl⟩
theorem Bld.lt {B b : Nat} {l : List Bool} {w : World} (h : Bld B b l w) : b < w.heap.size := by
  obtain ⟨p, v, _, _, hb, _⟩ := h
  rcases Nat.lt_or_ge b w.heap.size with h' | h'
  · exact h'
  · rw [Array.getElem?_eq_none h'] at hb; cases hb
theorem Bld.below {B b : Nat} {l : List Bool} {w w' : World} (h : Bld B b l w) (hb : Below w.heap.size w w') : Bld B b l w' := by
  have hlt := h.lt
  obtain ⟨p, v, hp, hB, hh, hown, hne, h0⟩ := h
  exact ⟨p, v, hp, hB, by rw [hb.block b hlt]; exact hh, own_below hown hb, hne, h0⟩

theorem info_bld : (Try.prog.info? 88).map (fun i => i.size) = some 2 := by kernel_rfl
theorem lies_bld : liesAt Try.prog Try.prog.depth 88 (2 / Try.prog.cellsOf 88) 0 88 1 = true := by kernel_rfl

set_option maxHeartbeats 1000000 in
theorem copyCheck_used (b : Nat) (w : World) (h0 : w.cell? ⟨b, 0, none⟩ = some (.pointer (some ⟨b, 0, none⟩))) :
    Calls Try.prog 70 #[.pointer (some ⟨b, 0, none⟩)] w fun e w' => e = .returned (.tuple #[]) ∧ w = w' := by
  obtain ⟨j, hj, _⟩ := Option.map_eq_some_iff.1 info_bld
  go_enter Try.func70, Try.ntmps70
  go_wp2
  rw [Lib.run_neq_ptr_same w _ Try.underlying86 hj]
  go_wp2
  go_end0
  exact ⟨rfl, rfl⟩

set_option maxHeartbeats 1000000 in
theorem copyCheck_fresh (b : Nat) (w : World) (h0 : w.cell? ⟨b, 0, none⟩ = some (.pointer none)) (hsh : w.shape? b = some (88, 2)) (hfz : w.frozen? ⟨b, 0, none⟩ = false) :
    Calls Try.prog 70 #[.pointer (some ⟨b, 0, none⟩)] w fun e w' => e = .returned (.tuple #[]) ∧ w.setCell ⟨b, 0, none⟩ (.pointer (some ⟨b, 0, none⟩)) = w' := by
  obtain ⟨j, hj, hjs⟩ := Option.map_eq_some_iff.1 info_bld
  go_enter Try.func70, Try.ntmps70
  go_wp2
  rw [Lib.run_to_unsafe w ⟨b, 0, none⟩ Try.underlying86 Try.underlying163 hj (by rw [hjs]; decide) hsh (Nat.zero_lt_succ 1)]
  simp only [Result.andThen]
  rw [Oper.upon_value]
  go_wp2
  rw [run_callFunc_extern Try.func92 (by kernel_rfl) (by kernel_rfl) (by kernel_rfl) (e := Extern.AbiNoEscape.same) (by kernel_rfl)]
  rw [Lib.run_noEscape]
  simp only [Result.andThen]
  rw [Oper.upon_value]
  go_wp2
  rw [Lib.run_from_unsafe w ⟨b, 0, none⟩ Try.underlying163 Try.underlying86 hj hsh lies_bld]
  simp only [Result.andThen]
  rw [Oper.upon_value]
  go_wp2
  go_end0
  exact ⟨rfl, rfl⟩

theorem strCells_append (a b : List Bool) : Lib.strCells (txt a) ++ Lib.strCells (txt b) = Lib.strCells (txt (a ++ b)) := by
  rw [← txt_append]; simp [Lib.strCells]

set_option maxHeartbeats 2000000 in
theorem string_any (B b : Nat) (l : List Bool) (w : World) (h : Bld B b l w) :
    Calls Try.prog 48 #[.pointer (some ⟨b, 0, none⟩)] w fun e w' => e = .returned (.string (txt l)) ∧ Below B w w' := by
  obtain ⟨p, v, hp, hB, hbk, hown, hne, hnil⟩ := h
  by_cases h0 : l = []
  · obtain rfl := hnil h0
    subst h0
    have hUS := fun (W : World) (q : Option Addr) => Lib.run_unsafeString_none (P := Try.prog) W 136 3 9 q
    have c1 : w.drew.cell? ⟨b, 1, none⟩ = some (.slice none 0 0) := by
      have : w.drew.heap[b]? = some (.cells #[p, .slice none 0 0] 88 (0, 0)) := hbk
      rw [Lib.cell_of_heap this]; rfl
    have hSD : (Builtin.unsafeSliceData_ #[29] 136 #[.slice none 0 0]).run Try.prog w.drew = .ok (.pointer none) w.drew := rfl
    go_enter Try.func48, Try.ntmps48
    go_wp2
    go_region
    all_goals (go_wp2; go_ret; exact ⟨rfl, Below.drew (Below.refl B w)⟩)
  · have hl0 : l.length ≠ 0 := by simpa using h0
    obtain ⟨g, cap, cur, rfl, hbg, hg, hnc, hcm, hcs, htake⟩ : ∃ g cap cur, v = .slice (some ⟨g, 0, none⟩) l.length cap ∧ B ≤ g ∧ w.heap[g]? = some (.cells cur 5 (0, 0)) ∧ l.length ≤ cap ∧ cap ≤ maxLen ∧ cur.size = cap * 1 ∧ cur.toList.take (l.length * 1) = Lib.strCells (txt l) := by
      rcases hown.2 with ⟨_, hz⟩ | ⟨g, cap, cur, hv, r⟩
      · exact absurd hz hl0
      · exact ⟨g, cap, cur, hv, r⟩
    have c1 : w.drew.cell? ⟨b, 1, none⟩ = some (.slice (some ⟨g, 0, none⟩) l.length cap) := by
      have : w.drew.heap[b]? = some (.cells #[p, .slice (some ⟨g, 0, none⟩) l.length cap] 88 (0, 0)) := hbk
      rw [Lib.cell_of_heap this]; rfl
    have hSD : (Builtin.unsafeSliceData_ #[29] 136 #[.slice (some ⟨g, 0, none⟩) l.length cap]).run Try.prog w.drew = .ok (.pointer (some ⟨g, 0, none⟩)) w.drew :=
      Lib.run_unsafeSliceData_row _ _ _ _ _ _ (by omega)
    have hdl : (dig l).length = l.length := by simp [dig]
    have hUS : (Builtin.unsafeString_ #[136, 3] 9 #[.pointer (some ⟨g, 0, none⟩), .int .i64 l.length]).run Try.prog w.drew = .ok (.string (txt l)) (w.drew.freeze ⟨g, 0, none⟩ l.length) := by
      have hr := Lib.run_unsafeString_row (P := Try.prog) w.drew 136 3 9 5 Try.underlying136 (by kernel_rfl) g cur.size (by have hg' : w.drew.heap[g]? = some (.cells cur 5 (0, 0)) := hg; simp [World.shape?, hg']) (dig l) (by simpa [dig] using h0) (by omega) (by unfold maxLen at hcm; omega) (by
        intro j x hx
        exact hown.cells (g := g) rfl j (.int .u8 x.toNat) (by simp [Lib.strCells, txt, hx]))
      rw [hdl] at hr
      exact hr
    clear htake hcs
    go_enter Try.func48, Try.ntmps48
    go_wp2
    go_region
    all_goals (go_wp2; go_ret; exact ⟨rfl, Lib.below_freeze (Below.drew (Below.refl B w)) (p := ⟨g, 0, none⟩) hbg _⟩)
end Go.Proofs.Ytddkhkpdbjjboaa
