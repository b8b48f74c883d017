/- The reference's token and Tokens: their contracts. -/
import Derived.Test.YtemckjkdlbipcaaTokMem
import Derived.Test.YtemckjkdlbipcaaRefSize
import Derived.Test.YtemckjkdlbipcaaRefQ
import Derived.Test.YtemckjkdlbipcaaRefZigTo
import Derived.Test.YtemckjkdlbipcaaRunBase
namespace Go.Proofs.Ytemckjkdlbipcaa
open Go.RowKit
set_option linter.unusedVariables false
set_option linter.unusedSimpArgs false
set_option maxRecDepth 100000

set_option maxHeartbeats 1000000 in
theorem token_any (r : Nat) (n : Int) (w : World) (hr : r ≤ 15) (h1 : -4095 ≤ n) (h2 : n ≤ 4095) :
    Calls Try.prog 24 #[.int .i64 (r : Int), .int .i64 n] w fun e w' => e = .returned (tokV (tkN r n)) ∧ Below w.heap.size w w' := by
  have H1 := veil (fun W => refBits_ok n W h1 h2)
  have hs := sz_12 h1 h2
  unfold tkN tokV
  generalize szZ n = s at *
  generalize vbZ n = v at *
  go_enter Try.func24, Try.ntmps24
  go_wp2_with fail
  refine (H1.out _).mono ?_
  rintro e w1 ⟨rfl, rfl⟩
  go_wp2_with fail
  exact bodyPost_ret (v := .agg #[.int .i64 (16 * (r : Int) + (s : Int)), .int .i64 (s : Int), .int .i64 v]) (results_cell_row rfl _ _ w.heap.size 30 #[.int .i64 (16 * (r : Int) + (s : Int)), .int .i64 (s : Int), .int .i64 v] (0, 0) _ rfl (Blk.new w [.int .i64 (16 * (r : Int) + (s : Int)), .int .i64 (s : Int), .int .i64 v] 30) Try.underlying30 rfl (by kernel_rfl)) rfl ⟨rfl, below1 _ _⟩
/-- The list of one token just laid. -/
theorem own_lit {w : World} {B : Nat} (hB : B ≤ w.heap.size) (f0 f1 f2 : Int) : Owns B [tokRow (.slice (some ⟨w.heap.size, 0, none⟩) 1 1) [(f0, f1, f2)]] (w.alloc (.cells #[.int .i64 f0, .int .i64 f1, .int .i64 f2] 30)) :=
  .one (by simp; omega) (World.ownsRow_lit w #[.int .i64 f0, .int .i64 f1, .int .i64 f2] 1 hB (by unfold maxLen; omega) rfl)
theorem refTokens_bad1 (b : Int) (cs : List Int) (w : World) (hc : cs.length = 64) (hb : b < -2047 ∨ 2047 < b) :
    Calls Try.prog 12 #[.int .i64 b, blkV cs] w fun e w' => ∃ v, e = .returned (.tuple #[v, .int .i64 1]) ∧ Owns w.heap.size [tokRow v []] w' ∧ Below w.heap.size w w' := by
  have HO := veil (fun W => out_yes b (-2047) 2047 hb W)
  unfold blkV
  generalize ints .i64 cs = xs at *
  clear hb
  go_enter Try.func12, Try.ntmps12
  go_wp2_with fail
  refine (HO.out _).mono ?_
  rintro e w1 ⟨rfl, rfl⟩
  go_wp2
  go_ret2
  exact ⟨_, rfl, (Owns.nil (by simp)).fresh _ _, below1 _ _⟩
theorem refTokens_bad2 (b : Int) (cs : List Int) (w : World) (hc : cs.length = 64) (hb : -2047 ≤ b ∧ b ≤ 2047) (hin : inB (-2047) 2047 cs = false) :
    Calls Try.prog 12 #[.int .i64 b, blkV cs] w fun e w' => ∃ v, e = .returned (.tuple #[v, .int .i64 1]) ∧ Owns w.heap.size [tokRow v []] w' ∧ Below w.heap.size w w' := by
  have HO := veil (fun W => out_no b (-2047) 2047 hb W)
  have HI := veil (fun W => bwithin_any cs (-2047) 2047 W hc)
  rw [hin] at HI
  have Hl : Hid ((ints .i64 cs).length = 64) := by show _ = _; rw [ints_length, hc]
  have hr := range_new w (ints .i64 cs) 23
  have hb0 := below1 w (.cells (ints .i64 cs).toArray 23)
  unfold blkV at *
  generalize ints .i64 cs = xs at *
  clear hin
  go_enter Try.func12, Try.ntmps12
  go_wp2_with fail
  refine (HO.out _).mono ?_
  rintro e w1 ⟨rfl, rfl⟩
  go_wp2_with (first
    | (refine wpList_load_long rfl 23 (.tmp 3) rfl w.heap.size 0 rfl xs _ hr Try.underlying23 rfl (info_blkn Hl.out) ?_)
    | fail)
  refine (HI.out _).mono ?_
  rintro e w2 ⟨rfl, hb2⟩
  have hf := hb0.trans (hb2.mono (by simp))
  clear hr hb0 hb2
  go_wp2
  go_ret2
  exact ⟨_, rfl, (Owns.nil hf.size).fresh _ _, hf⟩
set_option maxHeartbeats 4000000 in
set_option maxRecDepth 100000 in
theorem refTokens_ok (b : Int) (cs : List Int) (w : World) (hc : cs.length = 64) (hb : -2047 ≤ b ∧ b ≤ 2047) (hin : inB (-2047) 2047 cs = true) :
    Calls Try.prog 12 #[.int .i64 b, blkV cs] w fun e w' => ∃ v, e = .returned (.tuple #[v, .int .i64 0]) ∧ Owns w.heap.size [tokRow v (toksZ b (toL cs))] w' ∧ Below w.heap.size w w' := by
  have HO := veil (fun W => out_no b (-2047) 2047 hb W)
  have HI := veil (fun W => bwithin_any cs (-2047) 2047 W hc)
  rw [hin] at HI
  have HZ := veil (fun W => refTo_any cs W hc)
  have hZl := toL_length cs
  have HZin := veil (toL_in hc hin)
  have Hlen := veil (toks_len b hZl)
  generalize toL cs = Z at *
  have Hl : Hid ((ints .i64 cs).length = 64) := by show _ = _; rw [ints_length, hc]
  have HlZ : Hid ((ints .i64 Z).length = 64) := by show _ = _; rw [ints_length, hZl]
  have honeZ := ints_one (k := .i64) (l := Z)
  have hr := range_new w (ints .i64 cs) 23
  have hb0 := below1 w (.cells (ints .i64 cs).toArray 23)
  obtain ⟨z0, hz0⟩ := some_at (xs := Z) (j := 0) (by omega)
  have hz0b := HZin.out z0 (List.mem_of_getElem? hz0)
  have HT0 := veil (fun W => token_any 0 (z0 - b) W (by omega) (by omega) (by omega))
  have HS : Hid (toksZ b Z = [tkN 0 (z0 - b)] ++ restT 0 (Z.drop 1)) := by
    show _ = _
    match Z, hz0 with
    | z :: zs, h => simp at h; subst h; rfl
  unfold blkV at *
  generalize ints .i64 cs = xs at *
  clear hin hc
  generalize toksZ b Z = T at *
  go_enter Try.func12, Try.ntmps12
  go_wp2_with fail
  refine (HO.out _).mono ?_
  rintro e w1 ⟨rfl, rfl⟩
  go_wp2_with (first
    | (refine wpList_load_long rfl 23 (.tmp 3) rfl w.heap.size 0 rfl xs _ hr Try.underlying23 rfl (info_blkn Hl.out) ?_)
    | fail)
  refine (HI.out _).mono ?_
  rintro e w2 ⟨rfl, hb2⟩
  have hf := hb0.trans (hb2.mono (by simp))
  have hr2 := range_below hr hb2 (by simp)
  clear hr hb0 hb2 HO HI
  go_wp2_with (first
    | (refine wpList_load_mid rfl 23 (.tmp 3) rfl w.heap.size 0 rfl xs _ hr2 Try.underlying23 rfl (info_blkn Hl.out) ?_)
    | fail)
  refine (HZ.out _).mono ?_
  rintro e w3 ⟨rfl, hb3⟩
  have hf3 := hf.trans (hb3.mono hf.size)
  clear hr2 hf hb3 HZ
  have HBz := Blk.new w3 (ints .i64 Z) 23
  have hb4 := hf3.alloc hf3.size (.cells (ints .i64 Z).toArray 23)
  have hc0 := HBz.cell (ints_at hz0)
  have hsz4 : (w3.alloc (.cells (ints .i64 Z).toArray 23)).heap.size = w3.heap.size + 1 := by simp
  obtain ⟨ys, hys⟩ : ∃ ys, ys = ints .i64 Z := ⟨_, rfl⟩
  rw [← hys] at HBz hb4 hc0 hsz4 HlZ honeZ ⊢
  have HY := veil hys; clear hys
  go_wp2_with (first
    | (refine wpList_store_new w3 rfl 23 (.tmp 6) (.tmp 19) rfl zeroB.toArray ys rfl rfl (info_blkn HlZ.out) (by rw [HlZ.out]; rfl) honeZ ?_)
    | fail)
  refine (HT0.out _).mono ?_
  rintro e w5 ⟨rfl, hb5⟩
  have HBz5 := HBz.below hb5 (by rw [hsz4]; omega)
  rw [hsz4] at hb5
  have hz5 := hb5.size
  rw [hsz4] at hz5
  have hf5 : Below w.heap.size w w5 := hb4.trans (hb5.mono (by have := hf3.size; omega))
  clear hc0 HBz hb4 hb5 hsz4 HT0
  have HTK : Hid (∀ (r : Nat) (x : Int) (W : World), r ≤ 15 → -2047 ≤ x → x ≤ 2047 → _) := fun r x W h1 h2 h3 => token_any r x W h1 (by omega) (by omega)
  obtain ⟨⟨p0, p1, p2⟩, hp⟩ : ∃ t, t = tkN 0 (z0 - b) := ⟨_, rfl⟩
  rw [← hp] at HS ⊢
  clear hp
  simp only [tokV]
  have HO5 := own_lit (w := w5) (B := w5.heap.size) (Nat.le_refl _) p0 p1 p2
  have hb6 := below1 w5 (.cells #[.int .i64 p0, .int .i64 p1, .int .i64 p2] 30)
  go_wp2_with fail
  go_loopg [7, 8, 9] 63 (fun gk v lv iv wr => ∃ (i last : Nat) (D : List (Int × Int × Int)), gk = 64 - i ∧ i ≤ 64 ∧ last < i ∧ lv = .int .i64 (last : Int) ∧ iv = .int .i64 (i : Int) ∧ Hid (T = D ++ restT (i - last - 1) (Z.drop i)) ∧ Owns w5.heap.size [tokRow v D] wr ∧ Below w5.heap.size w5 wr)
  case atStart => exact ⟨1, 0, [(p0, p1, p2)], rfl, by omega, by omega, rfl, rfl, HS, HO5, hb6⟩
  case round =>
    clear HO5 hb6 HS
    obtain ⟨i, last, D, rfl, hi, hlast, rfl, rfl, HD, HW, hbw⟩ := hrel
    by_cases hlt : i < 64
    · have hltz : (i : Int) < 64 := by omega
      obtain ⟨x, hx⟩ := some_at (xs := Z) (j := i) (by omega)
      have hxb := HZin.out x (List.mem_of_getElem? hx)
      have hcx : wr.cell? ⟨w3.heap.size, i, none⟩ = some (.int .i64 x) := (HBz5.below hbw (by omega)).cell (by rw [HY.out]; exact ints_at hx)
      have HN := veil (toks_next (i - last - 1) hx)
      by_cases h0 : x = 0
      · subst h0
        have HD2 : Hid (T = D ++ restT (i + 1 - last - 1) (Z.drop (i + 1))) := by
          show _ = _
          rw [HD.out, HN.out, if_pos rfl]; congr 2; omega
        clear HD HN hx
        go_wp2_with fail
        go_roundg (64 - (i + 1))
        case rel => exact ⟨i + 1, last, D, rfl, by omega, by omega, rfl, by go_num, HD2, HW, hbw⟩
        case measure => omega
      · obtain ⟨r, hr⟩ : ∃ r : Nat, i - last - 1 = r := ⟨_, rfl⟩
        rw [hr] at HD HN
        have hrz : (i : Int) - (last : Int) - 1 = (r : Int) := by omega
        have HD2 : Hid (T = D ++ List.replicate (r / 16) tkLong ++ tkN (r % 16) x :: restT 0 (Z.drop (i + 1))) := by
          show _ = _
          rw [HD.out, HN.out, if_neg h0, List.append_assoc]
        have HDl : Hid (D.length + r / 16 + 1 ≤ 64) := by
          have h1 := Hlen.out
          rw [HD2.out] at h1
          simp only [List.length_append, List.length_replicate, List.length_cons] at h1
          show _ ≤ _; omega
        have hx0 : (x == 0) = false := by simpa using h0
        clear HD HN hx hr h0
        go_wp2_with fail
        rename World => W0
        go_loopg [7, 40] (r / 16) (fun gk v jv wr => ∃ j : Nat, gk = r / 16 - j ∧ j ≤ r / 16 ∧ jv = .int .i64 (j : Int) ∧ Owns w5.heap.size [tokRow v (D ++ List.replicate j tkLong)] wr ∧ Below w5.heap.size w5 wr)
        case atStart => exact ⟨0, rfl, by omega, rfl, by rw [List.replicate_zero, List.append_nil]; exact HW, hbw⟩
        case round =>
          obtain ⟨j, rfl, hj, rfl, HW2, hbw2⟩ := hrel
          by_cases hjl : j < r / 16
          · have hjz : (j : Int) < (r : Int) / 16 := by omega
            go_wp2_with (first
              | (refine wpList_ownK wr rfl (.tmp 42) (.tmp 44) rfl w5.heap.size u7 (D ++ List.replicate j tkLong) [] rfl HW2 240 0 0 rfl (by have := HDl.out; simp only [List.length_append, List.length_replicate]; omega) ?_; intro v' w' HO' hb' hs')
              | fail)
            go_roundg (r / 16 - (j + 1))
            case rel => exact ⟨j + 1, rfl, by omega, by go_num, by rw [List.replicate_succ', ← List.append_assoc]; exact HO', hbw2.trans (hb'.mono (Nat.le_refl _))⟩
            case measure => omega
          · obtain rfl : j = r / 16 := by omega
            have hcx2 : wr.cell? ⟨w3.heap.size, i, none⟩ = some (.int .i64 x) := by
              rw [hbw2.cell (by simp; omega), ← hbw.cell (by simp; omega)]; exact hcx
            have HT1 := veil (HTK.out (r % 16) x wr (by omega) hxb.1 hxb.2)
            rw [show ((r % 16 : Nat) : Int) = (r : Int) % 16 by omega] at HT1
            obtain ⟨⟨q0, q1, q2⟩, hq⟩ : ∃ t, t = tkN (r % 16) x := ⟨_, rfl⟩
            rw [← hq] at HD2 HT1
            clear hq hcx
            go_wp2_with fail
            refine HT1.out.mono ?_
            rintro e w7 ⟨rfl, hb7⟩
            have HW7 := HW2.below hb7
            have hb7' := hbw2.trans (hb7.mono hbw2.size)
            have HD3 : Hid (T = (D ++ List.replicate (r / 16) tkLong ++ [(q0, q1, q2)]) ++ restT (i + 1 - i - 1) (Z.drop (i + 1))) := by
              show _ = _
              rw [HD2.out, show i + 1 - i - 1 = 0 by omega, List.append_assoc _ [(q0, q1, q2)]]; rfl
            clear HD2 HT1 hb7 HW2 hbw2
            simp only [tokV]
            go_wp2_with (first
              | (refine wpList_ownK w7 rfl (.tmp 47) (.tmp 54) rfl w5.heap.size u7 (D ++ List.replicate (r / 16) tkLong) [] rfl HW7 q0 q1 q2 rfl (by have := HDl.out; simp only [List.length_append, List.length_replicate]; omega) ?_; intro v' w' HO' hb' hs')
              | fail)
            go_roundg (64 - (i + 1))
            case rel => exact ⟨i + 1, i, _, rfl, by omega, by omega, rfl, by go_num, HD3, HO', hb7'.trans hb'⟩
            case measure => omega
    · obtain rfl : i = 64 := by omega
      by_cases hl63 : last < 63
      · have HD2 : Hid (T = D ++ [(0, 0, 0)]) := by
          show _ = _
          rw [HD.out, List.drop_of_length_le (by omega), restT_nil, if_neg (by omega)]; rfl
        have hDl : D.length + 1 ≤ 64 := by
          have h1 := Hlen.out
          rw [HD2.out, List.length_append, List.length_singleton] at h1
          exact h1
        have HDl := veil hDl
        clear HD hDl
        go_wp2_with (first
          | (refine wpList_ownK wr rfl (.tmp 59) (.tmp 61) rfl w5.heap.size u7 D [] rfl HW 0 0 0 rfl (by have := HDl.out; omega) ?_; intro v' w' HO' hb' hs')
          | fail)
        go_ret2
        refine ⟨_, rfl, ?_, hf5.trans ((hbw.trans hb').mono hf5.size)⟩
        rw [HD2.out]
        exact HO'.down hf5.size
      · have HD2 : Hid (T = D) := by
          show _ = _
          rw [HD.out, List.drop_of_length_le (by omega), restT_nil, if_pos (by omega), List.append_nil]
        clear HD
        go_wp2
        go_ret2
        refine ⟨_, rfl, ?_, hf5.trans (hbw.mono hf5.size)⟩
        rw [HD2.out]
        exact HW.down hf5.size
theorem refTokens_any (b : Int) (cs : List Int) (w : World) (hc : cs.length = 64) :
    Calls Try.prog 12 #[.int .i64 b, blkV cs] w fun e w' => ∃ v, e = .returned (.tuple #[v, .int .i64 (eT b cs)]) ∧ Owns w.heap.size [tokRow v (oT b cs)] w' ∧ Below w.heap.size w w' := by
  by_cases hb : -2047 ≤ b ∧ b ≤ 2047
  · cases hin : inB (-2047) 2047 cs with
    | true =>
      rw [oT_ok (eT_ok hb.1 hb.2 hin), eT_ok hb.1 hb.2 hin]
      exact refTokens_ok b cs w hc hb hin
    | false =>
      have e := eT_bad (b := b) (cs := cs) (by rw [hin]; simp)
      rw [oT_bad (by rw [e]; decide), e]
      exact refTokens_bad2 b cs w hc hb hin
  · have e := eT_bad (b := b) (cs := cs) (fun h => hb ⟨h.1, h.2.1⟩)
    rw [oT_bad (by rw [e]; decide), e]
    exact refTokens_bad1 b cs w hc (by omega)
end Go.Proofs.Ytemckjkdlbipcaa
