/- run.isCoef, run.token and run.Tokens: their contracts. -/
import Derived.Test.YtemckjkdlbipcaaTokMem
import Derived.Test.YtemckjkdlbipcaaSizeOf
import Derived.Test.YtemckjkdlbipcaaZigTo
import Derived.Test.YtemckjkdlbipcaaRunBase
import Derived.Test.YtemckjkdlbipcaaRefTok
namespace Go.Proofs.Ytemckjkdlbipcaa
open Go.RowKit
set_option linter.unusedVariables false
set_option linter.unusedSimpArgs false
set_option maxRecDepth 100000

theorem coef_yes (n : Int) (h : -2047 ≤ n ∧ n ≤ 2047) (w : World) :
    Calls Try.prog 19 #[.int .i64 n] w fun e w' => e = .returned (.bool true) ∧ w' = w := by
  obtain ⟨h1, h2⟩ := h
  go_enter Try.func19, Try.ntmps19
  go_wp2
  go_ret
  exact ⟨rfl, rfl⟩
theorem coef_no (n : Int) (h : n < -2047 ∨ 2047 < n) (w : World) :
    Calls Try.prog 19 #[.int .i64 n] w fun e w' => e = .returned (.bool false) ∧ w' = w := by
  rcases h with h | h
  · have h1 : ¬ -2047 ≤ n := by omega
    go_enter Try.func19, Try.ntmps19
    go_wp2
    go_ret
    exact ⟨rfl, rfl⟩
  · have h1 : -2047 ≤ n := by omega
    have h2 : ¬ n ≤ 2047 := by omega
    go_enter Try.func19, Try.ntmps19
    go_wp2
    go_ret
    exact ⟨rfl, rfl⟩
theorem info_tok : (Try.prog.info? 30).map (·.size) = some 3 := by kernel_rfl
set_option maxHeartbeats 1000000 in
theorem ptoken_any (r : Nat) (n : Int) (w : World) (hr : r ≤ 15) (h1 : -4095 ≤ n) (h2 : n ≤ 4095) :
    Calls Try.prog 20 #[.int .i64 (r : Int), .int .i64 n] w fun e w' => e = .returned (tokV (tkN r n)) ∧ Below w.heap.size w w' := by
  have H1 := veil (fun W => bits_any n W)
  rw [oS_ok h1 h2, oV_ok h1 h2, eS_ok h1 h2] at H1
  have hs := sz_12 h1 h2
  have HB := Blk.new w [.int .i64 0, .int .i64 0, .int .i64 0] 30
  have hb := below1 w (.cells [.int .i64 0, .int .i64 0, .int .i64 0].toArray 30)
  unfold tkN tokV
  generalize szZ n = s at *
  generalize vbZ n = v at *
  go_enter Try.func20, Try.ntmps20
  go_wp2_with fail
  refine (H1.out _).mono ?_
  rintro e w1 ⟨rfl, q, hq⟩
  have HB1 : Blk w1 w.heap.size [.int .i64 0, .int .i64 0, .int .i64 0] 30 := by rw [hq]; exact HB.drewN q
  have hb1 : Below w.heap.size w w1 := by rw [hq]; exact hb.drewN q
  clear hq HB hb
  go_wp2_with (first
    | (refine wpList_store_blk w1 rfl 30 (.tmp 4) (.tmp 20) rfl w.heap.size [.int .i64 0, .int .i64 0, .int .i64 0] [.int .i64 (16 * (r : Int) + (s : Int)), .int .i64 (s : Int), .int .i64 v] 30 HB1 rfl rfl info_tok rfl (by intro u hu; simp at hu; rcases hu with rfl | rfl | rfl <;> rfl) ?_; intro w5 HB7 hg7)
    | fail)
  exact bodyPost_ret (v := .agg #[.int .i64 (16 * (r : Int) + (s : Int)), .int .i64 (s : Int), .int .i64 v]) (results_cell_row rfl _ _ w.heap.size 30 #[.int .i64 (16 * (r : Int) + (s : Int)), .int .i64 (s : Int), .int .i64 v] (0, 0) _ rfl HB7 Try.underlying30 rfl (by kernel_rfl)) rfl ⟨rfl, hb1.grown hg7 hb1.size (fun j hj => by injection hj with hj; omega)⟩
theorem tokens_bad1 (b : Int) (cs : List Int) (w : World) (hc : cs.length = 64) (hb : b < -2047 ∨ 2047 < b) :
    Calls Try.prog 11 #[.int .i64 b, blkV cs] w fun e w' => ∃ v, e = .returned (.tuple #[v, .int .i64 1]) ∧ Owns w.heap.size [tokRow v []] w' ∧ Below w.heap.size w w' := by
  have HO := veil (fun W => coef_no b hb W)
  unfold blkV
  generalize ints .i64 cs = xs at *
  clear hb
  go_enter Try.func11, Try.ntmps11
  go_wp2_with fail
  refine (HO.out _).mono ?_
  rintro e w1 ⟨rfl, rfl⟩
  go_wp2
  go_ret2
  exact ⟨_, rfl, (Owns.nil (by simp)).fresh _ _, below1 _ _⟩
set_option maxHeartbeats 4000000 in
set_option maxRecDepth 100000 in
theorem tokens_in (b : Int) (cs : List Int) (w : World) (hc : cs.length = 64) (hb : -2047 ≤ b ∧ b ≤ 2047) :
    Calls Try.prog 11 #[.int .i64 b, blkV cs] w fun e w' => ∃ v, e = .returned (.tuple #[v, .int .i64 (eT b cs)]) ∧ Owns w.heap.size [tokRow v (oT b cs)] w' ∧ Below w.heap.size w w' := by
  have HC0 := veil (fun W => coef_yes b hb W)
  have HCy := veil (fun n h W => coef_yes n h W)
  have HCn := veil (fun n h W => coef_no n h W)
  have HEbad : Hid (inB (-2047) 2047 cs = false → eT b cs = 1 ∧ oT b cs = []) := fun h => by
    have e := eT_bad (b := b) (cs := cs) (by rw [h]; simp)
    exact ⟨e, oT_bad (by rw [e]; decide)⟩
  have HEok : Hid (inB (-2047) 2047 cs = true → eT b cs = 0 ∧ oT b cs = toksZ b (toL cs) ∧ ∀ z ∈ toL cs, -2047 ≤ z ∧ z ≤ 2047) := fun h => by
    have e := eT_ok hb.1 hb.2 h
    exact ⟨e, oT_ok e, toL_in hc h⟩
  have HZ := veil (fun W => to_any cs W hc)
  have hZl := toL_length cs
  have Hlen := veil (toks_len b hZl)
  generalize toL cs = Z at *
  generalize eT b cs = er at *
  generalize oT b cs = O at *
  have Hl : Hid ((ints .i64 cs).length = 64) := by show _ = _; rw [ints_length, hc]
  have Hat : Hid (∀ (k : Nat) (x : Int), cs[k]? = some x → (ints .i64 cs)[k]? = some (.int .i64 x)) := fun _ _ h => ints_at h
  have HlZ : Hid ((ints .i64 Z).length = 64) := by show _ = _; rw [ints_length, hZl]
  have honeZ := ints_one (k := .i64) (l := Z)
  have hr := range_new w (ints .i64 cs) 23
  have hb0 := below1 w (.cells (ints .i64 cs).toArray 23)
  unfold blkV at *
  generalize ints .i64 cs = xs at *
  go_enter Try.func11, Try.ntmps11
  go_wp2_with fail
  refine (HC0.out _).mono ?_
  rintro e w1 ⟨rfl, rfl⟩
  go_wp2_with (first
    | (refine wpList_load_mid rfl 23 (.tmp 3) rfl w.heap.size 0 rfl xs _ hr Try.underlying23 rfl (info_blkn Hl.out) ?_)
    | fail)
  obtain ⟨W, hW⟩ : ∃ W, W = w.alloc (.cells xs.toArray 23) := ⟨_, rfl⟩
  rw [← hW] at hr hb0 ⊢
  have hzW : W.heap.size = w.heap.size + 1 := by rw [hW]; simp
  clear hW
  go_loopg [17] 64 (fun gk i wr => ∃ k : Nat, gk = 64 - k ∧ k ≤ 64 ∧ i = .int .i64 (k : Int) ∧ Hid (inB (-2047) 2047 (cs.take k) = true) ∧ wr = W)
  case atStart => exact ⟨0, rfl, by omega, rfl, by simp [inB, Hid], rfl⟩
  case round =>
    obtain ⟨k, rfl, hk, rfl, HI, hwW⟩ := hrel
    subst wr
    by_cases hlt : k < 64
    · have hltz : (k : Int) < 64 := by omega
      obtain ⟨x, hx⟩ := some_at (xs := cs) (j := k) (by omega)
      have hxs := Hat.out _ _ hx
      by_cases h1 : -2047 ≤ x ∧ x ≤ 2047
      · have HI2 := veil (inB_take hx HI.out h1.1 h1.2)
        have HO := veil (HCy.out x h1 W)
        clear HI hx
        go_wp2_with (first
          | (refine wpList_index_arr rfl 23 (.tmp 16) (.tmp 17) rfl 64 3 .i64 Try.underlying23 Try.underlying3 (by kernel_rfl) xs rfl .i64 k rfl (.int .i64 x) hlt hxs ?_)
          | fail)
        refine HO.out.mono ?_
        rintro e w1 ⟨rfl, rfl⟩
        go_wp2_with fail
        go_roundg (64 - (k + 1))
        case rel => exact ⟨k + 1, rfl, by omega, by go_num, HI2, rfl⟩
        case measure => omega
      · have h2 := HEbad.out (inB_bad hx h1)
        have HO := veil (HCn.out x (by omega) W)
        obtain ⟨rfl, rfl⟩ := h2
        clear HI hx HEok HEbad Hlen
        go_wp2_with (first
          | (refine wpList_index_arr rfl 23 (.tmp 16) (.tmp 17) rfl 64 3 .i64 Try.underlying23 Try.underlying3 (by kernel_rfl) xs rfl .i64 k rfl (.int .i64 x) hlt hxs ?_)
          | fail)
        refine HO.out.mono ?_
        rintro e w1 ⟨rfl, rfl⟩
        go_wp2
        go_ret2
        exact ⟨_, rfl, (Owns.nil hb0.size).fresh _ _, hb0⟩
    · obtain rfl : k = 64 := by omega
      have h2 : inB (-2047) 2047 cs = true := by have := HI.out; rw [List.take_of_length_le (by omega)] at this; exact this
      obtain ⟨rfl, hOe, hZin⟩ := HEok.out h2
      have HOe := veil hOe
      clear hOe
      have HZin := veil hZin
      clear h2 hZin HEok HEbad HI HC0 HCn HCy
      obtain ⟨z0, hz0⟩ := some_at (xs := Z) (j := 0) (by omega)
      have hz0b := HZin.out z0 (List.mem_of_getElem? hz0)
      have HT0 := veil (fun W => ptoken_any 0 (z0 - b) W (by omega) (by omega) (by omega))
      have HS : Hid (toksZ b Z = [tkN 0 (z0 - b)] ++ restT 0 (Z.drop 1)) := by
        show _ = _
        match Z, hz0 with
        | z :: zs, h => simp at h; subst h; rfl
      generalize toksZ b Z = T at *
      go_wp2_with (first
        | (refine wpList_load_mid rfl 23 (.tmp 3) rfl w.heap.size 0 rfl xs _ hr Try.underlying23 rfl (info_blkn Hl.out) ?_)
        | fail)
      refine (HZ.out _).mono ?_
      rintro e w3 ⟨rfl, hb3⟩
      have hf3 := hb0.trans (hb3.mono hb0.size)
      clear hr hb0 hb3 HZ
      have HBz := Blk.new w3 (ints .i64 Z) 23
      have hb4 := hf3.alloc hf3.size (.cells (ints .i64 Z).toArray 23)
      have hc0 := HBz.cell (ints_at hz0)
      have hsz4 : (w3.alloc (.cells (ints .i64 Z).toArray 23)).heap.size = w3.heap.size + 1 := by simp
      obtain ⟨ys, hys⟩ : ∃ ys, ys = ints .i64 Z := ⟨_, rfl⟩
      rw [← hys] at HBz hb4 hc0 hsz4 HlZ honeZ ⊢
      have HY := veil hys; clear hys
      go_wp2_with (first
        | (refine wpList_store_new w3 rfl 23 (.tmp 8) (.tmp 25) rfl zeroB.toArray ys rfl rfl (info_blkn HlZ.out) (by rw [HlZ.out]; rfl) honeZ ?_)
        | fail)
      refine (HT0.out _).mono ?_
      rintro e w5 ⟨rfl, hb5⟩
      have HBz5 := HBz.below hb5 (by rw [hsz4]; omega)
      rw [hsz4] at hb5
      have hz5 := hb5.size
      rw [hsz4] at hz5
      have hf5 : Below w.heap.size w w5 := hb4.trans (hb5.mono (by have := hf3.size; omega))
      clear hc0 HBz hb4 hb5 hsz4 HT0
      have HTK : Hid (∀ (r : Nat) (x : Int) (W : World), r ≤ 15 → -2047 ≤ x → x ≤ 2047 → _) := fun r x W h1 h2 h3 => ptoken_any r x W h1 (by omega) (by omega)
      obtain ⟨⟨p0, p1, p2⟩, hp⟩ : ∃ t, t = tkN 0 (z0 - b) := ⟨_, rfl⟩
      rw [← hp] at HS ⊢
      clear hp
      simp only [tokV]
      have HO5 := own_lit (w := w5) (B := w5.heap.size) (Nat.le_refl _) p0 p1 p2
      have hb6 := below1 w5 (.cells #[.int .i64 p0, .int .i64 p1, .int .i64 p2] 30)
      go_wp2_with fail
      go_loopg [9, 10, 34] 63 (fun gk v zv iv wr => ∃ (i r : Nat) (D : List (Int × Int × Int)), gk = 63 - i ∧ i ≤ 63 ∧ r ≤ i ∧ zv = .int .i64 (r : Int) ∧ iv = .int .i64 (i : Int) ∧ Hid (T = D ++ restT r (Z.drop (i + 1))) ∧ Owns w5.heap.size [tokRow v D] wr ∧ Below w5.heap.size w5 wr)
      case atStart => exact ⟨0, 0, [(p0, p1, p2)], rfl, by omega, by omega, rfl, rfl, HS, HO5, hb6⟩
      case round =>
        clear HO5 hb6 HS
        obtain ⟨i, r, D, rfl, hi, hri, rfl, rfl, HD, HW, hbw⟩ := hrel
        by_cases hlt : i < 63
        · have hltz : (i : Int) < 63 := by omega
          obtain ⟨x, hx⟩ := some_at (xs := Z) (j := i + 1) (by omega)
          have hxb := HZin.out x (List.mem_of_getElem? hx)
          have hcx : wr.cell? ⟨w3.heap.size, 1 + i, none⟩ = some (.int .i64 x) := (HBz5.below hbw (by omega)).cell (by rw [HY.out, Nat.add_comm]; exact ints_at hx)
          have HN := veil (toks_next r hx)
          by_cases h0 : x = 0
          · subst h0
            have HD2 : Hid (T = D ++ restT (r + 1) (Z.drop (i + 1 + 1))) := by
              show _ = _
              rw [HD.out, HN.out, if_pos rfl]
            clear HD HN hx
            go_wp2_with fail
            go_roundg (63 - (i + 1))
            case rel => exact ⟨i + 1, r + 1, D, rfl, by omega, by omega, by go_num, by go_num, HD2, HW, hbw⟩
            case measure => omega
          · have HD2 : Hid (T = D ++ List.replicate (r / 16) tkLong ++ tkN (r % 16) x :: restT 0 (Z.drop (i + 1 + 1))) := by
              show _ = _
              rw [HD.out, HN.out, if_neg h0, List.append_assoc]
            have HDl : Hid (D.length + r / 16 + 1 ≤ 64) := by
              have h1 := Hlen.out
              rw [HD2.out] at h1
              simp only [List.length_append, List.length_replicate, List.length_cons] at h1
              show _ ≤ _; omega
            have hx0 : (x == 0) = false := by simpa using h0
            clear HD HN hx h0
            go_wp2_with fail
            rename World => W1
            go_loopg [9, 10] (r / 16) (fun gk v rv wr => ∃ j : Nat, gk = r / 16 - j ∧ j ≤ r / 16 ∧ rv = .int .i64 ((r - 16 * j : Nat) : Int) ∧ Owns w5.heap.size [tokRow v (D ++ List.replicate j tkLong)] wr ∧ Below w5.heap.size w5 wr)
            case atStart => exact ⟨0, rfl, by omega, rfl, by rw [List.replicate_zero, List.append_nil]; exact HW, hbw⟩
            case round =>
              obtain ⟨j, rfl, hj, rfl, HW2, hbw2⟩ := hrel
              by_cases hjl : j < r / 16
              · obtain ⟨m, hm⟩ : ∃ m : Nat, r - 16 * j = m + 16 := ⟨r - 16 * j - 16, by omega⟩
                rw [hm]
                have hmz : (16 : Int) ≤ ((m + 16 : Nat) : Int) := by omega
                have hm2 : m + 16 ≤ 63 := by omega
                go_wp2_with (first
                  | (refine wpList_ownK wr rfl (.tmp 46) (.tmp 48) rfl w5.heap.size u9 (D ++ List.replicate j tkLong) [] rfl HW2 240 0 0 rfl (by have := HDl.out; simp only [List.length_append, List.length_replicate]; omega) ?_; intro v' w' HO' hb' hs')
                  | fail)
                go_roundg (r / 16 - (j + 1))
                case rel => exact ⟨j + 1, rfl, by omega, by go_num, by rw [List.replicate_succ', ← List.append_assoc]; exact HO', hbw2.trans (hb'.mono (Nat.le_refl _))⟩
                case measure => omega
              · obtain rfl : j = r / 16 := by omega
                have hm : r - 16 * (r / 16) = r % 16 := by omega
                rw [hm]
                have hrl : r % 16 ≤ 15 := by omega
                have hcx2 : wr.cell? ⟨w3.heap.size, 1 + i, none⟩ = some (.int .i64 x) := by
                  rw [hbw2.cell (by simp; omega), ← hbw.cell (by simp; omega)]; exact hcx
                have HT1 := veil (HTK.out (r % 16) x wr hrl hxb.1 hxb.2)
                obtain ⟨⟨q0, q1, q2⟩, hq⟩ : ∃ t, t = tkN (r % 16) x := ⟨_, rfl⟩
                rw [← hq] at HD2 HT1
                clear hq hcx hm
                generalize r % 16 = r2 at *
                have hrn : ¬ (16 : Int) ≤ (r2 : Int) := by omega
                go_wp2_with fail
                refine HT1.out.mono ?_
                rintro e w7 ⟨rfl, hb7⟩
                have HW7 := HW2.below hb7
                have hb7' := hbw2.trans (hb7.mono hbw2.size)
                have HD3 : Hid (T = (D ++ List.replicate (r / 16) tkLong ++ [(q0, q1, q2)]) ++ restT 0 (Z.drop (i + 1 + 1))) := by
                  show _ = _
                  rw [HD2.out, List.append_assoc _ [(q0, q1, q2)]]; rfl
                clear HD2 HT1 hb7 HW2 hbw2
                simp only [tokV]
                go_wp2_with (first
                  | (refine wpList_ownK w7 rfl (.tmp 50) (.tmp 54) rfl w5.heap.size u9 (D ++ List.replicate (r / 16) tkLong) [] rfl HW7 q0 q1 q2 rfl (by have := HDl.out; simp only [List.length_append, List.length_replicate]; omega) ?_; intro v' w' HO' hb' hs')
                  | fail)
                go_roundg (63 - (i + 1))
                case rel => exact ⟨i + 1, 0, _, rfl, by omega, by omega, rfl, by go_num, HD3, HO', hb7'.trans hb'⟩
                case measure => omega
        · obtain rfl : i = 63 := by omega
          by_cases hl63 : 0 < r
          · have HD2 : Hid (T = D ++ [(0, 0, 0)]) := by
              show _ = _
              rw [HD.out, List.drop_of_length_le (by omega), restT_nil, if_neg (by omega)]; rfl
            have hDl : D.length + 1 ≤ 64 := by
              have h1 := Hlen.out
              rw [HD2.out, List.length_append, List.length_singleton] at h1
              exact h1
            have HDl := veil hDl
            have hrz : (0 : Int) < (r : Int) := by omega
            clear HD hDl
            go_wp2_with (first
              | (refine wpList_ownK wr rfl (.tmp 59) (.tmp 61) rfl w5.heap.size u9 D [] rfl HW 0 0 0 rfl (by have := HDl.out; omega) ?_; intro v' w' HO' hb' hs')
              | fail)
            go_ret2
            refine ⟨_, rfl, ?_, hf5.trans ((hbw.trans hb').mono hf5.size)⟩
            rw [HOe.out, HD2.out]
            exact HO'.down hf5.size
          · obtain rfl : r = 0 := by omega
            have HD2 : Hid (T = D) := by
              show _ = _
              rw [HD.out, List.drop_of_length_le (by omega), restT_nil, if_pos rfl, List.append_nil]
            clear HD
            go_wp2
            go_ret2
            refine ⟨_, rfl, ?_, hf5.trans (hbw.mono hf5.size)⟩
            rw [HOe.out, HD2.out]
            exact HW.down hf5.size
theorem tokens_any (b : Int) (cs : List Int) (w : World) (hc : cs.length = 64) :
    Calls Try.prog 11 #[.int .i64 b, blkV cs] w fun e w' => ∃ v, e = .returned (.tuple #[v, .int .i64 (eT b cs)]) ∧ Owns w.heap.size [tokRow v (oT b cs)] w' ∧ Below w.heap.size w w' := by
  by_cases hb : -2047 ≤ b ∧ b ≤ 2047
  · exact tokens_in b cs w hc hb
  · have e := eT_bad (b := b) (cs := cs) (fun h => hb ⟨h.1, h.2.1⟩)
    rw [oT_bad (by rw [e]; decide), e]
    exact tokens_bad1 b cs w hc (by omega)
end Go.Proofs.Ytemckjkdlbipcaa
