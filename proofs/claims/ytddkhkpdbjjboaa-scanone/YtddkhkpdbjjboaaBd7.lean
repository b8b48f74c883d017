/- Texts shared by the claims of this seat, in one. -/
import Derived.Test.YtddkhkpdbjjboaaBd6
import Derived.Test.YtddkhkpdbjjboaaBd2
import Derived.Test.YtddkhkpdbjjboaaBd5
import Derived.Handy
/- run.isCoef, run.token and run.Tokens: their contracts. -/
namespace Go.Proofs.Ytddkhkpdbjjboaa
open Go.RowKit
set_option linter.unusedVariables false
set_option linter.unusedSimpArgs false
set_option maxRecDepth 100000

theorem coef_yes (n : Int) (h : -2047 ≤ n ∧ n ≤ 2047) (w : World) :
    Calls Try.prog 85 #[.int .i64 n] w fun e w' => e = .returned (.bool true) ∧ w' = w := by
  obtain ⟨h1, h2⟩ := h
  go_enter Try.func85, Try.ntmps85
  go_wp2
  go_ret
  exact ⟨rfl, rfl⟩
theorem coef_no (n : Int) (h : n < -2047 ∨ 2047 < n) (w : World) :
    Calls Try.prog 85 #[.int .i64 n] w fun e w' => e = .returned (.bool false) ∧ w' = w := by
  rcases h with h | h
  · have h1 : ¬ -2047 ≤ n := by omega
    go_enter Try.func85, Try.ntmps85
    go_wp2
    go_ret
    exact ⟨rfl, rfl⟩
  · have h1 : -2047 ≤ n := by omega
    have h2 : ¬ n ≤ 2047 := by omega
    go_enter Try.func85, Try.ntmps85
    go_wp2
    go_ret
    exact ⟨rfl, rfl⟩
theorem info_tok : (Try.prog.info? 76).map (·.size) = some 3 := by kernel_rfl
set_option maxHeartbeats 1000000 in
theorem ptoken_any (r : Nat) (n : Int) (w : World) (hr : r ≤ 15) (h1 : -4095 ≤ n) (h2 : n ≤ 4095) :
    Calls Try.prog 87 #[.int .i64 (r : Int), .int .i64 n] w fun e w' => e = .returned (tokV (tkN r n)) ∧ Below w.heap.size w w' := by
  have H1 := veil (fun W => bits_any n W)
  rw [oS_ok h1 h2, oV_ok h1 h2, eS_ok h1 h2] at H1
  have hs := sz_12 h1 h2
  have HB := Blk.new w [.int .i64 0, .int .i64 0, .int .i64 0] 76
  have hb := below1 w (.cells [.int .i64 0, .int .i64 0, .int .i64 0].toArray 76)
  unfold tkN tokV
  generalize szZ n = s at *
  generalize vbZ n = v at *
  go_enter Try.func87, Try.ntmps87
  go_wp2_with fail
  refine (H1.out _).mono ?_
  rintro e w1 ⟨rfl, q, hq⟩
  have HB1 : Blk w1 w.heap.size [.int .i64 0, .int .i64 0, .int .i64 0] 76 := by rw [hq]; exact HB.drewN q
  have hb1 : Below w.heap.size w w1 := by rw [hq]; exact hb.drewN q
  clear hq HB hb
  go_wp2_with (first
    | (refine wpList_store_blk w1 rfl 76 (.tmp 4) (.tmp 20) rfl w.heap.size [.int .i64 0, .int .i64 0, .int .i64 0] [.int .i64 (16 * (r : Int) + (s : Int)), .int .i64 (s : Int), .int .i64 v] 76 HB1 rfl rfl info_tok rfl (by intro u hu; simp at hu; rcases hu with rfl | rfl | rfl <;> rfl) ?_; intro w5 HB7 hg7)
    | fail)
  exact bodyPost_ret (v := .agg #[.int .i64 (16 * (r : Int) + (s : Int)), .int .i64 (s : Int), .int .i64 v]) (results_cell_row rfl _ _ w.heap.size 76 #[.int .i64 (16 * (r : Int) + (s : Int)), .int .i64 (s : Int), .int .i64 v] (0, 0) _ rfl HB7 Try.underlying76 rfl (by kernel_rfl)) rfl ⟨rfl, hb1.grown hg7 hb1.size (fun j hj => by injection hj with hj; omega)⟩
theorem tokens_bad1 (b : Int) (cs : List Int) (w : World) (hc : cs.length = 64) (hb : b < -2047 ∨ 2047 < b) :
    Calls Try.prog 61 #[.int .i64 b, blkV cs] w fun e w' => ∃ v, e = .returned (.tuple #[v, .int .i64 1]) ∧ Owns w.heap.size [tokRow v []] w' ∧ Below w.heap.size w w' := by
  have HO := veil (fun W => coef_no b hb W)
  unfold blkV
  generalize ints .i64 cs = xs at *
  clear hb
  go_enter Try.func61, Try.ntmps61
  go_wp2_with fail
  refine (HO.out _).mono ?_
  rintro e w1 ⟨rfl, rfl⟩
  go_wp2
  go_ret2
  exact ⟨_, rfl, (Owns.nil (by simp)).fresh _ _, below1 _ _⟩
set_option maxHeartbeats 4000000 in
set_option maxRecDepth 100000 in
theorem tokens_in (b : Int) (cs : List Int) (w : World) (hc : cs.length = 64) (hb : -2047 ≤ b ∧ b ≤ 2047) :
    Calls Try.prog 61 #[.int .i64 b, blkV cs] w fun e w' => ∃ v, e = .returned (.tuple #[v, .int .i64 (eT b cs)]) ∧ Owns w.heap.size [tokRow v (oT b cs)] w' ∧ Below w.heap.size w w' := by
  have HC0 := veil (fun W => coef_yes b hb W)
  have HCy := veil (fun n h W => coef_yes n h W)
  have HCn := veil (fun n h W => coef_no n h W)
  have HEbad : Hid (inB (-2047) 2047 cs = false → eT b cs = 1 ∧ oT b cs = []) := fun h => by
    have e := eT_bad (b := b) (cs := cs) (by rw [h]; simp)
    exact ⟨e, oT_bad (by rw [e]; decide)⟩
  have HEok : Hid (inB (-2047) 2047 cs = true → eT b cs = 0 ∧ oT b cs = toksZ b (toL cs) ∧ ∀ z ∈ toL cs, -2047 ≤ z ∧ z ≤ 2047) := fun h => by
    have e := eT_ok hb.1 hb.2 h
    exact ⟨e, oT_ok e, toL_in hc h⟩
  have HZ := veil (fun W => to_any cs W hc)
  have hZl := toL_length cs
  have Hlen := veil (toks_len b hZl)
  generalize toL cs = Z at *
  generalize eT b cs = er at *
  generalize oT b cs = O at *
  have Hl : Hid ((ints .i64 cs).length = 64) := by show _ = _; rw [ints_length, hc]
  have Hat : Hid (∀ (k : Nat) (x : Int), cs[k]? = some x → (ints .i64 cs)[k]? = some (.int .i64 x)) := fun _ _ h => ints_at h
  have HlZ : Hid ((ints .i64 Z).length = 64) := by show _ = _; rw [ints_length, hZl]
  have honeZ := ints_one (k := .i64) (l := Z)
  have hr := range_new w (ints .i64 cs) 42
  have hb0 := below1 w (.cells (ints .i64 cs).toArray 42)
  unfold blkV at *
  generalize ints .i64 cs = xs at *
  go_enter Try.func61, Try.ntmps61
  go_wp2_with fail
  refine (HC0.out _).mono ?_
  rintro e w1 ⟨rfl, rfl⟩
  go_wp2_with (first
    | (refine wpList_load_mid rfl 42 (.tmp 3) rfl w.heap.size 0 rfl xs _ hr Try.underlying42 rfl (info_blkn Hl.out) ?_)
    | fail)
  obtain ⟨W, hW⟩ : ∃ W, W = w.alloc (.cells xs.toArray 42) := ⟨_, rfl⟩
  rw [← hW] at hr hb0 ⊢
  have hzW : W.heap.size = w.heap.size + 1 := by rw [hW]; simp
  clear hW
  go_loopg [17] 64 (fun gk i wr => ∃ k : Nat, gk = 64 - k ∧ k ≤ 64 ∧ i = .int .i64 (k : Int) ∧ Hid (inB (-2047) 2047 (cs.take k) = true) ∧ wr = W)
  case atStart => exact ⟨0, rfl, by omega, rfl, by simp [inB, Hid], rfl⟩
  case round =>
    obtain ⟨k, rfl, hk, rfl, HI, hwW⟩ := hrel
    subst wr
    by_cases hlt : k < 64
    · have hltz : (k : Int) < 64 := by omega
      obtain ⟨x, hx⟩ := some_at (xs := cs) (j := k) (by omega)
      have hxs := Hat.out _ _ hx
      by_cases h1 : -2047 ≤ x ∧ x ≤ 2047
      · have HI2 := veil (inB_take hx HI.out h1.1 h1.2)
        have HO := veil (HCy.out x h1 W)
        clear HI hx
        go_wp2_with (first
          | (refine wpList_index_arr rfl 42 (.tmp 16) (.tmp 17) rfl 64 3 .i64 Try.underlying42 Try.underlying3 (by kernel_rfl) xs rfl .i64 k rfl (.int .i64 x) hlt hxs ?_)
          | fail)
        refine HO.out.mono ?_
        rintro e w1 ⟨rfl, rfl⟩
        go_wp2_with fail
        go_roundg (64 - (k + 1))
        case rel => exact ⟨k + 1, rfl, by omega, by go_num, HI2, rfl⟩
        case measure => omega
      · have h2 := HEbad.out (inB_bad hx h1)
        have HO := veil (HCn.out x (by omega) W)
        obtain ⟨rfl, rfl⟩ := h2
        clear HI hx HEok HEbad Hlen
        go_wp2_with (first
          | (refine wpList_index_arr rfl 42 (.tmp 16) (.tmp 17) rfl 64 3 .i64 Try.underlying42 Try.underlying3 (by kernel_rfl) xs rfl .i64 k rfl (.int .i64 x) hlt hxs ?_)
          | fail)
        refine HO.out.mono ?_
        rintro e w1 ⟨rfl, rfl⟩
        go_wp2
        go_ret2
        exact ⟨_, rfl, (Owns.nil hb0.size).fresh _ _, hb0⟩
    · obtain rfl : k = 64 := by omega
      have h2 : inB (-2047) 2047 cs = true := by have := HI.out; rw [List.take_of_length_le (by omega)] at this; exact this
      obtain ⟨rfl, hOe, hZin⟩ := HEok.out h2
      have HOe := veil hOe
      clear hOe
      have HZin := veil hZin
      clear h2 hZin HEok HEbad HI HC0 HCn HCy
      obtain ⟨z0, hz0⟩ := some_at (xs := Z) (j := 0) (by omega)
      have hz0b := HZin.out z0 (List.mem_of_getElem? hz0)
      have HT0 := veil (fun W => ptoken_any 0 (z0 - b) W (by omega) (by omega) (by omega))
      have HS : Hid (toksZ b Z = [tkN 0 (z0 - b)] ++ restT 0 (Z.drop 1)) := by
        show _ = _
        match Z, hz0 with
        | z :: zs, h => simp at h; subst h; rfl
      generalize toksZ b Z = T at *
      go_wp2_with (first
        | (refine wpList_load_mid rfl 42 (.tmp 3) rfl w.heap.size 0 rfl xs _ hr Try.underlying42 rfl (info_blkn Hl.out) ?_)
        | fail)
      refine (HZ.out _).mono ?_
      rintro e w3 ⟨rfl, hb3⟩
      have hf3 := hb0.trans (hb3.mono hb0.size)
      clear hr hb0 hb3 HZ
      have HBz := Blk.new w3 (ints .i64 Z) 42
      have hb4 := hf3.alloc hf3.size (.cells (ints .i64 Z).toArray 42)
      have hc0 := HBz.cell (ints_at hz0)
      have hsz4 : (w3.alloc (.cells (ints .i64 Z).toArray 42)).heap.size = w3.heap.size + 1 := by simp
      obtain ⟨ys, hys⟩ : ∃ ys, ys = ints .i64 Z := ⟨_, rfl⟩
      rw [← hys] at HBz hb4 hc0 hsz4 HlZ honeZ ⊢
      have HY := veil hys; clear hys
      go_wp2_with (first
        | (refine wpList_store_new w3 rfl 42 (.tmp 8) (.tmp 25) rfl zeroB.toArray ys rfl rfl (info_blkn HlZ.out) (by rw [HlZ.out]; rfl) honeZ ?_)
        | fail)
      refine (HT0.out _).mono ?_
      rintro e w5 ⟨rfl, hb5⟩
      have HBz5 := HBz.below hb5 (by rw [hsz4]; omega)
      rw [hsz4] at hb5
      have hz5 := hb5.size
      rw [hsz4] at hz5
      have hf5 : Below w.heap.size w w5 := hb4.trans (hb5.mono (by have := hf3.size; omega))
      clear hc0 HBz hb4 hb5 hsz4 HT0
      have HTK : Hid (∀ (r : Nat) (x : Int) (W : World), r ≤ 15 → -2047 ≤ x → x ≤ 2047 → _) := fun r x W h1 h2 h3 => ptoken_any r x W h1 (by omega) (by omega)
      obtain ⟨⟨p0, p1, p2⟩, hp⟩ : ∃ t, t = tkN 0 (z0 - b) := ⟨_, rfl⟩
      rw [← hp] at HS ⊢
      clear hp
      simp only [tokV]
      have HO5 := own_lit (w := w5) (B := w5.heap.size) (Nat.le_refl _) p0 p1 p2
      have hb6 := below1 w5 (.cells #[.int .i64 p0, .int .i64 p1, .int .i64 p2] 76)
      go_wp2_with fail
      go_loopg [9, 10, 34] 63 (fun gk v zv iv wr => ∃ (i r : Nat) (D : List (Int × Int × Int)), gk = 63 - i ∧ i ≤ 63 ∧ r ≤ i ∧ zv = .int .i64 (r : Int) ∧ iv = .int .i64 (i : Int) ∧ Hid (T = D ++ restT r (Z.drop (i + 1))) ∧ Owns w5.heap.size [tokRow v D] wr ∧ Below w5.heap.size w5 wr)
      case atStart => exact ⟨0, 0, [(p0, p1, p2)], rfl, by omega, by omega, rfl, rfl, HS, HO5, hb6⟩
      case round =>
        clear HO5 hb6 HS
        obtain ⟨i, r, D, rfl, hi, hri, rfl, rfl, HD, HW, hbw⟩ := hrel
        by_cases hlt : i < 63
        · have hltz : (i : Int) < 63 := by omega
          obtain ⟨x, hx⟩ := some_at (xs := Z) (j := i + 1) (by omega)
          have hxb := HZin.out x (List.mem_of_getElem? hx)
          have hcx : wr.cell? ⟨w3.heap.size, 1 + i, none⟩ = some (.int .i64 x) := (HBz5.below hbw (by omega)).cell (by rw [HY.out, Nat.add_comm]; exact ints_at hx)
          have HN := veil (toks_next r hx)
          by_cases h0 : x = 0
          · subst h0
            have HD2 : Hid (T = D ++ restT (r + 1) (Z.drop (i + 1 + 1))) := by
              show _ = _
              rw [HD.out, HN.out, if_pos rfl]
            clear HD HN hx
            go_wp2_with fail
            go_roundg (63 - (i + 1))
            case rel => exact ⟨i + 1, r + 1, D, rfl, by omega, by omega, by go_num, by go_num, HD2, HW, hbw⟩
            case measure => omega
          · have HD2 : Hid (T = D ++ List.replicate (r / 16) tkLong ++ tkN (r % 16) x :: restT 0 (Z.drop (i + 1 + 1))) := by
              show _ = _
              rw [HD.out, HN.out, if_neg h0, List.append_assoc]
            have HDl : Hid (D.length + r / 16 + 1 ≤ 64) := by
              have h1 := Hlen.out
              rw [HD2.out] at h1
              simp only [List.length_append, List.length_replicate, List.length_cons] at h1
              show _ ≤ _; omega
            have hx0 : (x == 0) = false := by simpa using h0
            clear HD HN hx h0
            go_wp2_with fail
            rename World => W1
            go_loopg [9, 10] (r / 16) (fun gk v rv wr => ∃ j : Nat, gk = r / 16 - j ∧ j ≤ r / 16 ∧ rv = .int .i64 ((r - 16 * j : Nat) : Int) ∧ Owns w5.heap.size [tokRow v (D ++ List.replicate j tkLong)] wr ∧ Below w5.heap.size w5 wr)
            case atStart => exact ⟨0, rfl, by omega, rfl, by rw [List.replicate_zero, List.append_nil]; exact HW, hbw⟩
            case round =>
              obtain ⟨j, rfl, hj, rfl, HW2, hbw2⟩ := hrel
              by_cases hjl : j < r / 16
              · obtain ⟨m, hm⟩ : ∃ m : Nat, r - 16 * j = m + 16 := ⟨r - 16 * j - 16, by omega⟩
                rw [hm]
                have hmz : (16 : Int) ≤ ((m + 16 : Nat) : Int) := by omega
                have hm2 : m + 16 ≤ 63 := by omega
                go_wp2_with (first
                  | (refine wpList_ownK wr rfl (.tmp 46) (.tmp 48) rfl w5.heap.size u9 (D ++ List.replicate j tkLong) [] rfl HW2 240 0 0 rfl (by have := HDl.out; simp only [List.length_append, List.length_replicate]; omega) ?_; intro v' w' HO' hb' hs')
                  | fail)
                go_roundg (r / 16 - (j + 1))
                case rel => exact ⟨j + 1, rfl, by omega, by go_num, by rw [List.replicate_succ', ← List.append_assoc]; exact HO', hbw2.trans (hb'.mono (Nat.le_refl _))⟩
                case measure => omega
              · obtain rfl : j = r / 16 := by omega
                have hm : r - 16 * (r / 16) = r % 16 := by omega
                rw [hm]
                have hrl : r % 16 ≤ 15 := by omega
                have hcx2 : wr.cell? ⟨w3.heap.size, 1 + i, none⟩ = some (.int .i64 x) := by
                  rw [hbw2.cell (by simp; omega), ← hbw.cell (by simp; omega)]; exact hcx
                have HT1 := veil (HTK.out (r % 16) x wr hrl hxb.1 hxb.2)
                obtain ⟨⟨q0, q1, q2⟩, hq⟩ : ∃ t, t = tkN (r % 16) x := ⟨_, rfl⟩
                rw [← hq] at HD2 HT1
                clear hq hcx hm
                generalize r % 16 = r2 at *
                have hrn : ¬ (16 : Int) ≤ (r2 : Int) := by omega
                go_wp2_with fail
                refine HT1.out.mono ?_
                rintro e w7 ⟨rfl, hb7⟩
                have HW7 := HW2.below hb7
                have hb7' := hbw2.trans (hb7.mono hbw2.size)
                have HD3 : Hid (T = (D ++ List.replicate (r / 16) tkLong ++ [(q0, q1, q2)]) ++ restT 0 (Z.drop (i + 1 + 1))) := by
                  show _ = _
                  rw [HD2.out, List.append_assoc _ [(q0, q1, q2)]]; rfl
                clear HD2 HT1 hb7 HW2 hbw2
                simp only [tokV]
                go_wp2_with (first
                  | (refine wpList_ownK w7 rfl (.tmp 50) (.tmp 54) rfl w5.heap.size u9 (D ++ List.replicate (r / 16) tkLong) [] rfl HW7 q0 q1 q2 rfl (by have := HDl.out; simp only [List.length_append, List.length_replicate]; omega) ?_; intro v' w' HO' hb' hs')
                  | fail)
                go_roundg (63 - (i + 1))
                case rel => exact ⟨i + 1, 0, _, rfl, by omega, by omega, rfl, by go_num, HD3, HO', hb7'.trans hb'⟩
                case measure => omega
        · obtain rfl : i = 63 := by omega
          by_cases hl63 : 0 < r
          · have HD2 : Hid (T = D ++ [(0, 0, 0)]) := by
              show _ = _
              rw [HD.out, List.drop_of_length_le (by omega), restT_nil, if_neg (by omega)]; rfl
            have hDl : D.length + 1 ≤ 64 := by
              have h1 := Hlen.out
              rw [HD2.out, List.length_append, List.length_singleton] at h1
              exact h1
            have HDl := veil hDl
            have hrz : (0 : Int) < (r : Int) := by omega
            clear HD hDl
            go_wp2_with (first
              | (refine wpList_ownK wr rfl (.tmp 59) (.tmp 61) rfl w5.heap.size u9 D [] rfl HW 0 0 0 rfl (by have := HDl.out; omega) ?_; intro v' w' HO' hb' hs')
              | fail)
            go_ret2
            refine ⟨_, rfl, ?_, hf5.trans ((hbw.trans hb').mono hf5.size)⟩
            rw [HOe.out, HD2.out]
            exact HO'.down hf5.size
          · obtain rfl : r = 0 := by omega
            have HD2 : Hid (T = D) := by
              show _ = _
              rw [HD.out, List.drop_of_length_le (by omega), restT_nil, if_pos rfl, List.append_nil]
            clear HD
            go_wp2
            go_ret2
            refine ⟨_, rfl, ?_, hf5.trans (hbw.mono hf5.size)⟩
            rw [HOe.out, HD2.out]
            exact HW.down hf5.size
theorem tokens_any (b : Int) (cs : List Int) (w : World) (hc : cs.length = 64) :
    Calls Try.prog 61 #[.int .i64 b, blkV cs] w fun e w' => ∃ v, e = .returned (.tuple #[v, .int .i64 (eT b cs)]) ∧ Owns w.heap.size [tokRow v (oT b cs)] w' ∧ Below w.heap.size w w' := by
  by_cases hb : -2047 ≤ b ∧ b ≤ 2047
  · exact tokens_in b cs w hc hb
  · have e := eT_bad (b := b) (cs := cs) (fun h => hb ⟨h.1, h.2.1⟩)
    rw [oT_bad (by rw [e]; decide), e]
    exact tokens_bad1 b cs w hc (by omega)
end Go.Proofs.Ytddkhkpdbjjboaa

/- Parts of a slice of tokens. -/
namespace Go.Proofs.Ytddkhkpdbjjboaa
open Go.RowKit
set_option linter.unusedVariables false
set_option linter.unusedSimpArgs false
set_option maxRecDepth 100000

theorem run_cutT_to (A : Option Addr) (n c h : Nat) (h2 : h ≤ c) (u : World) : (Instr.sliceAt 89 (.slice A n c) none (some (.int .i64 (h : Int))) none).run Try.prog u = .ok (.slice A h c) u := by
  have he : Try.prog.underlying 89 = some (.slice (Try.prog.elem 89)) := by kernel_rfl
  have hz : (sizeOf (Try.prog.elem 89)).run Try.prog u = .ok 3 u := by kernel_rfl
  rw [run_sliceAt_slice _ _ _ _ _ _ he, run_slice_h _ _ _ _ _ he _ _ (by omega) (by omega), hz]
  simp [Result.andThen, sliced]
  intro _
  cases A with
  | none => rfl
  | some a => simp [Addr.add]
theorem cutT_take {w : World} {G k : Nat} {A : Option Addr} {l : List (Int × Int × Int)} (hs : Seen w G A (tokCells l)) : Seen w G A (tokCells (l.take k)) := by
  rcases hs with hs | ⟨g, o, rfl, hg, hcell⟩
  · left; rw [tokCells_take, hs, List.take_nil]
  · refine .inr ⟨g, o, rfl, hg, fun j u hu => hcell j u ?_⟩
    rw [tokCells_take, List.getElem?_take] at hu
    split at hu
    · exact hu
    · cases hu
end Go.Proofs.Ytddkhkpdbjjboaa

/- run's list of tokens as a source: the contract of its method next. -/
namespace Go.Proofs.Ytddkhkpdbjjboaa
open Go.RowKit
set_option linter.unusedVariables false
set_option linter.unusedSimpArgs false
set_option maxRecDepth 100000

/-- The source stands before token u of these: block g holds the slice, which lies below block G, and the number. -/
def PSrc (G g : Nat) (A : Option Addr) (c : Nat) (l : List (Int × Int × Int)) (w : World) (u : Nat) : Prop :=
  Blk w g [.slice A l.length c, .int .i64 (u : Int)] 169 ∧ Seen w G A (tokCells l) ∧ u ≤ l.length
theorem PSrc.below {G g B c u : Nat} {A : Option Addr} {w w' : World} {l : List (Int × Int × Int)} (h : PSrc G g A c l w u) (hb : Below B w w') (hg : g < B) (hG : G ≤ B) : PSrc G g A c l w' u :=
  ⟨h.1.below hb hg, h.2.1.below hb hG, h.2.2⟩
theorem PSrc.kept {G g b c u : Nat} {A : Option Addr} {w w' : World} {l : List (Int × Int × Int)} (h : PSrc G g A c l w u) (hg : w.grownBy w' (some b)) (hne : g ≠ b) (hG : G ≤ b) (hz : G ≤ w.heap.size) : PSrc G g A c l w' u :=
  ⟨h.1.kept hg (fun e => hne (by injection e)), h.2.1.grown hg hG hz, h.2.2⟩
def tok0 : List Value := [.int .i64 0, .int .i64 0, .int .i64 0]
theorem tok0_one : ∀ u ∈ tok0, u.oneCell' = true := by intro u hu; simp [tok0] at hu; subst hu; rfl
theorem tokv_one (a b c : Int) : ∀ u ∈ [Value.int .i64 a, .int .i64 b, .int .i64 c], u.oneCell' = true := by intro u hu; simp at hu; rcases hu with rfl | rfl | rfl <;> rfl
set_option maxHeartbeats 1000000 in
theorem pnext_none (G g c : Nat) (A : Option Addr) (l : List (Int × Int × Int)) (w : World) (hs : PSrc G g A c l w l.length) (hl : l.length ≤ maxLen) :
    Calls Try.prog 139 #[.pointer (some ⟨g, 0, none⟩)] w fun e w' => e = .returned (.tuple #[tokV (0, 0, 0), .bool false]) ∧ Below w.heap.size w w' := by
  obtain ⟨hB, hS, _⟩ := hs
  have hgz := hB.lt
  have hb := below1 w (.cells tok0.toArray 76)
  have hB1 := hB.below hb hgz
  have hBt := Blk.new w tok0 76
  have c0 := hB1.cell (i := 0) (v := .slice A l.length c) rfl
  have c1 := hB1.cell (i := 1) (v := .int .i64 (l.length : Int)) rfl
  obtain ⟨W, hW⟩ : ∃ W, W = w.alloc (.cells tok0.toArray 76) := ⟨_, rfl⟩
  have HW := veil hW
  rw [← hW] at c0 c1 hBt hb
  clear hB hB1 hS hW
  unfold tokV
  go_enter Try.func139, Try.ntmps139
  go_wp2_with fail
  rw [show w.alloc (.cells #[Value.int IntKind.i64 0, Value.int IntKind.i64 0, Value.int IntKind.i64 0] 76) = W from HW.out.symm]
  go_quiet (fail)
  go_wp2_with (first
    | (refine wpList_store_blk _ rfl 76 (.tmp 2) (.tmp 15) rfl w.heap.size tok0 tok0 76 (hBt.drewN _) rfl rfl info_tok rfl tok0_one ?_; intro w5 HB7 hg7)
    | fail)
  exact bodyPost_ret (results_row_tmp rfl _ _ w.heap.size 76 tok0.toArray (0, 0) _ (.bool false) rfl rfl HB7 Try.underlying76 rfl info_tok) rfl ⟨rfl, (hb.drewN _).grown hg7 hb.size (fun j hj => by injection hj with hj; omega)⟩
set_option maxHeartbeats 2000000 in
theorem pnext_some (G g c u : Nat) (A : Option Addr) (l : List (Int × Int × Int)) (t : Int × Int × Int) (w : World) (hs : PSrc G g A c l w u) (hG : G ≤ g) (hl : l.length ≤ maxLen) (ht : l[u]? = some t) :
    Calls Try.prog 139 #[.pointer (some ⟨g, 0, none⟩)] w fun e w' => e = .returned (.tuple #[tokV t, .bool true]) ∧ w.grownBy w' (some g) ∧ PSrc G g A c l w' (u + 1) := by
  obtain ⟨hB, hS, hu⟩ := hs
  have hul : u < l.length := (List.getElem?_eq_some_iff.1 ht).1
  have hgz := hB.lt
  obtain ⟨g2, o, p0, p1, p2, rfl, hg2, ht2, d0, d1, d2⟩ := hS.tok (k := u) hul
  obtain rfl : t = (p0, p1, p2) := by rw [ht] at ht2; injection ht2
  have hb := below1 w (.cells tok0.toArray 76)
  have hB1 := hB.below hb hgz
  have hBt := Blk.new w tok0 76
  have c0 := hB1.cell (i := 0) (v := .slice (some ⟨g2, o, none⟩) l.length c) rfl
  have c1 := hB1.cell (i := 1) (v := .int .i64 (u : Int)) rfl
  rw [← hb.cell (by simp; omega)] at d0 d1 d2
  obtain ⟨W, hW⟩ : ∃ W, W = w.alloc (.cells tok0.toArray 76) := ⟨_, rfl⟩
  have HW := veil hW
  rw [← hW] at c0 c1 hBt hb hB1 d0 d1 d2
  have hulz : (u : Int) < (l.length : Int) := by omega
  have hune : ((u : Int) == (l.length : Int)) = false := by simp; omega
  clear hB hW ht ht2
  unfold tokV
  go_enter Try.func139, Try.ntmps139
  go_wp2_with fail
  rw [show w.alloc (.cells #[Value.int IntKind.i64 0, Value.int IntKind.i64 0, Value.int IntKind.i64 0] 76) = W from HW.out.symm]
  go_quiet (fail)
  have hgW : g < W.heap.size := hB1.lt
  have hb2 := below1 (W.drewN (nq + 1)) (.cells tok0.toArray 76)
  have e0 := (hb2.cell (p := ⟨g, 0, none⟩) hgW).trans c0
  have e1 := (hb2.cell (p := ⟨g, 1, none⟩) hgW).trans c1
  have hg2W : g2 < W.heap.size := by omega
  have f0 := (hb2.cell (p := ⟨g2, o + u * 3, none⟩) hg2W).trans d0
  have f1 := (hb2.cell (p := ⟨g2, o + u * 3 + 1, none⟩) hg2W).trans d1
  have f2 := (hb2.cell (p := ⟨g2, o + u * 3 + 2, none⟩) hg2W).trans d2
  have hBn : Blk ((W.drewN (nq + 1)).alloc (.cells tok0.toArray 76)) W.heap.size tok0 76 := Blk.new (W.drewN (nq + 1)) tok0 76
  have n0 := hBn.cell (i := 0) (v := .int .i64 0) rfl
  have z0 := hBn.frozen 0
  have hBn1 := hBn.set 0 (.int .i64 p0)
  have n1 := hBn1.cell (i := 1) (v := .int .i64 0) rfl
  have z1 := hBn1.frozen 1
  have hBn2 := hBn1.set 1 (.int .i64 p1)
  have n2 := hBn2.cell (i := 2) (v := .int .i64 0) rfl
  have z2 := hBn2.frozen 2
  simp only [tok0] at e0 e1 f0 f1 f2 n0 n1 n2 z0 z1 z2
  clear hb2
  go_wp2_with fail
  go_big_region
  have hBn3 := hBn2.set 2 (.int .i64 p2)
  have hbV : Below W.heap.size W ((((((W.drewN (nq + 1)).alloc (.cells tok0.toArray 76)).setCell ⟨W.heap.size, 0, none⟩ (.int .i64 p0)).setCell ⟨W.heap.size, 1, none⟩ (.int .i64 p1)).setCell ⟨W.heap.size, 2, none⟩ (.int .i64 p2))) :=
    ((((((Below.refl W.heap.size W).drewN (nq + 1)).alloc (Nat.le_refl _) _).grown (grown_setCell _ _ _ _) (by simp) (fun j hj => by injection hj with hj; omega)).grown (grown_setCell _ _ _ _) (by simp [World.setCell]) (fun j hj => by injection hj with hj; omega)).grown (grown_setCell _ _ _ _) (by simp [World.setCell]) (fun j hj => by injection hj with hj; omega))
  simp only [tok0] at hBn3 hbV
  obtain ⟨V, hV⟩ : ∃ V, V = (((((W.drewN (nq + 1)).alloc (.cells #[.int .i64 0, .int .i64 0, .int .i64 0] 76)).setCell ⟨W.heap.size, 0, none⟩ (.int .i64 p0)).setCell ⟨W.heap.size, 1, none⟩ (.int .i64 p1)).setCell ⟨W.heap.size, 2, none⟩ (.int .i64 p2)) := ⟨_, rfl⟩
  rw [← hV] at hBn3 hbV ⊢
  have hBg := hB1.below hbV hgW
  have hwW : w.heap.size < W.heap.size := by rw [HW.out]; simp
  have hBtV := hBt.below hbV hwW
  have k1 := hBg.cell (i := 1) (v := .int .i64 (u : Int)) rfl
  have y1 := hBg.frozen 1
  have hBg2 := hBg.set 1 (.int .i64 ((u : Int) + 1))
  have hg4 := grown_setCell V g 1 (.int .i64 ((u : Int) + 1))
  have hBn4 := hBn3.kept hg4 (by simp; omega)
  have hBt4 := hBtV.kept hg4 (by simp; omega)
  have m0 := hBn4.cell (i := 0) (v := .int .i64 p0) rfl
  have m1 := hBn4.cell (i := 1) (v := .int .i64 p1) rfl
  have m2 := hBn4.cell (i := 2) (v := .int .i64 p2) rfl
  have hgV : w.grownBy V (some g) := grown_below (grown_below (World.grownBy.refl _ _) hb (Nat.le_refl _)) hbV (by omega)
  have hgV4 : w.grownBy (V.setCell ⟨g, 1, none⟩ (.int .i64 ((u : Int) + 1))) (some g) := by
    refine ⟨hgV.os, hgV.tape, hgV.output, by have := hgV.size; simpa [World.setCell] using this, fun i hi hr => ?_⟩
    rw [Below.heap_setCell _ _ _ _ (fun e => hr (by rw [e]))]
    exact hgV.block i hi hr
  have hum : (u : Int) + 1 ≤ 9223372036854775807 := by unfold maxLen at hl; omega
  clear hV n0 n1 n2 z0 z1 z2 e0 e1 f0 f1 f2 hBn hBn1 hBn2 hBn3 c0 c1 d0 d1 d2 HW
  go_wp2_with (first
    | (refine wpList_store_blk (V.setCell ⟨g, 1, none⟩ (.int .i64 ((u : Int) + 1))) rfl 76 (.tmp 2) (.tmp 33) rfl w.heap.size tok0 [.int .i64 p0, .int .i64 p1, .int .i64 p2] 76 hBt4 rfl rfl info_tok rfl (tokv_one _ _ _) ?_; intro w5 HB7 hg7)
    | fail)
  refine bodyPost_ret (results_row_tmp rfl _ _ w.heap.size 76 #[.int .i64 p0, .int .i64 p1, .int .i64 p2] (0, 0) _ (.bool true) rfl rfl HB7 Try.underlying76 rfl info_tok) rfl ⟨rfl, grown_grown hgV4 hg7 (Nat.le_refl _), ?_⟩
  have hg8 := grown_grown hgV4 hg7 (Nat.le_refl _)
  refine ⟨?_, hS.grown hg8 hG (by omega), by omega⟩
  have := hBg2.kept hg7 (by simp; omega)
  exact this
end Go.Proofs.Ytddkhkpdbjjboaa

/- run.readFirst and run.readRest over a list of tokens: their contracts. -/
namespace Go.Proofs.Ytddkhkpdbjjboaa
open Go.RowKit
set_option linter.unusedVariables false
set_option linter.unusedSimpArgs false
set_option maxRecDepth 100000

abbrev srcV (g : Nat) : Value := .iface 167 (.pointer (some ⟨g, 0, none⟩))
set_option maxHeartbeats 1000000 in
theorem first_none (b : Int) (G g c : Nat) (A : Option Addr) (l : List (Int × Int × Int)) (w : World) (hs : PSrc G g A c l w l.length) (hl : l.length ≤ maxLen) :
    Calls Try.prog 107 #[.int .i64 b, srcV g] w fun e w' => e = .returned (.tuple #[.int .i64 0, .int .i64 3]) ∧ w.grownBy w' (some g) := by
  have HN := veil (pnext_none G g c A l w hs hl)
  clear hs
  unfold tokV at HN
  go_enter Try.func107, Try.ntmps107
  go_wp2_with fail
  refine HN.out.mono ?_
  rintro e w1 ⟨rfl, hb1⟩
  go_wp2
  go_ret2
  exact ⟨rfl, grown_below (grown_below (World.grownBy.refl _ _) hb1 (Nat.le_refl _)) (below1 _ _) hb1.size⟩
/-- A token of the source, and a box for it. -/
theorem boxed_tok {G g c u : Nat} {A : Option Addr} {l : List (Int × Int × Int)} {w w1 : World} (hg1 : w.grownBy w1 (some g)) (hs1 : PSrc G g A c l w1 u) (hG : G ≤ g) (hgw : g < w.heap.size) (xs : List Value) (t : TypeId) :
    w.grownBy (w1.alloc (.cells xs.toArray t)) (some g) ∧ PSrc G g A c l (w1.alloc (.cells xs.toArray t)) u := by
  have h := hg1.size
  exact ⟨grown_below hg1 (below1 w1 _) h, hs1.below (below1 w1 _) (by omega) (by omega)⟩
set_option maxHeartbeats 2000000 in
theorem first_bad (b : Int) (G g c u : Nat) (A : Option Addr) (l : List (Int × Int × Int)) (t : Int × Int × Int) (w : World) (hb : -2047 ≤ b ∧ b ≤ 2047) (hs : PSrc G g A c l w u) (hG : G ≤ g) (hl : l.length ≤ maxLen) (ht : l[u]? = some t) (hf : ¬ firstT b t) :
    Calls Try.prog 107 #[.int .i64 b, srcV g] w fun e w' => e = .returned (.tuple #[.int .i64 0, .int .i64 4]) ∧ w.grownBy w' (some g) := by
  have HN := veil (pnext_some G g c u A l t w hs hG hl ht)
  have hgw := hs.1.lt
  obtain ⟨p0, p1, p2⟩ := t
  have HBk := veil (fun W => back_any p1 p2 W)
  clear hs ht
  unfold tokV at HN
  by_cases h1 : p1 = p0
  · subst h1
    by_cases h2 : 12 < p1
    · go_enter Try.func107, Try.ntmps107
      go_wp2_with fail
      refine HN.out.mono ?_
      rintro e w1 ⟨rfl, hg1, hs1⟩
      obtain ⟨hg2, hs2⟩ := boxed_tok hg1 hs1 hG hgw [.int .i64 p1, .int .i64 p1, .int .i64 p2] 76
      go_wp2
      go_ret2
      exact ⟨rfl, hg2⟩
    · by_cases h3 : 0 ≤ p1 ∧ p1 ≤ 12 ∧ 0 ≤ p2 ∧ p2 < pw p1.toNat
      · have hq : ¬ (-2047 ≤ b + numT (p1, p1, p2) ∧ b + numT (p1, p1, p2) ≤ 2047) := fun h => hf ⟨by unfold fitT; exact decide_eq_true h3, rfl, h⟩
        have e1 : eB p1 p2 = 0 := if_pos h3
        have e2 : oB p1 p2 = numT (p1, p1, p2) := if_pos h3
        have hn : -4095 ≤ numT (p1, p1, p2) ∧ numT (p1, p1, p2) ≤ 4095 := by
          have h7 := bk_in h3.2.2.1 h3.2.2.2
          have h8 := pw_mono (a := p1.toNat) (b := 12) (by omega)
          have h9 : pw 12 = 4096 := by decide
          unfold numT; simp only []; omega
        rw [e1, e2] at HBk
        generalize numT (p1, p1, p2) = n at *
        have HC := veil (fun W => coef_no (b + n) (by omega) W)
        clear hf h3 e1 e2
        go_enter Try.func107, Try.ntmps107
        go_wp2_with fail
        refine HN.out.mono ?_
        rintro e w1 ⟨rfl, hg1, hs1⟩
        obtain ⟨hg2, hs2⟩ := boxed_tok hg1 hs1 hG hgw [.int .i64 p1, .int .i64 p1, .int .i64 p2] 76
        go_wp2_with fail
        refine (HBk.out _).mono ?_
        rintro e w2 ⟨rfl, rfl⟩
        go_wp2_with fail
        refine (HC.out _).mono ?_
        rintro e w2 ⟨rfl, rfl⟩
        go_wp2
        go_ret2
        exact ⟨rfl, hg2⟩
      · rw [eB_bad h3, oB_bad h3] at HBk
        clear hf h3
        go_enter Try.func107, Try.ntmps107
        go_wp2_with fail
        refine HN.out.mono ?_
        rintro e w1 ⟨rfl, hg1, hs1⟩
        obtain ⟨hg2, hs2⟩ := boxed_tok hg1 hs1 hG hgw [.int .i64 p1, .int .i64 p1, .int .i64 p2] 76
        go_wp2_with fail
        refine (HBk.out _).mono ?_
        rintro e w2 ⟨rfl, rfl⟩
        go_wp2
        go_ret2
        exact ⟨rfl, hg2⟩
  · have hne : (p1 != p0) = true := by simpa using h1
    go_enter Try.func107, Try.ntmps107
    go_wp2_with fail
    refine HN.out.mono ?_
    rintro e w1 ⟨rfl, hg1, hs1⟩
    obtain ⟨hg2, hs2⟩ := boxed_tok hg1 hs1 hG hgw [.int .i64 p0, .int .i64 p1, .int .i64 p2] 76
    go_wp2
    go_ret2
    exact ⟨rfl, hg2⟩
set_option maxHeartbeats 2000000 in
theorem first_ok (b : Int) (G g c u : Nat) (A : Option Addr) (l : List (Int × Int × Int)) (t : Int × Int × Int) (w : World) (hb : -2047 ≤ b ∧ b ≤ 2047) (hs : PSrc G g A c l w u) (hG : G ≤ g) (hl : l.length ≤ maxLen) (ht : l[u]? = some t) (hf : firstT b t) :
    Calls Try.prog 107 #[.int .i64 b, srcV g] w fun e w' => e = .returned (.tuple #[.int .i64 (b + numT t), .int .i64 0]) ∧ w.grownBy w' (some g) ∧ PSrc G g A c l w' (u + 1) := by
  have HN := veil (pnext_some G g c u A l t w hs hG hl ht)
  have hgw := hs.1.lt
  obtain ⟨p0, p1, p2⟩ := t
  have HBk := veil (fun W => back_any p1 p2 W)
  clear hs ht
  unfold tokV at HN
  obtain ⟨h3, h1, hq⟩ := hf
  have h1 : p0 = p1 := h1
  subst h1
  unfold fitT at h3
  have h3 := of_decide_eq_true h3
  simp only [] at h3
  have e1 : eB p0 p2 = 0 := if_pos h3
  have e2 : oB p0 p2 = numT (p0, p0, p2) := if_pos h3
  have hn : -4095 ≤ numT (p0, p0, p2) ∧ numT (p0, p0, p2) ≤ 4095 := by
    have h7 := bk_in h3.2.2.1 h3.2.2.2
    have h8 := pw_mono (a := p0.toNat) (b := 12) (by omega)
    have h9 : pw 12 = 4096 := by decide
    unfold numT; simp only []; omega
  rw [e1, e2] at HBk
  generalize numT (p0, p0, p2) = n at *
  have HC := veil (fun W => coef_yes (b + n) hq W)
  have h2 : ¬ 12 < p0 := by omega
  clear h3 e1 e2
  go_enter Try.func107, Try.ntmps107
  go_wp2_with fail
  refine HN.out.mono ?_
  rintro e w1 ⟨rfl, hg1, hs1⟩
  obtain ⟨hg2, hs2⟩ := boxed_tok hg1 hs1 hG hgw [.int .i64 p0, .int .i64 p0, .int .i64 p2] 76
  go_wp2_with fail
  refine (HBk.out _).mono ?_
  rintro e w2 ⟨rfl, rfl⟩
  go_wp2_with fail
  refine (HC.out _).mono ?_
  rintro e w2 ⟨rfl, rfl⟩
  go_wp2
  go_ret2
  exact ⟨rfl, hg2, hs2⟩
set_option maxHeartbeats 1000000 in
theorem rest_none (G g c : Nat) (A : Option Addr) (l : List (Int × Int × Int)) (w : World) (hs : PSrc G g A c l w l.length) (hl : l.length ≤ maxLen) :
    Calls Try.prog 108 #[srcV g] w fun e w' => e = .returned (.tuple #[.int .i64 0, .int .i64 0, .int .i64 3]) ∧ w.grownBy w' (some g) := by
  have HN := veil (pnext_none G g c A l w hs hl)
  clear hs
  unfold tokV at HN
  go_enter Try.func108, Try.ntmps108
  go_wp2_with fail
  refine HN.out.mono ?_
  rintro e w1 ⟨rfl, hb1⟩
  go_wp2
  go_ret3
  exact ⟨rfl, grown_below (grown_below (World.grownBy.refl _ _) hb1 (Nat.le_refl _)) (below1 _ _) hb1.size⟩
end Go.Proofs.Ytddkhkpdbjjboaa

/- run.readRest over a list of tokens: its contract. -/
namespace Go.Proofs.Ytddkhkpdbjjboaa
open Go.RowKit
set_option linter.unusedVariables false
set_option linter.unusedSimpArgs false
set_option maxRecDepth 100000

theorem drewN_g {w w1 : World} {g : Nat} (h : w.grownBy w1 (some g)) (n : Nat) : w.grownBy (w1.drewN n) (some g) := ⟨h.os, h.tape, h.output, h.size, h.block⟩
set_option maxHeartbeats 2000000 in
theorem rest_bad1 (G g c u : Nat) (A : Option Addr) (l : List (Int × Int × Int)) (p0 p1 p2 : Int) (w : World) (hs : PSrc G g A c l w u) (hG : G ≤ g) (hl : l.length ≤ maxLen) (ht : l[u]? = some (p0, p1, p2)) (h : p0 < 0) :
    Calls Try.prog 108 #[srcV g] w fun e w' => e = .returned (.tuple #[.int .i64 0, .int .i64 0, .int .i64 4]) ∧ w.grownBy w' (some g) := by
  have HN := veil (pnext_some G g c u A l _ w hs hG hl ht)
  have hgw := hs.1.lt
  clear hs ht
  unfold tokV at HN
  skip
  go_enter Try.func108, Try.ntmps108
  go_wp2_with fail
  refine HN.out.mono ?_
  rintro e w1 ⟨rfl, hg1, hs1⟩
  obtain ⟨hg2, hs2⟩ := boxed_tok hg1 hs1 hG hgw [.int .i64 p0, .int .i64 p1, .int .i64 p2] 76
  have HBt := Blk.new w1 [.int .i64 p0, .int .i64 p1, .int .i64 p2] 76
  have k0 := HBt.cell (i := 0) (v := .int .i64 p0) rfl
  have k1 := HBt.cell (i := 1) (v := .int .i64 p1) rfl
  have k2 := HBt.cell (i := 2) (v := .int .i64 p2) rfl
  clear HBt
  go_wp2_with fail
  obtain ⟨W2, hW2⟩ : ∃ W2, W2 = w1.alloc (.cells #[.int .i64 p0, .int .i64 p1, .int .i64 p2] 76) := ⟨_, rfl⟩
  rw [← hW2] at hg2 hs2 k0 k1 k2 ⊢
  clear hW2
  go_quiet (fail)
  go_wp2
  go_ret3
  exact ⟨rfl, drewN_g hg2 _⟩
set_option maxHeartbeats 2000000 in
theorem rest_bad2 (G g c u : Nat) (A : Option Addr) (l : List (Int × Int × Int)) (p0 p1 p2 : Int) (w : World) (hs : PSrc G g A c l w u) (hG : G ≤ g) (hl : l.length ≤ maxLen) (ht : l[u]? = some (p0, p1, p2)) (h0 : 0 ≤ p0) (h : p1 ≠ p0 % 16) :
    Calls Try.prog 108 #[srcV g] w fun e w' => e = .returned (.tuple #[.int .i64 0, .int .i64 0, .int .i64 4]) ∧ w.grownBy w' (some g) := by
  have HN := veil (pnext_some G g c u A l _ w hs hG hl ht)
  have hgw := hs.1.lt
  clear hs ht
  unfold tokV at HN
  have hne : (p1 != p0 % 16) = true := by simpa using h
  have hn0 : ¬ p0 < 0 := by omega
  go_enter Try.func108, Try.ntmps108
  go_wp2_with fail
  refine HN.out.mono ?_
  rintro e w1 ⟨rfl, hg1, hs1⟩
  obtain ⟨hg2, hs2⟩ := boxed_tok hg1 hs1 hG hgw [.int .i64 p0, .int .i64 p1, .int .i64 p2] 76
  have HBt := Blk.new w1 [.int .i64 p0, .int .i64 p1, .int .i64 p2] 76
  have k0 := HBt.cell (i := 0) (v := .int .i64 p0) rfl
  have k1 := HBt.cell (i := 1) (v := .int .i64 p1) rfl
  have k2 := HBt.cell (i := 2) (v := .int .i64 p2) rfl
  clear HBt
  go_wp2_with fail
  obtain ⟨W2, hW2⟩ : ∃ W2, W2 = w1.alloc (.cells #[.int .i64 p0, .int .i64 p1, .int .i64 p2] 76) := ⟨_, rfl⟩
  rw [← hW2] at hg2 hs2 k0 k1 k2 ⊢
  clear hW2
  go_quiet (fail)
  go_wp2
  go_ret3
  exact ⟨rfl, drewN_g hg2 _⟩
set_option maxHeartbeats 2000000 in
theorem rest_bad3 (G g c u : Nat) (A : Option Addr) (l : List (Int × Int × Int)) (p0 p1 p2 : Int) (w : World) (hs : PSrc G g A c l w u) (hG : G ≤ g) (hl : l.length ≤ maxLen) (ht : l[u]? = some (p0, p1, p2)) (h0 : 0 ≤ p0) (h : p0 % 16 = p1) (h2 : 11 < p1) :
    Calls Try.prog 108 #[srcV g] w fun e w' => e = .returned (.tuple #[.int .i64 0, .int .i64 0, .int .i64 4]) ∧ w.grownBy w' (some g) := by
  have HN := veil (pnext_some G g c u A l _ w hs hG hl ht)
  have hgw := hs.1.lt
  clear hs ht
  unfold tokV at HN
  have hn0 : ¬ p0 < 0 := by omega
  go_enter Try.func108, Try.ntmps108
  go_wp2_with fail
  refine HN.out.mono ?_
  rintro e w1 ⟨rfl, hg1, hs1⟩
  obtain ⟨hg2, hs2⟩ := boxed_tok hg1 hs1 hG hgw [.int .i64 p0, .int .i64 p1, .int .i64 p2] 76
  have HBt := Blk.new w1 [.int .i64 p0, .int .i64 p1, .int .i64 p2] 76
  have k0 := HBt.cell (i := 0) (v := .int .i64 p0) rfl
  have k1 := HBt.cell (i := 1) (v := .int .i64 p1) rfl
  have k2 := HBt.cell (i := 2) (v := .int .i64 p2) rfl
  clear HBt
  go_wp2_with fail
  obtain ⟨W2, hW2⟩ : ∃ W2, W2 = w1.alloc (.cells #[.int .i64 p0, .int .i64 p1, .int .i64 p2] 76) := ⟨_, rfl⟩
  rw [← hW2] at hg2 hs2 k0 k1 k2 ⊢
  clear hW2
  go_quiet (fail)
  go_wp2
  go_ret3
  exact ⟨rfl, drewN_g hg2 _⟩
set_option maxHeartbeats 2000000 in
theorem rest_bad4 (G g c u : Nat) (A : Option Addr) (l : List (Int × Int × Int)) (p0 p1 p2 : Int) (w : World) (hs : PSrc G g A c l w u) (hG : G ≤ g) (hl : l.length ≤ maxLen) (ht : l[u]? = some (p0, p1, p2)) (h0 : 0 ≤ p0) (h : p0 % 16 = p1) (h2 : p1 = 0) (h3 : p0 ≠ 0) (h4 : p0 ≠ 240) :
    Calls Try.prog 108 #[srcV g] w fun e w' => e = .returned (.tuple #[.int .i64 0, .int .i64 0, .int .i64 4]) ∧ w.grownBy w' (some g) := by
  have HN := veil (pnext_some G g c u A l _ w hs hG hl ht)
  have hgw := hs.1.lt
  clear hs ht
  unfold tokV at HN
  subst h2
  have hn0 : ¬ p0 < 0 := by omega
  have h5 : (p0 != 0) = true := by simpa using h3
  have h6 : (p0 != 240) = true := by simpa using h4
  go_enter Try.func108, Try.ntmps108
  go_wp2_with fail
  refine HN.out.mono ?_
  rintro e w1 ⟨rfl, hg1, hs1⟩
  obtain ⟨hg2, hs2⟩ := boxed_tok hg1 hs1 hG hgw [.int .i64 p0, .int .i64 0, .int .i64 p2] 76
  have HBt := Blk.new w1 [.int .i64 p0, .int .i64 0, .int .i64 p2] 76
  have k0 := HBt.cell (i := 0) (v := .int .i64 p0) rfl
  have k1 := HBt.cell (i := 1) (v := .int .i64 0) rfl
  have k2 := HBt.cell (i := 2) (v := .int .i64 p2) rfl
  clear HBt
  go_wp2_with fail
  obtain ⟨W2, hW2⟩ : ∃ W2, W2 = w1.alloc (.cells #[.int .i64 p0, .int .i64 0, .int .i64 p2] 76) := ⟨_, rfl⟩
  rw [← hW2] at hg2 hs2 k0 k1 k2 ⊢
  clear hW2
  go_quiet (fail)
  go_wp2
  go_ret3
  exact ⟨rfl, drewN_g hg2 _⟩
set_option maxHeartbeats 2000000 in
theorem rest_bad5A (G g c u : Nat) (A : Option Addr) (l : List (Int × Int × Int)) (p0 p1 p2 : Int) (w : World) (hs : PSrc G g A c l w u) (hG : G ≤ g) (hl : l.length ≤ maxLen) (ht : l[u]? = some (p0, p1, p2)) (h0 : 0 ≤ p0) (h : p0 % 16 = p1) (h1 : p1 ≤ 11) (h2 : p1 ≠ 0) (h9 : ¬ (0 ≤ p1 ∧ p1 ≤ 12 ∧ 0 ≤ p2 ∧ p2 < pw p1.toNat)) :
    Calls Try.prog 108 #[srcV g] w fun e w' => e = .returned (.tuple #[.int .i64 0, .int .i64 0, .int .i64 4]) ∧ w.grownBy w' (some g) := by
  have HN := veil (pnext_some G g c u A l _ w hs hG hl ht)
  have hgw := hs.1.lt
  clear hs ht
  unfold tokV at HN
  have HBk := veil (fun W => back_any p1 p2 W)
  rw [eB_bad h9, oB_bad h9] at HBk
  clear h9
  have hn0 : ¬ p0 < 0 := by omega
  have hn1 : ¬ 11 < p1 := by omega
  have h5 : (p1 == 0) = false := by simpa using h2
  go_enter Try.func108, Try.ntmps108
  go_wp2_with fail
  refine HN.out.mono ?_
  rintro e w1 ⟨rfl, hg1, hs1⟩
  obtain ⟨hg2, hs2⟩ := boxed_tok hg1 hs1 hG hgw [.int .i64 p0, .int .i64 p1, .int .i64 p2] 76
  have HBt := Blk.new w1 [.int .i64 p0, .int .i64 p1, .int .i64 p2] 76
  have k0 := HBt.cell (i := 0) (v := .int .i64 p0) rfl
  have k1 := HBt.cell (i := 1) (v := .int .i64 p1) rfl
  have k2 := HBt.cell (i := 2) (v := .int .i64 p2) rfl
  clear HBt
  go_wp2_with fail
  obtain ⟨W2, hW2⟩ : ∃ W2, W2 = w1.alloc (.cells #[.int .i64 p0, .int .i64 p1, .int .i64 p2] 76) := ⟨_, rfl⟩
  rw [← hW2] at hg2 hs2 k0 k1 k2 ⊢
  clear hW2
  go_quiet (fail)
  go_wp2_with fail
  refine (HBk.out _).mono ?_
  rintro e w3 ⟨rfl, rfl⟩
  go_wp2
  go_ret3
  exact ⟨rfl, drewN_g hg2 _⟩
set_option maxHeartbeats 2000000 in
theorem rest_okA (G g c u : Nat) (A : Option Addr) (l : List (Int × Int × Int)) (p0 p1 p2 : Int) (w : World) (hs : PSrc G g A c l w u) (hG : G ≤ g) (hl : l.length ≤ maxLen) (ht : l[u]? = some (p0, p1, p2)) (h0 : 0 ≤ p0) (h : p0 % 16 = p1) (h1 : p1 ≤ 11) (h2 : p1 ≠ 0) (hp : p0 ≤ 9223372036854775807) (h9 : 0 ≤ p1 ∧ p1 ≤ 12 ∧ 0 ≤ p2 ∧ p2 < pw p1.toNat) :
    Calls Try.prog 108 #[srcV g] w fun e w' => e = .returned (.tuple #[.int .i64 (p0 / 16), .int .i64 (numT (p0, p1, p2)), .int .i64 0]) ∧ w.grownBy w' (some g) ∧ PSrc G g A c l w' (u + 1) := by
  have HN := veil (pnext_some G g c u A l _ w hs hG hl ht)
  have hgw := hs.1.lt
  clear hs ht
  unfold tokV at HN
  have HBk := veil (fun W => back_any p1 p2 W)
  rw [show eB p1 p2 = 0 from if_pos h9, show oB p1 p2 = numT (p0, p1, p2) from if_pos h9] at HBk
  clear h9
  generalize numT (p0, p1, p2) = n at *
  have hn0 : ¬ p0 < 0 := by omega
  have hn1 : ¬ 11 < p1 := by omega
  have h5 : (p1 == 0) = false := by simpa using h2
  go_enter Try.func108, Try.ntmps108
  go_wp2_with fail
  refine HN.out.mono ?_
  rintro e w1 ⟨rfl, hg1, hs1⟩
  obtain ⟨hg2, hs2⟩ := boxed_tok hg1 hs1 hG hgw [.int .i64 p0, .int .i64 p1, .int .i64 p2] 76
  have HBt := Blk.new w1 [.int .i64 p0, .int .i64 p1, .int .i64 p2] 76
  have k0 := HBt.cell (i := 0) (v := .int .i64 p0) rfl
  have k1 := HBt.cell (i := 1) (v := .int .i64 p1) rfl
  have k2 := HBt.cell (i := 2) (v := .int .i64 p2) rfl
  clear HBt
  go_wp2_with fail
  obtain ⟨W2, hW2⟩ : ∃ W2, W2 = w1.alloc (.cells #[.int .i64 p0, .int .i64 p1, .int .i64 p2] 76) := ⟨_, rfl⟩
  rw [← hW2] at hg2 hs2 k0 k1 k2 ⊢
  clear hW2
  go_quiet (fail)
  go_wp2_with fail
  refine (HBk.out _).mono ?_
  rintro e w3 ⟨rfl, rfl⟩
  go_wp2
  go_ret3
  exact ⟨rfl, drewN_g hg2 _, hs2⟩
set_option maxHeartbeats 2000000 in
theorem rest_bad5B (G g c u : Nat) (A : Option Addr) (l : List (Int × Int × Int)) (p0 p1 p2 : Int) (w : World) (hs : PSrc G g A c l w u) (hG : G ≤ g) (hl : l.length ≤ maxLen) (ht : l[u]? = some (p0, p1, p2)) (h0 : 0 ≤ p0) (h : p0 % 16 = p1) (h1 : p1 ≤ 11) (h2 : p1 = 0) (h3 : p0 = 0) (h9 : ¬ (0 ≤ p1 ∧ p1 ≤ 12 ∧ 0 ≤ p2 ∧ p2 < pw p1.toNat)) :
    Calls Try.prog 108 #[srcV g] w fun e w' => e = .returned (.tuple #[.int .i64 0, .int .i64 0, .int .i64 4]) ∧ w.grownBy w' (some g) := by
  have HN := veil (pnext_some G g c u A l _ w hs hG hl ht)
  have hgw := hs.1.lt
  clear hs ht
  unfold tokV at HN
  have HBk := veil (fun W => back_any p1 p2 W)
  rw [eB_bad h9, oB_bad h9] at HBk
  clear h9
  have hn0 : ¬ p0 < 0 := by omega
  have hn1 : ¬ 11 < p1 := by omega
  subst h2 h3
  go_enter Try.func108, Try.ntmps108
  go_wp2_with fail
  refine HN.out.mono ?_
  rintro e w1 ⟨rfl, hg1, hs1⟩
  obtain ⟨hg2, hs2⟩ := boxed_tok hg1 hs1 hG hgw [.int .i64 0, .int .i64 0, .int .i64 p2] 76
  have HBt := Blk.new w1 [.int .i64 0, .int .i64 0, .int .i64 p2] 76
  have k0 := HBt.cell (i := 0) (v := .int .i64 0) rfl
  have k1 := HBt.cell (i := 1) (v := .int .i64 0) rfl
  have k2 := HBt.cell (i := 2) (v := .int .i64 p2) rfl
  clear HBt
  go_wp2_with fail
  obtain ⟨W2, hW2⟩ : ∃ W2, W2 = w1.alloc (.cells #[.int .i64 0, .int .i64 0, .int .i64 p2] 76) := ⟨_, rfl⟩
  rw [← hW2] at hg2 hs2 k0 k1 k2 ⊢
  clear hW2
  go_quiet (fail)
  go_wp2_with fail
  refine (HBk.out _).mono ?_
  rintro e w3 ⟨rfl, rfl⟩
  go_wp2
  go_ret3
  exact ⟨rfl, drewN_g hg2 _⟩
set_option maxHeartbeats 2000000 in
theorem rest_okB (G g c u : Nat) (A : Option Addr) (l : List (Int × Int × Int)) (p0 p1 p2 : Int) (w : World) (hs : PSrc G g A c l w u) (hG : G ≤ g) (hl : l.length ≤ maxLen) (ht : l[u]? = some (p0, p1, p2)) (h0 : 0 ≤ p0) (h : p0 % 16 = p1) (h1 : p1 ≤ 11) (h2 : p1 = 0) (h3 : p0 = 0) (h9 : 0 ≤ p1 ∧ p1 ≤ 12 ∧ 0 ≤ p2 ∧ p2 < pw p1.toNat) :
    Calls Try.prog 108 #[srcV g] w fun e w' => e = .returned (.tuple #[.int .i64 (p0 / 16), .int .i64 (numT (p0, p1, p2)), .int .i64 0]) ∧ w.grownBy w' (some g) ∧ PSrc G g A c l w' (u + 1) := by
  have HN := veil (pnext_some G g c u A l _ w hs hG hl ht)
  have hgw := hs.1.lt
  clear hs ht
  unfold tokV at HN
  have HBk := veil (fun W => back_any p1 p2 W)
  rw [show eB p1 p2 = 0 from if_pos h9, show oB p1 p2 = numT (p0, p1, p2) from if_pos h9] at HBk
  clear h9
  generalize numT (p0, p1, p2) = n at *
  have hn0 : ¬ p0 < 0 := by omega
  have hn1 : ¬ 11 < p1 := by omega
  subst h2 h3
  go_enter Try.func108, Try.ntmps108
  go_wp2_with fail
  refine HN.out.mono ?_
  rintro e w1 ⟨rfl, hg1, hs1⟩
  obtain ⟨hg2, hs2⟩ := boxed_tok hg1 hs1 hG hgw [.int .i64 0, .int .i64 0, .int .i64 p2] 76
  have HBt := Blk.new w1 [.int .i64 0, .int .i64 0, .int .i64 p2] 76
  have k0 := HBt.cell (i := 0) (v := .int .i64 0) rfl
  have k1 := HBt.cell (i := 1) (v := .int .i64 0) rfl
  have k2 := HBt.cell (i := 2) (v := .int .i64 p2) rfl
  clear HBt
  go_wp2_with fail
  obtain ⟨W2, hW2⟩ : ∃ W2, W2 = w1.alloc (.cells #[.int .i64 0, .int .i64 0, .int .i64 p2] 76) := ⟨_, rfl⟩
  rw [← hW2] at hg2 hs2 k0 k1 k2 ⊢
  clear hW2
  go_quiet (fail)
  go_wp2_with fail
  refine (HBk.out _).mono ?_
  rintro e w3 ⟨rfl, rfl⟩
  go_wp2
  go_ret3
  exact ⟨rfl, drewN_g hg2 _, hs2⟩
set_option maxHeartbeats 2000000 in
theorem rest_bad5C (G g c u : Nat) (A : Option Addr) (l : List (Int × Int × Int)) (p0 p1 p2 : Int) (w : World) (hs : PSrc G g A c l w u) (hG : G ≤ g) (hl : l.length ≤ maxLen) (ht : l[u]? = some (p0, p1, p2)) (h0 : 0 ≤ p0) (h : p0 % 16 = p1) (h1 : p1 ≤ 11) (h2 : p1 = 0) (h3 : p0 = 240) (h9 : ¬ (0 ≤ p1 ∧ p1 ≤ 12 ∧ 0 ≤ p2 ∧ p2 < pw p1.toNat)) :
    Calls Try.prog 108 #[srcV g] w fun e w' => e = .returned (.tuple #[.int .i64 0, .int .i64 0, .int .i64 4]) ∧ w.grownBy w' (some g) := by
  have HN := veil (pnext_some G g c u A l _ w hs hG hl ht)
  have hgw := hs.1.lt
  clear hs ht
  unfold tokV at HN
  have HBk := veil (fun W => back_any p1 p2 W)
  rw [eB_bad h9, oB_bad h9] at HBk
  clear h9
  have hn0 : ¬ p0 < 0 := by omega
  have hn1 : ¬ 11 < p1 := by omega
  subst h2 h3
  go_enter Try.func108, Try.ntmps108
  go_wp2_with fail
  refine HN.out.mono ?_
  rintro e w1 ⟨rfl, hg1, hs1⟩
  obtain ⟨hg2, hs2⟩ := boxed_tok hg1 hs1 hG hgw [.int .i64 240, .int .i64 0, .int .i64 p2] 76
  have HBt := Blk.new w1 [.int .i64 240, .int .i64 0, .int .i64 p2] 76
  have k0 := HBt.cell (i := 0) (v := .int .i64 240) rfl
  have k1 := HBt.cell (i := 1) (v := .int .i64 0) rfl
  have k2 := HBt.cell (i := 2) (v := .int .i64 p2) rfl
  clear HBt
  go_wp2_with fail
  obtain ⟨W2, hW2⟩ : ∃ W2, W2 = w1.alloc (.cells #[.int .i64 240, .int .i64 0, .int .i64 p2] 76) := ⟨_, rfl⟩
  rw [← hW2] at hg2 hs2 k0 k1 k2 ⊢
  clear hW2
  go_quiet (fail)
  go_wp2_with fail
  refine (HBk.out _).mono ?_
  rintro e w3 ⟨rfl, rfl⟩
  go_wp2
  go_ret3
  exact ⟨rfl, drewN_g hg2 _⟩
set_option maxHeartbeats 2000000 in
theorem rest_okC (G g c u : Nat) (A : Option Addr) (l : List (Int × Int × Int)) (p0 p1 p2 : Int) (w : World) (hs : PSrc G g A c l w u) (hG : G ≤ g) (hl : l.length ≤ maxLen) (ht : l[u]? = some (p0, p1, p2)) (h0 : 0 ≤ p0) (h : p0 % 16 = p1) (h1 : p1 ≤ 11) (h2 : p1 = 0) (h3 : p0 = 240) (h9 : 0 ≤ p1 ∧ p1 ≤ 12 ∧ 0 ≤ p2 ∧ p2 < pw p1.toNat) :
    Calls Try.prog 108 #[srcV g] w fun e w' => e = .returned (.tuple #[.int .i64 (p0 / 16), .int .i64 (numT (p0, p1, p2)), .int .i64 0]) ∧ w.grownBy w' (some g) ∧ PSrc G g A c l w' (u + 1) := by
  have HN := veil (pnext_some G g c u A l _ w hs hG hl ht)
  have hgw := hs.1.lt
  clear hs ht
  unfold tokV at HN
  have HBk := veil (fun W => back_any p1 p2 W)
  rw [show eB p1 p2 = 0 from if_pos h9, show oB p1 p2 = numT (p0, p1, p2) from if_pos h9] at HBk
  clear h9
  generalize numT (p0, p1, p2) = n at *
  have hn0 : ¬ p0 < 0 := by omega
  have hn1 : ¬ 11 < p1 := by omega
  subst h2 h3
  go_enter Try.func108, Try.ntmps108
  go_wp2_with fail
  refine HN.out.mono ?_
  rintro e w1 ⟨rfl, hg1, hs1⟩
  obtain ⟨hg2, hs2⟩ := boxed_tok hg1 hs1 hG hgw [.int .i64 240, .int .i64 0, .int .i64 p2] 76
  have HBt := Blk.new w1 [.int .i64 240, .int .i64 0, .int .i64 p2] 76
  have k0 := HBt.cell (i := 0) (v := .int .i64 240) rfl
  have k1 := HBt.cell (i := 1) (v := .int .i64 0) rfl
  have k2 := HBt.cell (i := 2) (v := .int .i64 p2) rfl
  clear HBt
  go_wp2_with fail
  obtain ⟨W2, hW2⟩ : ∃ W2, W2 = w1.alloc (.cells #[.int .i64 240, .int .i64 0, .int .i64 p2] 76) := ⟨_, rfl⟩
  rw [← hW2] at hg2 hs2 k0 k1 k2 ⊢
  clear hW2
  go_quiet (fail)
  go_wp2_with fail
  refine (HBk.out _).mono ?_
  rintro e w3 ⟨rfl, rfl⟩
  go_wp2
  go_ret3
  exact ⟨rfl, drewN_g hg2 _, hs2⟩
theorem rest_bad (G g c u : Nat) (A : Option Addr) (l : List (Int × Int × Int)) (t : Int × Int × Int) (w : World) (hs : PSrc G g A c l w u) (hG : G ≤ g) (hl : l.length ≤ maxLen) (ht : l[u]? = some t) (h : okQ t = false) :
    Calls Try.prog 108 #[srcV g] w fun e w' => e = .returned (.tuple #[.int .i64 0, .int .i64 0, .int .i64 4]) ∧ w.grownBy w' (some g) := by
  obtain ⟨p0, p1, p2⟩ := t
  have hn : ¬ ((0 ≤ p1 ∧ p1 ≤ 12 ∧ 0 ≤ p2 ∧ p2 < pw p1.toNat) ∧ 0 ≤ p0 ∧ p0 % 16 = p1 ∧ p1 ≤ 11 ∧ (p1 = 0 → p0 = 0 ∨ p0 = 240)) := fun q => by
    have : okQ (p0, p1, p2) = true := by
      unfold okQ fitT
      rw [Bool.and_eq_true]
      exact ⟨decide_eq_true q.1, decide_eq_true q.2⟩
    rw [this] at h; cases h
  by_cases h0 : 0 ≤ p0
  · by_cases h1 : p0 % 16 = p1
    · by_cases h2 : 11 < p1
      · exact rest_bad3 G g c u A l p0 p1 p2 w hs hG hl ht h0 h1 h2
      · by_cases h3 : p1 = 0
        · by_cases h4 : p0 = 0
          · exact rest_bad5B G g c u A l p0 p1 p2 w hs hG hl ht h0 h1 (by omega) h3 h4 (fun q => hn ⟨q, h0, h1, by omega, fun _ => .inl h4⟩)
          · by_cases h5 : p0 = 240
            · exact rest_bad5C G g c u A l p0 p1 p2 w hs hG hl ht h0 h1 (by omega) h3 h5 (fun q => hn ⟨q, h0, h1, by omega, fun _ => .inr h5⟩)
            · exact rest_bad4 G g c u A l p0 p1 p2 w hs hG hl ht h0 h1 h3 h4 h5
        · exact rest_bad5A G g c u A l p0 p1 p2 w hs hG hl ht h0 h1 (by omega) h3 (fun q => hn ⟨q, h0, h1, by omega, fun e => absurd e h3⟩)
    · exact rest_bad2 G g c u A l p0 p1 p2 w hs hG hl ht h0 (fun e => h1 e.symm)
  · exact rest_bad1 G g c u A l p0 p1 p2 w hs hG hl ht (by omega)
theorem rest_ok (G g c u : Nat) (A : Option Addr) (l : List (Int × Int × Int)) (t : Int × Int × Int) (w : World) (hs : PSrc G g A c l w u) (hG : G ≤ g) (hl : l.length ≤ maxLen) (ht : l[u]? = some t) (hp : t.1 ≤ 9223372036854775807) (h : okQ t = true) :
    Calls Try.prog 108 #[srcV g] w fun e w' => e = .returned (.tuple #[.int .i64 (t.1 / 16), .int .i64 (numT t), .int .i64 0]) ∧ w.grownBy w' (some g) ∧ PSrc G g A c l w' (u + 1) := by
  obtain ⟨p0, p1, p2⟩ := t
  obtain ⟨h9, h0, h1, h2, h3⟩ := okQ_fit h
  simp only [] at h9 h0 h1 h2 h3 hp
  by_cases h4 : p1 = 0
  · rcases h3 h4 with h5 | h5
    · exact rest_okB G g c u A l p0 p1 p2 w hs hG hl ht h0 h1 h2 h4 h5 h9
    · exact rest_okC G g c u A l p0 p1 p2 w hs hG hl ht h0 h1 h2 h4 h5 h9
  · exact rest_okA G g c u A l p0 p1 p2 w hs hG hl ht h0 h1 h2 h4 hp h9
end Go.Proofs.Ytddkhkpdbjjboaa
