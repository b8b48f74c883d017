/- The law on how many tokens a block has, walked. -/
import Derived.Test.YtemckjkdlbipcaaRunKeep
import Derived.Test.YtemckjkdlbipcaaCutTok
import Derived.Test.YtemckjkdlbipcaaZigTo
namespace Go.Proofs.Ytemckjkdlbipcaa
open Go.RowKit
set_option linter.unusedVariables false
set_option linter.unusedSimpArgs false
set_option maxRecDepth 100000

theorem fullN_snoc (x : Int) : ∀ l : List Int, fullN (l ++ [x]) = fullN l + if x = 0 then 0 else 1
  | [] => by simp only [List.nil_append, fullN]; split <;> rfl
  | z :: l => by
    rw [List.cons_append, fullN, fullN, fullN_snoc x l]
    by_cases h : z = 0
    · rw [if_pos h, if_pos h]
    · rw [if_neg h, if_neg h]; omega
theorem fullN_take {zs : List Int} {k : Nat} {x : Int} (h : zs[k]? = some x) : fullN (zs.take (k + 1)) = fullN (zs.take k) + if x = 0 then 0 else 1 := by rw [take_snoc h, fullN_snoc]
theorem fullN_le : ∀ l : List Int, fullN l ≤ l.length
  | [] => Nat.le_refl _
  | z :: l => by have := fullN_le l; rw [fullN, List.length_cons]; split <;> omega
theorem long_take {R : List (Int × Int × Int)} {k : Nat} {t : Int × Int × Int} (h : R[k]? = some t) : (R.take (k + 1)).countP isLong = (R.take k).countP isLong + if t.1 = 240 then 1 else 0 := by
  rw [take_snoc h, List.countP_append, List.countP_cons, List.countP_nil]
  simp [isLong]
set_option maxHeartbeats 4000000 in
set_option maxRecDepth 100000 in
theorem runFew_walk (b : Int) (cs : List Int) (w : World) (hb : -9223372036854775808 ≤ b ∧ b ≤ 9223372036854775807) (hc : cs.length = 64) :
    Calls Try.prog 7 #[.int .i64 b, blkV cs] w fun e w' => e = .returned (.bool true) ∧ Below w.heap.size w w' := by
  have hb00 := below1 w (.cells (ints .i64 cs).toArray 23)
  have hz0 : (w.alloc (.cells (ints .i64 cs).toArray 23)).heap.size = w.heap.size + 1 := by simp
  have HBx := Blk.new w (ints .i64 cs) 23
  have H0 := veil (ranned_any (w.alloc (.cells (ints .i64 cs).toArray 23)))
  have H1 := veil (fun W => tokens_any b cs W hc)
  have H2 := veil (fun W => to_any cs W hc)
  have HTok : Hid (eT b cs = 0 → ∃ z zs, toL cs = z :: zs ∧ zs.length = 63 ∧ oT b cs = toksZ b (z :: zs) ∧ ∀ x ∈ zs, -2047 ≤ x ∧ x ≤ 2047) := fun h => by
    obtain ⟨_, _, h3⟩ := eT_zero h
    have h4 := toL_in hc h3
    rw [oT_ok h]
    match hz : toL cs, toL_length cs with
    | [], h => simp at h
    | z :: zs, h => exact ⟨z, zs, rfl, by simpa using h, rfl, fun x hx => h4 x (by rw [hz]; exact List.mem_cons_of_mem _ hx)⟩
  have hE1 := veil (eT_two b cs)
  have Hl : Hid ((ints .i64 cs).length = 64) := by show _ = _; rw [ints_length, hc]
  unfold blkV at *
  generalize ints .i64 cs = xs at *
  go_enter Try.func7, Try.ntmps7
  go_wp2_with fail
  refine H0.out.mono ?_
  rintro e w0 ⟨rfl, hb0⟩
  have HB0 := HBx.below hb0 (by rw [hz0]; omega)
  have hr0 := HB0.range
  have hbw0 := hb00.trans (hb0.mono (by rw [hz0]; omega))
  have hz00 := hb0.size
  rw [hz0] at hz00
  clear H0 HBx hb0 hb00
  go_wp2_with (first
    | (refine wpList_load_mid rfl 23 (.tmp 3) rfl w.heap.size 0 rfl xs _ hr0 Try.underlying23 rfl (info_blkn Hl.out) ?_)
    | fail)
  refine (H1.out _).mono ?_
  rintro e w1 ⟨v1, rfl, HO1, hb1⟩
  have hr1 := (HB0.below hb1 (by omega)).range
  have hbw1 := hbw0.trans (hb1.mono hbw0.size)
  clear hr0 H1 HB0 hbw0 hb1
  rcases hE1.out with h1 | h1
  · obtain ⟨z, zs, hz, hzs, hT, hzin⟩ := HTok.out h1
    rw [h1]
    rw [hT] at HO1
    rw [hz] at H2
    have HF := veil (few_all (before := b) (z := z) hzs hzin)
    have HEL : Hid (endT 0 zs = if zs[62]? = some 0 then 1 else 0) := by
      show _ = _
      rw [endT_last, List.replicate_zero, List.nil_append, List.getLast?_eq_getElem?, hzs]
    have HTT : Hid (toksZ b (z :: zs) = tkN 0 (z - b) :: restT 0 zs) := rfl
    have HlZ : Hid ((ints .i64 (z :: zs)).length = 64) := by show _ = _; rw [ints_length, List.length_cons, hzs]
    have hone := ints_one (k := .i64) (l := z :: zs)
    have hat : Hid (∀ (k : Nat) (x : Int), zs[k]? = some x → (ints .i64 (z :: zs))[k + 1]? = some (.int .i64 x)) := fun k x h => ints_at (by rw [List.getElem?_cons_succ]; exact h)
    clear hE1 HTok h1 hT hz hzin
    obtain ⟨T, hTe⟩ : ∃ T, T = toksZ b (z :: zs) := ⟨_, rfl⟩
    rw [← hTe] at HO1 HF HTT
    clear hTe
    obtain ⟨A, c, rfl, hs, hc1, hc2⟩ := tok_form HO1
    generalize ints .i64 (z :: zs) = ys at *
    go_wp2_with (first
      | (refine wpList_load_mid rfl 23 (.tmp 3) rfl w.heap.size 0 rfl xs _ hr1 Try.underlying23 rfl (info_blkn Hl.out) ?_)
      | fail)
    refine (H2.out _).mono ?_
    rintro e w2 ⟨rfl, hb2⟩
    have hbw2 := hbw1.trans (hb2.mono hbw1.size)
    have hb3 := hbw2.alloc hbw2.size (.cells ys.toArray 23)
    have HBz := Blk.new w2 ys 23
    have hs3 := veil ((hs.below hb2 (Nat.le_refl _)).below (below1 w2 (.cells ys.toArray 23)) hb2.size)
    have hz12 := hb2.size
    clear hr1 H2 hbw1 hb2 hs HO1 hbw2
    go_upto_region 7 with (first
      | (refine wpList_store_new w2 rfl 23 (.tmp 7) (.tmp 26) rfl zeroB.toArray ys rfl rfl (info_blkn HlZ.out) (by rw [HlZ.out]; rfl) hone ?_)
      | fail)
    obtain ⟨W, hW⟩ : ∃ W, W = w2.alloc (.cells ys.toArray 23) := ⟨_, rfl⟩
    rw [← hW] at HBz hb3 hs3 ⊢
    have hzW : W.heap.size = w2.heap.size + 1 := by rw [hW]; simp
    clear hW
    go_wp2_with fail
    go_loopg [8, 29] 63 (fun gk fv iv wr => ∃ k : Nat, gk = 63 - k ∧ k ≤ 63 ∧ iv = .int .i64 (k : Int) ∧ fv = .int .i64 (fullN (zs.take k) : Nat) ∧ wr = W)
    case atStart => exact ⟨0, rfl, by omega, rfl, rfl, rfl⟩
    case round =>
      obtain ⟨k, rfl, hk, rfl, rfl, rfl⟩ := hrel
      by_cases hlt : k < 63
      · have hltz : (k : Int) < 63 := by omega
        obtain ⟨x, hx⟩ := some_at (xs := zs) (j := k) (by omega)
        have hcx := HBz.cell (hat.out _ _ hx)
        rw [Nat.add_comm] at hcx
        have hfn := fullN_take hx
        have hfl := fullN_le (zs.take k)
        rw [List.length_take] at hfl
        have Hfn := veil hfn
        clear hx hfn
        by_cases h0 : x = 0
        · have hbx : (x != 0) = false := by simpa using h0
          have hfx := Hfn.out
          rw [if_pos h0] at hfx
          have Hfx := veil hfx
          clear hfx Hfn h0
          go_wp2_with fail
          go_roundg (63 - (k + 1))
          case rel => exact ⟨k + 1, rfl, by omega, by go_num, by rw [Hfx.out]; rfl, rfl⟩
          case measure => omega
        · have hbx : (x != 0) = true := by simpa using h0
          have hfx := Hfn.out
          rw [if_neg h0] at hfx
          have Hfx := veil hfx
          clear hfx Hfn h0
          go_wp2_with fail
          go_roundg (63 - (k + 1))
          case rel => exact ⟨k + 1, rfl, by omega, by go_num, by rw [Hfx.out]; go_num, rfl⟩
          case measure => omega
      · obtain rfl : k = 63 := by omega
        rw [List.take_of_length_le (by omega)]
        have hfl := fullN_le zs
        generalize fullN zs = FN at *
        have hTT := HTT.out
        have hpos := pos_rest zs 0 (by omega)
        have hlr := len_rest zs 0
        have hTl : T.length = (restT 0 zs).length + 1 := by rw [hTT, List.length_cons]
        have Hzl := veil hzs
        obtain ⟨y, hy⟩ := some_at (xs := zs) (j := 62) (by omega)
        have hcy := HBz.cell (hat.out _ _ hy)
        rw [hy] at HEL
        have HY : Hid (y = 0 ∧ endT 0 zs = 1 ∨ y ≠ 0 ∧ endT 0 zs = 0) := by
          show _ ∨ _
          have := HEL.out
          by_cases h : y = 0
          · left; rw [h, if_pos rfl] at this; exact ⟨h, this⟩
          · right; rw [if_neg (by simpa using h)] at this; exact ⟨h, this⟩
        generalize endT 0 zs = ET at *
        generalize hR : restT 0 zs = R at *
        obtain ⟨g, o, s0, n0, m0, rfl, hg, _, _, _, _⟩ := hs3.out.tok (k := 0) (by omega)
        obtain ⟨g', o', l0, l1, l2, e1, _, hlast, d0, d1, d2⟩ := hs3.out.tok (k := R.length) (by omega)
        obtain ⟨rfl, rfl⟩ : g = g' ∧ o = o' := by simpa using e1
        have hcn : ¬ c = 1 := by omega
        obtain ⟨A', hA', hsR⟩ := cutT_drop (f := 1) hs3.out (by omega) hc1
        have hdr : T.drop 1 = R := by rw [hTT]; rfl
        rw [hdr] at hsR
        obtain rfl : A' = some ⟨g, o + 3, none⟩ := by
          rw [cutT, if_neg hcn] at hA'
          injection hA' with hA' _ _
          rw [← hA']; simp [addr_add]
        have HBL : Hid (decide ((l0, l1, l2) = tkEnd) = decide (ET = 1)) := by
          show _ = _
          have h5 := HF.out.2.2.2.2
          rw [List.getLast?_eq_getElem?, hTl, Nat.add_sub_cancel, hlast] at h5
          simp only [Option.some.injEq] at h5
          by_cases h6 : ET = 1
          · rw [decide_eq_true h6, decide_eq_true (h5.2 h6)]
          · rw [decide_eq_false h6, decide_eq_false (fun h => h6 (h5.1 h))]
        have heql := fun u => eql_tok l0 l1 l2 0 0 0 u
        have htk : (l0 == 0 && (l1 == 0 && l2 == 0)) = decide ((l0, l1, l2) = tkEnd) := by
          by_cases h6 : (l0, l1, l2) = tkEnd
          · rw [decide_eq_true h6]; simp only [tkEnd, Prod.mk.injEq] at h6; simp [h6]
          · rw [decide_eq_false h6]; simp only [tkEnd, Prod.mk.injEq] at h6
            cases e : (l0 == 0 && (l1 == 0 && l2 == 0)) with
            | false => rfl
            | true => simp only [Bool.and_eq_true, beq_iff_eq] at e; exact absurd e h6
        rw [htk, HBL.out] at heql
        obtain ⟨f1, f2, f3, f4, _⟩ := HF.out
        have HsR := veil hsR
        have Hd0 := veil d0
        have Hd1 := veil d1
        have Hd2 := veil d2
        have Hcy := veil hcy
        have hlr2 : R.length ≤ 63 := by omega
        rw [hTl] at hc1 f1 f3 f4 ⊢
        have F1 := veil f1
        clear f1
        clear hs3 HF HEL hTT hTl hpos hlr HTT hR hdr hA' e1 hlast HBL htk hsR d0 d1 d2 hcy HBz hat hy
        have hc1z : (R.length : Int) + 1 ≤ (c : Int) := by omega
        have hlz : (1 : Int) ≤ (R.length : Int) + 1 := by omega
        have hc0z : (1 : Int) ≤ (c : Int) := by omega
        go_wp2_with fail
        rename World => W0
        go_loopg [11, 41] R.length (fun gk lv iv wr => ∃ k : Nat, gk = R.length - k ∧ k ≤ R.length ∧ iv = .int .i64 (k : Int) ∧ lv = .int .i64 ((R.take k).countP isLong : Nat) ∧ Below W0.heap.size W0 wr)
        case atStart => exact ⟨0, by omega, by omega, rfl, rfl, Below.refl _ _⟩
        case round =>
          obtain ⟨k, rfl, hk, rfl, rfl, hbr⟩ := hrel
          by_cases hlt2 : k < R.length
          · obtain ⟨g2, o2, s, n, m, e2, _, hx, x0, x1, x2⟩ := HsR.out.tok hlt2
            obtain ⟨rfl, rfl⟩ : g = g2 ∧ o + 3 = o2 := by simpa using e2
            rw [← hbr.cell (by simp; omega)] at x0 x1 x2
            have hLN := long_take hx
            have hcl := List.countP_le_length (p := isLong) (l := R.take k)
            rw [List.length_take] at hcl
            have hltz2 : (k : Int) < (R.length : Int) := by omega
            have hcz : (R.length : Int) ≤ (c : Int) - 1 := by omega
            have hb5 := hbr.trans ((below1 wr (.cells #[.int .i64 s, .int .i64 n, .int .i64 m] 30)).mono hbr.size)
            by_cases h240 : s = 240
            · have hbs : (s == 240) = true := by simpa using h240
              simp only [h240, if_true] at hLN
              have HLN := veil hLN
              clear hLN hx e2 h240
              go_wp2_with fail
              go_roundg (R.length - (k + 1))
              case rel => exact ⟨k + 1, rfl, by omega, by go_num, by rw [HLN.out]; go_num, hb5⟩
              case measure => omega
            · have hbs : (s == 240) = false := by simpa using h240
              rw [if_neg h240] at hLN
              have HLN := veil hLN
              clear hLN hx e2 h240
              go_wp2_with fail
              go_roundg (R.length - (k + 1))
              case rel => exact ⟨k + 1, rfl, by omega, by go_num, by rw [HLN.out]; rfl, hb5⟩
              case measure => omega
          · obtain rfl : k = R.length := by omega
            rw [List.take_of_length_le (Nat.le_refl _)]
            have d0 := Hd0.out
            have d1 := Hd1.out
            have d2 := Hd2.out
            have hcy := Hcy.out
            rw [← hbr.cell (by simp; omega)] at d0 d1 d2
            rw [← hbr.cell (by simp; omega)] at hcy
            have hf := hb3.trans (hbr.mono hb3.size)
            generalize R.countP isLong = LN at *
            generalize R.length = rl at *
            clear HsR Hd0 Hd1 Hd2 Hcy hbr
            have hcrl : (rl : Int) < (c : Int) := by omega
            have hle3 : (LN : Int) ≤ 3 := by omega
            have hFNz : (FN : Int) ≤ 63 := by omega
            have hle64 : (rl : Int) + 1 ≤ 64 := by omega
            have hgt1 : (1 : Int) < (rl : Int) + 1 := by omega
            clear f2 f3 f4 hc1 hc2 hlr2 hcn hzs hfl hlt2 hk Hzl
            rcases HY.out with ⟨hy0, he1⟩ | ⟨hy0, he0⟩
            · have f1 := F1.out
              rw [he1] at f1 heql
              have hby : (y == 0) = true := by simpa using hy0
              have hsum : ((rl : Int) + 1 == 1 + (FN : Int) + (LN : Int) + 1) = true := by simp only [beq_iff_eq]; omega
              rw [decide_eq_true rfl] at heql
              clear hy0 HY f1 F1 he1
              go_upto_region 24 with fail
              go_wp2_with fail
              go_ret
              exact ⟨ret_bool (by simp), hf⟩
            · have f1 := F1.out
              rw [he0] at f1 heql
              have hby : (y == 0) = false := by simpa using hy0
              have hsum : ((rl : Int) + 1 == 1 + (FN : Int) + (LN : Int)) = true := by simp only [beq_iff_eq]; omega
              rw [show decide ((0 : Nat) = 1) = false from rfl] at heql
              clear hy0 HY f1 F1 he0
              go_upto_region 24 with fail
              go_wp2_with fail
              go_ret
              exact ⟨ret_bool (by simp), hf⟩
  · rw [h1]
    go_wp2
    go_ret
    exact ⟨rfl, hbw1⟩
end Go.Proofs.Ytemckjkdlbipcaa
