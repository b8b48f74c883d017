/- Texts shared by the claims of this seat, in one. -/
import Derived.Test.YtddkhkpdbjjboaaBd16
import Derived.Test.YtddkhkpdbjjboaaBd6
import Derived.Test.YtddkhkpdbjjboaaBd3
import Derived.Deep.DeepCutAuto
import Derived.Test.YtddkhkpdbjjboaaBd8
import Derived.Test.YtddkhkpdbjjboaaBd4
import Derived.Test.YtddkhkpdbjjboaaBd5
import Derived.StillTailTactics
import Derived.Test.YtddkhkpdbjjboaaBd1
import Derived.Test.YtddkhkpdbjjboaaRows
import Derived.Test.YtddkhkpdbjjboaaBd9
import Derived.Test.YtddkhkpdbjjboaaBd2
/- The reference's Counts: its contract. -/
namespace Go.Proofs.Ytddkhkpdbjjboaa
open Go.RowKit
set_option linter.unusedVariables false
set_option linter.unusedSimpArgs false
set_option maxRecDepth 100000

theorem two0 (w : World) (xs : List Value) (t : TypeId) (b : Obj) : Blk ((w.alloc (.cells xs.toArray t)).alloc b).drew w.heap.size xs t :=
  (Blk.new w xs t).below (below1 _ b).drew (by simp)
theorem two1 (w : World) (xs : List Value) (t : TypeId) (a : Obj) : Blk ((w.alloc a).alloc (.cells xs.toArray t)).drew (w.heap.size + 1) xs t := by
  have h := Blk.new (w.alloc a) xs t
  rw [World.size_alloc] at h
  exact h
set_option maxRecDepth 100000 in
set_option maxHeartbeats 8000000 in
theorem refCounts_any (L : List (List Int)) (A : Option Addr) (c G : Nat) (w : World) (hl : ∀ r ∈ L, r.length = 64) (h400 : L.length ≤ 400) (hin : ∀ r ∈ L, inB (-2047) 2047 r = true) (hs : Seen w G A (rowsC L)) (hG : G ≤ w.heap.size) :
    Calls Try.prog 54 #[.slice A L.length c] w fun e w' => ∃ v1 v2, e = .returned (.tuple #[v1, v2]) ∧ Owns w.heap.size [intRow 3 .i64 v1 (tally true (toksB 0 L)), intRow 3 .i64 v2 (tally false (toksB 0 L))] w' ∧ Below w.heap.size w w' := by
  have hmk := run_make256
  have HTo := veil (fun b cs W h => refTokens_any b cs W h)
  unfold blkV at HTo
  have Hs := veil hs
  clear hs
  go_enter Try.func54, Try.ntmps54
  go_upto_region 1 with fail
  go_cut [4, 5] (fun v4 v5 wx => ∃ p1 p2 : Nat, v4 = .slice (some ⟨p1, 0, none⟩) 256 256 ∧ v5 = .slice (some ⟨p2, 0, none⟩) 256 256 ∧ Blk wx p1 zero256 3 ∧ Blk wx p2 zero256 3 ∧ p1 ≠ p2 ∧ w.heap.size ≤ p1 ∧ w.heap.size ≤ p2 ∧ Below w.heap.size w wx)
  case first =>
    go_region
    all_goals (go_wp2; go_meet)
    all_goals refine ⟨_, _, rfl, rfl, (by first | exact two0 _ _ _ _ | exact two1 _ _ _ _), (by first | exact two0 _ _ _ _ | exact two1 _ _ _ _), by omega, by omega, by omega, (below2 w _ _).drew⟩
  case rest =>
    obtain ⟨p1, p2, rfl, rfl, hp1, hp2, n1, l1, l2, hb⟩ := hcut
    have HP1 := veil hp1; have HP2 := veil hp2; have HbC := veil hb
    clear hmk hp1 hp2 hb
    go_wp2_with fail
    go_loopg [17] L.length (fun gk iv wr => ∃ (k : Nat), gk = L.length - k ∧ k ≤ L.length ∧ iv = .int .i64 (k : Int) ∧ Hid (Blk wr p1 (ints .i64 (tally true (toksB 0 (L.take k)))) 3) ∧ Hid (Blk wr p2 (ints .i64 (tally false (toksB 0 (L.take k)))) 3) ∧ Hid (Below w.heap.size w wr))
    case atStart => exact ⟨0, rfl, Nat.zero_le _, rfl, HP1, HP2, HbC⟩
    case round =>
      clear HP1 HP2 HbC
      obtain ⟨k, rfl, hk, rfl, HQ1, HQ2, Hbe⟩ := hrel
      obtain ⟨W1, hW1⟩ : ∃ W1, W1 = wr := ⟨_, rfl⟩
      subst hW1
      have hzr := Hbe.out.size
      by_cases hlt : k < L.length
      · have hltz : (k : Int) < (L.length : Int) := by omega
        obtain ⟨g, o, r, rfl, hg, hr, hrl, hrange⟩ := Hs.out.row hl (by omega) hlt
        have hrg := range_below hrange Hbe.out (by omega)
        have hbin := ahead_in (k := k) hl (fun r hr => hin r (List.mem_of_mem_take hr)) hk
        have Hl : Hid ((ints .i64 r).length = 64) := by show _ = _; rw [ints_length, hrl]
        have hone := ints_one (k := .i64) (l := r)
        have hr2 := range_new W1 (ints .i64 r) 42
        have hB2 := Blk.new W1 (ints .i64 r) 42
        have hb2 := below1 W1 (.cells (ints .i64 r).toArray 42)
        have HT2 := veil (HTo.out (ahead L k) r (W1.alloc (.cells (ints .i64 r).toArray 42)) hrl)
        have hz2 : (W1.alloc (.cells (ints .i64 r).toArray 42)).heap.size = W1.heap.size + 1 := by simp
        have hS2 : Seen (W1.alloc (.cells (ints .i64 r).toArray 42)) G (some ⟨g, o, none⟩) (rowsC L) := (Hs.out.below Hbe.out hG).below hb2 (by omega)
        have Hr := veil hr
        have Hbin := veil hbin
        have Hrl := veil hrl
        have hinr := hin r (List.mem_of_getElem? hr)
        have Hinr := veil hinr
        obtain ⟨ys, hys⟩ : ∃ ys, ys = ints .i64 r := ⟨_, rfl⟩
        rw [← hys] at hrg Hl hone hr2 hB2 hb2 HT2 hz2 hS2
        have HS2 := veil hS2
        have Hhb2 := veil hb2
        clear hrange hr hrl hbin hys hinr hS2 hb2 hB2
        go_upto_if 23 with (first
          | (refine wpList_load_mid rfl 42 (.tmp 20) rfl g (o + k * 64) rfl ys _ hrg Try.underlying42 rfl (info_blkn Hl.out) ?_)
          | (refine wpList_store_new W1 rfl 42 (.tmp 7) (.tmp 21) rfl zeroB.toArray ys rfl rfl (info_blkn Hl.out) (by rw [Hl.out]; rfl) hone ?_)
          | fail)
        obtain ⟨W2, hW2⟩ : ∃ W2, W2 = W1.alloc (.cells ys.toArray 42) := ⟨_, rfl⟩
        rw [← hW2] at hr2 hz2 HT2 HS2 Hhb2 ⊢
        clear hrg hW2
        go_cut [8] (fun v8 wx => v8 = .int .i64 (ahead L k) ∧ wx = W2)
        case first =>
          by_cases hk0 : k = 0
          · subst hk0
            go_wp2_with fail
            go_meet
            case rel => exact ⟨rfl, rfl⟩
          · obtain ⟨j, rfl⟩ : ∃ j, k = j + 1 := ⟨k - 1, by omega⟩
            obtain ⟨g9, o9, r9, hA9, hg9, hr9, hrl9, hrange9⟩ := HS2.out.row hl (by omega) (k := j) (by omega)
            simp only [Option.some.injEq, Addr.mk.injEq, and_true] at hA9
            obtain ⟨rfl, rfl⟩ := hA9
            have hc9 := hrange9 0 (.int .i64 (ahead L (j + 1))) (by
              rw [ahead_next hr9]
              match r9, hrl9 with
              | z :: r9, _ => rfl)
            rw [Nat.add_zero] at hc9
            have hw9 : IntKind.i64.wrap (((j + 1 : Nat) : Int) - 1) = (j : Int) := by rw [IntKind.wrap_i64]; omega
            have hp9 : (0 : Int) < ((j + 1 : Nat) : Int) := by omega
            obtain ⟨AH, hAH⟩ : ∃ AH, AH = ahead L (j + 1) := ⟨_, rfl⟩
            rw [← hAH] at hc9
            have HAH := veil hAH
            clear hrange9 hr9 hAH
            go_wp2_with fail
            go_meet
            case rel => exact ⟨by rw [HAH.out], rfl⟩
        case rest =>
          obtain ⟨rfl, hwc⟩ := hcut
          have hwc' : wc = W2 := hwc
          subst wc
          go_wp2_with (first
            | (refine wpList_load_mid rfl 42 (.tmp 7) rfl W1.heap.size 0 rfl ys _ hr2 Try.underlying42 rfl (info_blkn Hl.out) ?_)
            | fail)
          refine HT2.out.mono ?_
          rintro e w3 ⟨v, rfl, HO3, hb3⟩
          have hz3 := hb3.size
          rw [hz2] at hz3 HO3
          have hlp1 := HQ1.out.lt
          have hlp2 := HQ2.out.lt
          have hT0 := eT_ok Hbin.out.1 Hbin.out.2 Hinr.out
          rw [oT_ok hT0] at HO3
          rw [hT0]
          obtain ⟨T, hT⟩ : ∃ T, T = toksZ (ahead L k) (toL r) := ⟨_, rfl⟩
          have hgood : ∀ t ∈ T, goodT t := by rw [hT]; exact toks_good Hbin.out (toL_in Hrl.out Hinr.out)
          have hTl : T.length ≤ 64 := by rw [hT]; exact toks_len _ (toL_length _)
          have hacc : toksB 0 (L.take (k + 1)) = toksB 0 (L.take k) ++ flagT T := by rw [toksB_next Hr.out, hT]
          have hlen0 : (toksB 0 (L.take k)).length ≤ 64 * k := by have := toksB_len (L.take k) 0; rw [List.length_take, Nat.min_eq_left hk] at this; exact this
          rw [← hT] at HO3
          obtain ⟨A5, c5, hv5, _, _, _⟩ := tok_form HO3
          have hQ13 := (HQ1.out.below Hhb2.out hlp1).below hb3 (by rw [hz2]; omega)
          have hQ23 := (HQ2.out.below Hhb2.out hlp2).below hb3 (by rw [hz2]; omega)
          have hbw3 := (Hbe.out.trans (Hhb2.out.mono Hbe.out.size)).trans (hb3.mono (by rw [hz2]; omega))
          have Hgood := veil hgood; have Hacc := veil hacc; have HO3 := veil HO3; have HQ13 := veil hQ13; have HQ23 := veil hQ23; have Hbw3 := veil hbw3; have Hlen0 := veil hlen0
          subst v
          clear hT0 hT hgood hacc hlen0 hQ13 hQ23 hbw3 hb3 hr2 HT2 HS2 Hhb2
          go_wp2_with fail
          go_loopg [38] T.length (fun gk iv wi => ∃ (j : Nat), gk = T.length - j ∧ j ≤ T.length ∧ iv = .int .i64 (j : Int) ∧ Hid (Blk wi p1 (ints .i64 (tally true (toksB 0 (L.take k) ++ flagT (T.take j)))) 3) ∧ Hid (Blk wi p2 (ints .i64 (tally false (toksB 0 (L.take k) ++ flagT (T.take j)))) 3) ∧ Hid (Owns (W1.heap.size + 1) [tokRow (.slice A5 T.length c5) T] wi) ∧ Hid (Below w.heap.size w wi) ∧ Hid (w3.heap.size ≤ wi.heap.size))
          case atStart => exact ⟨0, rfl, Nat.zero_le _, rfl, by rw [List.take_zero]; simpa [flagT] using HQ13, by rw [List.take_zero]; simpa [flagT] using HQ23, HO3, Hbw3, veil (Nat.le_refl _)⟩
          case round =>
            clear HQ13 HQ23 HO3 Hbw3
            obtain ⟨j, rfl, hj, rfl, Hp1, Hp2, HO, Hbw, Hzi⟩ := hrel
            by_cases hltj : j < T.length
            · have hltjz : (j : Int) < (T.length : Int) := by omega
              obtain ⟨A6, c6, hv6, hs6, hc6, hm6⟩ := tok_form HO.out
              obtain ⟨rfl, rfl⟩ : A5 = A6 ∧ c5 = c6 := by simpa using hv6
              obtain ⟨g6, o6, t0, t1, t2, rfl, hg6, htj, d0, d1, d2⟩ := hs6.tok hltj
              have hg := (Hgood.out _ (List.mem_of_getElem? htj)).2
              simp only at hg
              obtain ⟨S, hS⟩ : ∃ S : Nat, t0 = (S : Int) := ⟨t0.toNat, by omega⟩
              subst hS
              have hS256 : S < 256 := by omega
              have hzi := Hzi.out
              have hlenk := Hlen0.out
              have hb7 := below1 wr (.cells #[.int .i64 (S : Int), .int .i64 t1, .int .i64 t2] 76)
              have hfl : (toksB 0 (L.take k) ++ flagT (T.take j)).length < 25600 := by
                rw [List.length_append, flagT_length, List.length_take]; omega
              have hsn : (toksB 0 (L.take k) ++ flagT (T.take j)) ++ [(decide (j = 0), (S : Int), t1, t2)] = toksB 0 (L.take k) ++ flagT (T.take (j + 1)) := by
                rw [List.append_assoc]
                congr 1
                have h9 := flagT_at htj
                rw [← flagT_take, ← flagT_take, take_snoc h9]
              clear hs6 hv6 htj hg
              by_cases hj0 : j = 0
              · have hjb : ((j : Int) == 0) = true := by simp [hj0]
                obtain ⟨x, hx⟩ := some_at (xs := tally true (toksB 0 (L.take k) ++ flagT (T.take j))) (j := S) (by rw [tally_length]; exact hS256)
                have hxb := tally_in true (toksB 0 (L.take k) ++ flagT (T.take j)) x (List.mem_of_getElem? hx)
                have hB := Hp1.out.below hb7 (by have := Hp1.out.lt; omega)
                have k1 := hB.cell (i := S) (v := .int .i64 x) (ints_at hx)
                have f1 := hB.frozen S
                have hB2 := hB.set S (.int .i64 (x + 1))
                have hbump : (ints .i64 (tally true (toksB 0 (L.take k) ++ flagT (T.take j)))).set S (.int .i64 (x + 1)) = ints .i64 (tally true (toksB 0 (L.take k) ++ flagT (T.take (j + 1)))) := by
                  rw [← hsn, tally_snoc, if_pos (by simp [hj0]), ints_set]; unfold bump
                  rw [Int.toNat_natCast, List.getD_eq_getElem?_getD, hx]; rfl
                rw [hbump] at hB2
                have hsame : tally false (toksB 0 (L.take k) ++ flagT (T.take (j + 1))) = tally false (toksB 0 (L.take k) ++ flagT (T.take j)) := by rw [← hsn, tally_snoc, if_neg (by simp [hj0])]
                have hg2 := grown_setCell (wr.alloc (.cells #[.int .i64 (S : Int), .int .i64 t1, .int .i64 t2] 76)) p1 S (.int .i64 (x + 1))
                have hw : IntKind.i64.wrap (x + 1) = x + 1 := by rw [IntKind.wrap_i64]; omega
                have hq9 := (Hp2.out.below hb7 (by have := Hp2.out.lt; omega)).kept hg2 (by simp; omega)
                rw [← hsame] at hq9
                have hO9 := (HO.out.below hb7).kept hg2 (by omega)
                have hbw9 := ((Hbw.out.trans (hb7.mono Hbw.out.size)).grown hg2 (by have := Hbw.out.size; simp; omega) (fun j hj => by injection hj with hj; omega) : Below w.heap.size w _)
                have HB2 := veil hB2; have Hq9 := veil hq9; have HO9 := veil hO9; have Hbw9 := veil hbw9
                have hzi9 : w3.heap.size ≤ ((wr.alloc (.cells #[.int .i64 (S : Int), .int .i64 t1, .int .i64 t2] 76)).setCell ⟨p1, S, none⟩ (.int .i64 (x + 1))).heap.size := by have := hg2.size; simp at this; simp; omega
                have Hzi9 := veil hzi9
                clear hB hB2 hbump hsame hg2 hq9 hO9 hbw9 hzi9 hx hxb hb7 hlp1 hlp2 hsn hj0
                go_wp2_with fail
                go_roundg (T.length - (j + 1))
                case rel => exact ⟨j + 1, rfl, by omega, by go_num, HB2, Hq9, HO9, Hbw9, Hzi9⟩
                case measure => omega
              · have hjb : ((j : Int) == 0) = false := by simp [hj0]
                obtain ⟨x, hx⟩ := some_at (xs := tally false (toksB 0 (L.take k) ++ flagT (T.take j))) (j := S) (by rw [tally_length]; exact hS256)
                have hxb := tally_in false (toksB 0 (L.take k) ++ flagT (T.take j)) x (List.mem_of_getElem? hx)
                have hB := Hp2.out.below hb7 (by have := Hp2.out.lt; omega)
                have k1 := hB.cell (i := S) (v := .int .i64 x) (ints_at hx)
                have f1 := hB.frozen S
                have hB2 := hB.set S (.int .i64 (x + 1))
                have hbump : (ints .i64 (tally false (toksB 0 (L.take k) ++ flagT (T.take j)))).set S (.int .i64 (x + 1)) = ints .i64 (tally false (toksB 0 (L.take k) ++ flagT (T.take (j + 1)))) := by
                  rw [← hsn, tally_snoc, if_pos (by simp [hj0]), ints_set]; unfold bump
                  rw [Int.toNat_natCast, List.getD_eq_getElem?_getD, hx]; rfl
                rw [hbump] at hB2
                have hsame : tally true (toksB 0 (L.take k) ++ flagT (T.take (j + 1))) = tally true (toksB 0 (L.take k) ++ flagT (T.take j)) := by rw [← hsn, tally_snoc, if_neg (by simp [hj0])]
                have hg2 := grown_setCell (wr.alloc (.cells #[.int .i64 (S : Int), .int .i64 t1, .int .i64 t2] 76)) p2 S (.int .i64 (x + 1))
                have hw : IntKind.i64.wrap (x + 1) = x + 1 := by rw [IntKind.wrap_i64]; omega
                have hq9 := (Hp1.out.below hb7 (by have := Hp1.out.lt; omega)).kept hg2 (by simp; omega)
                rw [← hsame] at hq9
                have hO9 := (HO.out.below hb7).kept hg2 (by omega)
                have hbw9 := ((Hbw.out.trans (hb7.mono Hbw.out.size)).grown hg2 (by have := Hbw.out.size; simp; omega) (fun j hj => by injection hj with hj; omega) : Below w.heap.size w _)
                have HB2 := veil hB2; have Hq9 := veil hq9; have HO9 := veil hO9; have Hbw9 := veil hbw9
                have hzi9 : w3.heap.size ≤ ((wr.alloc (.cells #[.int .i64 (S : Int), .int .i64 t1, .int .i64 t2] 76)).setCell ⟨p2, S, none⟩ (.int .i64 (x + 1))).heap.size := by have := hg2.size; simp at this; simp; omega
                have Hzi9 := veil hzi9
                clear hB hB2 hbump hsame hg2 hq9 hO9 hbw9 hzi9 hx hxb hb7 hlp1 hlp2 hsn hj0
                go_wp2_with fail
                go_roundg (T.length - (j + 1))
                case rel => exact ⟨j + 1, rfl, by omega, by go_num, Hq9, HB2, HO9, Hbw9, Hzi9⟩
                case measure => omega
            · obtain rfl : j = T.length := by omega
              have h1 := Hp1.out
              have h2 := Hp2.out
              rw [List.take_length, ← Hacc.out] at h1 h2
              have H1 := veil h1; have H2 := veil h2
              clear h1 h2 hlp1 hlp2
              go_wp2_with fail
              go_roundg (L.length - (k + 1))
              case rel => exact ⟨k + 1, rfl, by omega, by go_num, H1, H2, Hbw⟩
              case measure => omega
      · obtain rfl : k = L.length := by omega
        have h1 := HQ1.out
        have h2 := HQ2.out
        rw [List.take_length] at h1 h2
        have hl1 := tally_length true (toksB 0 L)
        have hl2 := tally_length false (toksB 0 L)
        have own := fun (p : Nat) (X : List Int) (hx : X.length = 256) (hp : Blk W1 p (ints .i64 X) 3) (hw : w.heap.size ≤ p) =>
          (⟨by rw [ints_length, hx], .inr ⟨p, 256, (ints .i64 X).toArray, rfl, hw, hp, by omega, by unfold maxLen; omega, by simp [ints_length, hx], by rw [List.take_of_length_le (by simp [ints_length, hx])]⟩⟩ : W1.ownsRow w.heap.size 3 1 (.slice (some ⟨p, 0, none⟩) 256 256) 256 (ints .i64 X))
        have o1 := own p1 _ hl1 h1 l1
        have o2 := own p2 _ hl2 h2 l2
        have HOw : Hid (Owns w.heap.size [intRow 3 .i64 (.slice (some ⟨p1, 0, none⟩) 256 256) (tally true (toksB 0 L)), intRow 3 .i64 (.slice (some ⟨p2, 0, none⟩) 256 256) (tally false (toksB 0 L))] W1) :=
          ⟨Hbe.out.size, fun r hr => by
            rcases List.mem_cons.1 hr with rfl | hr
            · simp only [intRow, hl1]; exact o1
            · rw [List.mem_singleton.1 hr]; simp only [intRow, hl2]; exact o2, by
            refine List.pairwise_cons.2 ⟨fun s hs g hg hg2 => ?_, List.pairwise_singleton _ _⟩
            rw [List.mem_singleton.1 hs] at hg2
            simp only [intRow, Value.ownBlock] at hg hg2
            injection hg with hg; injection hg2 with hg2; omega⟩
        clear own o1 o2 h1 h2 hl1 hl2 HQ1 HQ2
        go_wp2_with fail
        go_ret2
        exact ⟨_, _, rfl, HOw.out, Hbe.out⟩
end Go.Proofs.Ytddkhkpdbjjboaa

/- Parts of a slice of blocks. -/
namespace Go.Proofs.Ytddkhkpdbjjboaa
open Go.RowKit
set_option linter.unusedVariables false
set_option linter.unusedSimpArgs false
set_option maxRecDepth 100000

def cutR (A : Option Addr) (f h c : Nat) : Value := .slice (if c = f then A else A.map (·.add (f * 64))) (h - f) (c - f)
theorem run_cutR_to (A : Option Addr) (n c h : Nat) (h2 : h ≤ c) (u : World) : (Instr.sliceAt 28 (.slice A n c) none (some (.int .i64 (h : Int))) none).run Try.prog u = .ok (.slice A h c) u := by
  have he : Try.prog.underlying 28 = some (.slice (Try.prog.elem 28)) := by kernel_rfl
  have hz : (sizeOf (Try.prog.elem 28)).run Try.prog u = .ok 64 u := by kernel_rfl
  rw [run_sliceAt_slice _ _ _ _ _ _ he, run_slice_h _ _ _ _ _ he _ _ (by omega) (by omega), hz]
  simp [Result.andThen, sliced]
  intro _
  cases A with
  | none => rfl
  | some a => simp [Addr.add]
theorem run_cutR_end (A : Option Addr) (n c f : Nat) (h1 : f ≤ n) (u : World) : (Instr.sliceAt 28 (.slice A n c) (some (.int .i64 (f : Int))) none none).run Try.prog u = .ok (cutR A f n c) u := by
  have he : Try.prog.underlying 28 = some (.slice (Try.prog.elem 28)) := by kernel_rfl
  have hz : (sizeOf (Try.prog.elem 28)).run Try.prog u = .ok 64 u := by kernel_rfl
  rw [run_sliceAt_slice _ _ _ _ _ _ he, run_slice_l _ _ _ _ _ he _ _ (by omega) (by omega), hz]
  simp [Result.andThen, sliced, cutR]
theorem cutR_drop {w : World} {G c f : Nat} {A : Option Addr} {L : List (List Int)} (hl : ∀ r ∈ L, r.length = 64) (hs : Seen w G A (rowsC L)) (hf : f ≤ L.length) (hc : L.length ≤ c) :
    ∃ A', cutR A f L.length c = .slice A' (L.drop f).length (c - f) ∧ Seen w G A' (rowsC (L.drop f)) := by
  refine ⟨_, by rw [cutR, List.length_drop], ?_⟩
  by_cases hcf : c = f
  · have : L.drop f = [] := List.drop_of_length_le (by omega)
    rw [this]; exact .inl rfl
  · rw [if_neg hcf]
    have h9 := rowsC_take L f
    have h8 : (rowsC (L.take f)).length = f * 64 := by
      rw [rowsC_length (n := 64) (fun r hr => hl r (List.mem_of_mem_take hr)), List.length_take, Nat.min_eq_left hf]
    rcases hs with hs | ⟨g, o, rfl, hg, hcell⟩
    · rw [hs] at h9
      exact .inl (List.append_eq_nil_iff.1 h9.symm).2
    · refine .inr ⟨g, o + f * 64, by simp [addr_add], hg, fun j u hu => ?_⟩
      have h7 : (rowsC L)[f * 64 + j]? = some u := by
        rw [h9, List.getElem?_append_right (by omega), h8, Nat.add_sub_cancel_left]; exact hu
      have := hcell _ _ h7
      rw [← this]; congr 2; omega
theorem cutR_take {w : World} {G k : Nat} {A : Option Addr} {L : List (List Int)} (hs : Seen w G A (rowsC L)) : Seen w G A (rowsC (L.take k)) := by
  have h9 := rowsC_take L k
  rcases hs with hs | ⟨g, o, rfl, hg, hcell⟩
  · rw [hs] at h9
    exact .inl (List.append_eq_nil_iff.1 h9.symm).1
  · refine .inr ⟨g, o, rfl, hg, fun j u hu => hcell j u ?_⟩
    rw [h9, List.getElem?_append_left (List.getElem?_eq_some_iff.1 hu).1]; exact hu
end Go.Proofs.Ytddkhkpdbjjboaa

/- The reference's FrameCounts: its contract, for whatever lengths parts cuts. -/
namespace Go.Proofs.Ytddkhkpdbjjboaa
open Go.RowKit
set_option linter.unusedVariables false
set_option linter.unusedSimpArgs false
set_option maxRecDepth 100000

theorem cnt_formF {w : World} {B : Nat} {v1 v2 : Value} {X Y : List Int} (h : Owns B [intRow 3 .i64 v1 X, intRow 3 .i64 v2 Y] w) : ∃ A1 c1 A2 c2, v1 = .slice A1 X.length c1 ∧ v2 = .slice A2 Y.length c2 ∧ Seen w w.heap.size A1 (ints .i64 X) ∧ Seen w w.heap.size A2 (ints .i64 Y) := by
  obtain ⟨A1, c1, e1, h1, _, _⟩ := h.seen (List.mem_cons_self ..)
  obtain ⟨A2, c2, e2, h2, _, _⟩ := h.seen (List.mem_cons_of_mem _ (List.mem_cons_self ..))
  exact ⟨A1, c1, A2, c2, e1, e2, h1, h2⟩
set_option maxRecDepth 100000 in
set_option maxHeartbeats 8000000 in
theorem frCounts_any (ps : List Nat) (every : Int) (L : List (List Int)) (A : Option Addr) (c G : Nat) (w : World) (hl : ∀ r ∈ L, r.length = 64) (hcap : L.length ≤ c) (hm : L.length ≤ maxLen) (hin : ∀ r ∈ L, inB (-2047) 2047 r = true) (hs : Seen w G A (rowsC L)) (hG : G ≤ w.heap.size)
    (h400 : ∀ n ∈ ps, n ≤ 400) (hsum : ∀ k, (ps.take k).sum ≤ L.length) (hpl : ps.length ≤ 100000000000)
    (HP : ∀ W, Calls Try.prog 25 #[.int .i64 L.length, .int .i64 every] W fun e w' => ∃ v, e = .returned v ∧ Owns W.heap.size [intRow 3 .i64 v (ps.map Int.ofNat)] w' ∧ Below W.heap.size W w') :
    Calls Try.prog 30 #[.slice A L.length c, .int .i64 every] w fun e w' => ∃ v1 v2, e = .returned (.tuple #[v1, v2]) ∧ Owns w.heap.size [intRow 3 .i64 v1 (fcL true ps L ps.length), intRow 3 .i64 v2 (fcL false ps L ps.length)] w' ∧ Below w.heap.size w w' := by
  have hmk := run_make256
  have HPp := veil HP
  have Hs := veil hs
  clear hs HP
  go_enter Try.func30, Try.ntmps30
  go_upto_region 1 with fail
  go_cut [6, 7] (fun v4 v5 wx => ∃ p1 p2 : Nat, v4 = .slice (some ⟨p1, 0, none⟩) 256 256 ∧ v5 = .slice (some ⟨p2, 0, none⟩) 256 256 ∧ Blk wx p1 zero256 3 ∧ Blk wx p2 zero256 3 ∧ p1 ≠ p2 ∧ w.heap.size ≤ p1 ∧ w.heap.size ≤ p2 ∧ Below w.heap.size w wx)
  case first =>
    go_region
    all_goals (go_wp2; go_meet)
    all_goals refine ⟨_, _, rfl, rfl, (by first | exact two0 _ _ _ _ | exact two1 _ _ _ _), (by first | exact two0 _ _ _ _ | exact two1 _ _ _ _), by omega, by omega, by omega, (below2 w _ _).drew⟩
  case rest =>
    obtain ⟨p1, p2, rfl, rfl, hp1, hp2, n1, l1, l2, hb⟩ := hcut
    have HP1 := veil hp1; have HP2 := veil hp2; have HbC := veil hb
    have hlp1 := hp1.lt; have hlp2 := hp2.lt
    clear hmk hp1 hp2 hb
    go_wp2_with fail
    refine (HPp.out wc).mono ?_
    rintro e w1 ⟨v, rfl, HO1, hb1⟩
    obtain ⟨Ap, cp, hv, hsp, _, _⟩ := HO1.seen (List.mem_cons_self ..)
    have hz1 := hb1.size
    have hvv : v = .slice Ap ps.length cp := by
      have h9 : v = .slice Ap (ps.map Int.ofNat).length cp := hv
      rw [List.length_map] at h9; exact h9
    subst v
    have hpB : Hid (Below wc.heap.size wc w1) := hb1
    have HQ1 := veil (HP1.out.below hb1 hlp1); have HQ2 := veil (HP2.out.below hb1 hlp2); have HbD := veil (HbC.out.trans (hb1.mono HbC.out.size))
    have HO1' := veil HO1
    clear HP1 HP2 HbC hb1 hv HO1 HPp hpB
    go_wp2_with fail
    go_loopg [0, 20] ps.length (fun gk lv iv wr => ∃ (k : Nat) (A' : Option Addr) (c' : Nat) (M : List (List Int)), gk = ps.length - k ∧ k ≤ ps.length ∧ lv = .slice A' M.length c' ∧ iv = .int .i64 (k : Int) ∧ M.length ≤ c' ∧ Hid (M = L.drop (ps.take k).sum) ∧ Hid (Seen w G A' (rowsC M)) ∧ Hid (Blk wr p1 (ints .i64 (fcL true ps L k)) 3) ∧ Hid (Blk wr p2 (ints .i64 (fcL false ps L k)) 3) ∧ Hid (Owns wc.heap.size [intRow 3 .i64 (.slice Ap ps.length cp) (ps.map Int.ofNat)] wr) ∧ Hid (Below w.heap.size w wr))
    case atStart => exact ⟨0, A, c, L, rfl, Nat.zero_le _, rfl, rfl, hcap, veil (by simp), Hs, HQ1, HQ2, HO1', HbD⟩
    case round =>
      clear HQ1 HQ2 HO1' HbD
      obtain ⟨k, A', c', M, rfl, hk, rfl, rfl, hMc, HM, HsM, HQ1, HQ2, HO, Hbe⟩ := hrel
      obtain ⟨W1, hW1⟩ : ∃ W1, W1 = wr := ⟨_, rfl⟩
      subst hW1
      have hzr := Hbe.out.size
      have hzo := HO.out.base
      by_cases hlt : k < ps.length
      · have hltz : (k : Int) < (ps.length : Int) := by omega
        obtain ⟨Ap2, cp2, hv2, hsp2, _, _⟩ := HO.out.seen (List.mem_cons_self ..)
        obtain ⟨rfl, rfl⟩ : Ap = Ap2 ∧ cp = cp2 := by
          have h9 : Value.slice Ap ps.length cp = .slice Ap2 (ps.map Int.ofNat).length cp2 := hv2
          simp at h9; exact h9
        obtain ⟨gp, op, x, rfl, hgp, hx, hcell⟩ := hsp2.int (k := k) (by simp; omega)
        obtain ⟨n, hn, rfl⟩ : ∃ n : Nat, ps[k]? = some n ∧ x = (n : Int) := by
          rw [List.getElem?_map] at hx
          cases hq : ps[k]? with
          | none => rw [hq] at hx; cases hx
          | some n => rw [hq] at hx; simp at hx; exact ⟨n, rfl, hx.symm⟩
        have hn400 := h400 n (List.mem_of_getElem? hn)
        have hsk := hsum (k + 1)
        have hst : (ps.take (k + 1)).sum = (ps.take k).sum + n := by rw [fc_snoc hn]; simp
        have hMl : M.length = L.length - (ps.take k).sum := by rw [HM.out, List.length_drop]
        have hnM : n ≤ M.length := by omega
        have hlM : ∀ r ∈ M, r.length = 64 := fun r hr => hl r (by rw [HM.out] at hr; exact List.mem_of_mem_drop hr)
        have hinM : ∀ r ∈ M, inB (-2047) 2047 r = true := fun r hr => hin r (by rw [HM.out] at hr; exact List.mem_of_mem_drop hr)
        obtain ⟨A2, hA2, hsA2⟩ := cutR_drop hlM HsM.out hnM hMc
        have hct := fun u => run_cutR_to A' M.length c' n (by omega) u
        have hce := fun u => run_cutR_end A' M.length c' n hnM u
        rw [hA2] at hce
        have hMd : M.drop n = L.drop (ps.take (k + 1)).sum := by rw [HM.out, List.drop_drop, hst]
        have hMt : M.take n = piece ps L k := by
          unfold piece
          rw [HM.out, List.getD_eq_getElem?_getD, hn]; rfl
        have htl : (M.take n).length = n := by rw [List.length_take]; omega
        have hC := refCounts_any (M.take n) A' c' G W1 (fun r hr => hlM r (List.mem_of_mem_take hr)) (by omega) (fun r hr => hinM r (List.mem_of_mem_take hr)) (cutR_take (HsM.out.below Hbe.out hG)) (by omega)
        rw [htl, hMt] at hC
        have hin1 := fcL_in true ps L (fun M => toksB_len M 0) h400 k
        have hin2 := fcL_in false ps L (fun M => toksB_len M 0) h400 k
        have hfl1 := fcL_length true ps L k
        have hfl2 := fcL_length false ps L k
        have htl1 := tally_length true (toksB 0 (piece ps L k))
        have htl2 := tally_length false (toksB 0 (piece ps L k))
        have hpk : (toksB 0 (piece ps L k)).length ≤ 25600 := by
          have h5 := toksB_len (piece ps L k) 0
          rw [← hMt, htl] at h5
          rw [← hMt]; omega
        have hit1 := tally_in true (toksB 0 (piece ps L k))
        have hit2 := tally_in false (toksB 0 (piece ps L k))
        have hnx1 : fcL true ps L (k + 1) = addL (fcL true ps L k) (tally true (toksB 0 (piece ps L k))) := rfl
        have hnx2 : fcL false ps L (k + 1) = addL (fcL false ps L k) (tally false (toksB 0 (piece ps L k))) := rfl
        obtain ⟨F1, hF1⟩ : ∃ F, F = fcL true ps L k := ⟨_, rfl⟩
        obtain ⟨F2, hF2⟩ : ∃ F, F = fcL false ps L k := ⟨_, rfl⟩
        obtain ⟨T1, hT1⟩ : ∃ T, T = tally true (toksB 0 (piece ps L k)) := ⟨_, rfl⟩
        obtain ⟨T2, hT2⟩ : ∃ T, T = tally false (toksB 0 (piece ps L k)) := ⟨_, rfl⟩
        rw [← hF1] at HQ1 hin1 hfl1 hnx1
        rw [← hF2] at HQ2 hin2 hfl2 hnx2
        rw [← hT1] at hC htl1 hit1 hnx1
        rw [← hT2] at hC htl2 hit2 hnx2
        have HC := veil hC; have Hin1 := veil hin1; have Hin2 := veil hin2; have Hfl1 := veil hfl1; have Hfl2 := veil hfl2; have Htl1 := veil htl1; have Htl2 := veil htl2; have Hit1 := veil hit1; have Hit2 := veil hit2; have Hnx1 := veil hnx1; have Hnx2 := veil hnx2; have Hpk := veil hpk; have HMd := veil hMd; have HsA2 := veil hsA2
        have hMd2 : (M.drop n).length ≤ c' - n := by rw [List.length_drop]; omega
        clear hC hin1 hin2 hfl1 hfl2 htl1 htl2 hit1 hit2 hnx1 hnx2 hpk hMd hsA2 hF1 hF2 hT1 hT2 hlM hinM hMt htl hst hsk hMl hx hn hsp2 hv2 hA2
        go_wp2_with fail
        refine HC.out.mono ?_
        rintro e w3 ⟨v1, v2, rfl, HO3, hb3⟩
        obtain ⟨A1, c1, A3, c3, rfl, rfl, s1, s2⟩ := cnt_formF HO3
        rw [Htl1.out, Htl2.out] at HO3 ⊢
        have hz3 := hb3.size
        have HR1 := veil (HQ1.out.below hb3 HQ1.out.lt); have HR2 := veil (HQ2.out.below hb3 HQ2.out.lt); have HS3 := veil (HO.out.below hb3); have Hbf := veil (Hbe.out.trans (hb3.mono hzr))
        have HT3 := veil HO3
        clear HQ1 HQ2 HO Hbe HO3 s1 s2 hb3 HC
        have hz1 : mixL F1 T1 0 = F1 := mix_zero _ _
        have hz2 : mixL F2 T2 0 = F2 := mix_zero _ _
        go_wp2_with fail
        go_loopg [36] 256 (fun gk iv wi => ∃ (i : Nat), gk = 256 - i ∧ i ≤ 256 ∧ iv = .int .i64 (i : Int) ∧ Hid (Blk wi p1 (ints .i64 (mixL F1 T1 i)) 3) ∧ Hid (Blk wi p2 (ints .i64 (mixL F2 T2 i)) 3) ∧ Hid (Owns W1.heap.size [intRow 3 .i64 (.slice A1 256 c1) T1, intRow 3 .i64 (.slice A3 256 c3) T2] wi) ∧ Hid (Owns wc.heap.size [intRow 3 .i64 (.slice (some ⟨gp, op, none⟩) ps.length cp) (ps.map Int.ofNat)] wi) ∧ Hid (Below w.heap.size w wi))
        case atStart => exact ⟨0, rfl, by omega, rfl, by rw [hz1]; exact HR1, by rw [hz2]; exact HR2, HT3, HS3, Hbf⟩
        case round =>
          clear HR1 HR2 HT3 HS3 Hbf hz1 hz2
          obtain ⟨i, rfl, hi, rfl, HB1, HB2, HOt, HOs, Hbw⟩ := hrel
          by_cases hlti : i < 256
          · have hltiz : (i : Int) < (256 : Int) := by omega
            obtain ⟨x1, hx1⟩ := some_at (xs := F1) (j := i) (by rw [Hfl1.out]; exact hlti)
            obtain ⟨x2, hx2⟩ := some_at (xs := F2) (j := i) (by rw [Hfl2.out]; exact hlti)
            obtain ⟨A4, c4, A5, c5, e4, e5, s4, s5⟩ := cnt_formF HOt.out
            obtain ⟨rfl, rfl⟩ : A1 = A4 ∧ c1 = c4 := by rw [Htl1.out] at e4; simpa using e4
            obtain ⟨rfl, rfl⟩ : A3 = A5 ∧ c3 = c5 := by rw [Htl2.out] at e5; simpa using e5
            obtain ⟨g4, o4, y1, rfl, hg4, hy1, k2⟩ := s4.int (k := i) (by rw [Htl1.out]; exact hlti)
            obtain ⟨g5, o5, y2, rfl, hg5, hy2, k4⟩ := s5.int (k := i) (by rw [Htl2.out]; exact hlti)
            have hb1 := Hin1.out x1 (List.mem_of_getElem? hx1)
            have hb2 := Hin2.out x2 (List.mem_of_getElem? hx2)
            have hb3 := Hit1.out y1 (List.mem_of_getElem? hy1)
            have hb4 := Hit2.out y2 (List.mem_of_getElem? hy2)
            have hpk := Hpk.out
            have hw1 : IntKind.i64.wrap (x1 + y1) = x1 + y1 := by rw [IntKind.wrap_i64]; omega
            have hw2 : IntKind.i64.wrap (x2 + y2) = x2 + y2 := by rw [IntKind.wrap_i64]; omega
            have k1 := HB1.out.cell (i := i) (v := .int .i64 x1) (ints_at (mix_at (by rw [Htl1.out, Hfl1.out]) hx1))
            have k3 := HB2.out.cell (i := i) (v := .int .i64 x2) (ints_at (mix_at (by rw [Htl2.out, Hfl2.out]) hx2))
            have f1 := HB1.out.frozen i
            have hlq1 := HB1.out.lt
            have hlq2 := HB2.out.lt
            have hset1 := HB1.out.set i (.int .i64 (x1 + y1))
            rw [ints_set, mix_set (by rw [Htl1.out, Hfl1.out]) hx1 hy1] at hset1
            have hgr1 := grown_setCell wr p1 i (.int .i64 (x1 + y1))
            have hO4 : g4 ≠ p1 ∧ g5 ≠ p1 ∧ g5 ≠ p2 ∧ W1.heap.size ≤ g5 := by
              have h1 := (HOt.out.head.lt g4 rfl).1
              have h2 := (HOt.out.tail.head.lt g5 rfl).1
              exact ⟨by omega, by omega, by omega, h2⟩
            have hB2a := HB2.out.kept hgr1 (by intro h; injection h with h; omega)
            have hOta := HOt.out.kept hgr1 (by omega)
            have hOsa := HOs.out.kept hgr1 (by omega)
            have hbwa : Below w.heap.size w (wr.setCell ⟨p1, i, none⟩ (.int .i64 (x1 + y1))) := Hbw.out.grown hgr1 Hbw.out.size (fun j hj => by injection hj with hj; omega)
            have k3a := hB2a.cell (i := i) (v := .int .i64 x2) (ints_at (mix_at (by rw [Htl2.out, Hfl2.out]) hx2))
            have f3 := hB2a.frozen i
            have k4a : (wr.setCell ⟨p1, i, none⟩ (.int .i64 (x1 + y1))).cell? ⟨g5, o5 + i, none⟩ = some (.int .i64 y2) := by
              rw [World.cell?_of_block (hgr1.block g5 (HOt.out.tail.head.lt g5 rfl).2 (fun h => by injection h with h; omega))]; exact k4
            have Hset1 := veil hset1; have HB2a := veil hB2a; have HOta := veil hOta; have HOsa := veil hOsa; have Hbwa := veil hbwa; have K3a := veil k3a; have F3 := veil f3; have K4a := veil k4a
            have Hx2 := veil hx2; have Hy2 := veil hy2
            clear hset1 hgr1 hB2a hOta hOsa hbwa k3a f3 k4a k3 k4 hx1 hy1 hx2 hy2 s4 s5 e4 e5 HB1 HB2 HOt HOs Hbw
            go_upto_region 10 with fail
            go_still_tail 10, (by kernel_rfl)
            repeat still_step
            try refine wpStill_nil ?_
            change wpList _ _ _ _ _ wr.drew
            have f1' : wr.drew.frozen? ⟨p1, i, none⟩ = false := f1
            have k1' : wr.drew.cell? ⟨p1, i, none⟩ = some (.int .i64 x1) := k1
            go_upto_region 11 with fail
            obtain ⟨W5, hW5⟩ : ∃ W5, W5 = (wr.setCell ⟨p1, i, none⟩ (.int .i64 (x1 + y1))).drew := ⟨_, rfl⟩
            rw [← hW5]
            have k3' : W5.cell? ⟨p2, i, none⟩ = some (.int .i64 x2) := by rw [hW5]; exact K3a.out
            have k4' : W5.cell? ⟨g5, o5 + i, none⟩ = some (.int .i64 y2) := by rw [hW5]; exact K4a.out
            have f3' : W5.frozen? ⟨p2, i, none⟩ = false := by rw [hW5]; exact F3.out
            have hset5 : Blk W5 p1 (ints .i64 (mixL F1 T1 (i + 1))) 3 := by rw [hW5]; exact Hset1.out
            have hB25 : Blk W5 p2 (ints .i64 (mixL F2 T2 i)) 3 := by rw [hW5]; exact HB2a.out
            have hOt5 : Owns W1.heap.size [intRow 3 .i64 (.slice (some ⟨g4, o4, none⟩) 256 c1) T1, intRow 3 .i64 (.slice (some ⟨g5, o5, none⟩) 256 c3) T2] W5 := by rw [hW5]; exact HOta.out.drew
            have hOs5 : Owns wc.heap.size [intRow 3 .i64 (.slice (some ⟨gp, op, none⟩) ps.length cp) (ps.map Int.ofNat)] W5 := by rw [hW5]; exact HOsa.out.drew
            have hbw5 : Below w.heap.size w W5 := by rw [hW5]; exact Hbwa.out.drew
            clear hW5 f1' k1' k1 k2 f1
            have hset6 := hB25.set i (.int .i64 (x2 + y2))
            rw [ints_set, mix_set (by rw [Htl2.out, Hfl2.out]) Hx2.out Hy2.out] at hset6
            have hgr6 := grown_setCell W5 p2 i (.int .i64 (x2 + y2))
            have hQ1 := hset5.kept hgr6 (by intro h; injection h with h; omega)
            have hlp5 := hbw5.size
            have hQ3 := hOt5.kept hgr6 (by omega)
            have hQ4 := hOs5.kept hgr6 (by omega)
            have hQ5 : Below w.heap.size w (W5.setCell ⟨p2, i, none⟩ (.int .i64 (x2 + y2))) := hbw5.grown hgr6 hbw5.size (fun j hj => by injection hj with hj; omega)
            have HQ1 := veil hQ1; have HQ2 := veil hset6; have HQ3 := veil hQ3; have HQ4 := veil hQ4; have HQ5 := veil hQ5
            clear hset6 hgr6 hQ1 hQ3 hQ4 hQ5 hset5 hB25 hOt5 hOs5 hbw5 Hset1 HB2a HOta HOsa Hbwa K3a K4a F3
            go_still_tail 10, (by kernel_rfl)
            repeat still_step
            try refine wpStill_nil ?_
            change wpList _ _ _ _ _ W5.drew
            have f3'' : W5.drew.frozen? ⟨p2, i, none⟩ = false := f3'
            have k3'' : W5.drew.cell? ⟨p2, i, none⟩ = some (.int .i64 x2) := k3'
            go_wp2_with fail
            go_roundg (256 - (i + 1))
            case rel => exact ⟨i + 1, rfl, by omega, by go_num, veil (HQ1.out.drewN 1), veil (HQ2.out.drewN 1), veil HQ3.out.drew, veil HQ4.out.drew, veil HQ5.out.drew⟩
            case measure => omega
          · obtain rfl : i = 256 := by omega
            have h1 := HB1.out
            have h2 := HB2.out
            have q1 := mix_end (F := F1) (T := T1) (by rw [Htl1.out, Hfl1.out])
            have q2 := mix_end (F := F2) (T := T2) (by rw [Htl2.out, Hfl2.out])
            rw [Hfl1.out, ← Hnx1.out] at q1
            rw [Hfl2.out, ← Hnx2.out] at q2
            rw [q1] at h1
            rw [q2] at h2
            have H1 := veil h1; have H2 := veil h2
            clear h1 h2 q1 q2
            go_wp2_with fail
            go_roundg (ps.length - (k + 1))
            case rel => exact ⟨k + 1, A2, c' - n, M.drop n, rfl, by omega, by rw [List.length_drop], by go_num, hMd2, HMd, HsA2, H1, H2, HOs, Hbw⟩
            case measure => omega
      · obtain rfl : k = ps.length := by omega
        have h1 := HQ1.out
        have h2 := HQ2.out
        have hl1 := fcL_length true ps L ps.length
        have hl2 := fcL_length false ps L ps.length
        have own := fun (p : Nat) (X : List Int) (hx : X.length = 256) (hp : Blk W1 p (ints .i64 X) 3) (hw : w.heap.size ≤ p) =>
          (⟨by rw [ints_length, hx], .inr ⟨p, 256, (ints .i64 X).toArray, rfl, hw, hp, by omega, by unfold maxLen; omega, by simp [ints_length, hx], by rw [List.take_of_length_le (by simp [ints_length, hx])]⟩⟩ : W1.ownsRow w.heap.size 3 1 (.slice (some ⟨p, 0, none⟩) 256 256) 256 (ints .i64 X))
        have o1 := own p1 _ hl1 h1 l1
        have o2 := own p2 _ hl2 h2 l2
        have HOw : Hid (Owns w.heap.size [intRow 3 .i64 (.slice (some ⟨p1, 0, none⟩) 256 256) (fcL true ps L ps.length), intRow 3 .i64 (.slice (some ⟨p2, 0, none⟩) 256 256) (fcL false ps L ps.length)] W1) :=
          ⟨Hbe.out.size, fun r hr => by
            rcases List.mem_cons.1 hr with rfl | hr
            · simp only [intRow, hl1]; exact o1
            · rw [List.mem_singleton.1 hr]; simp only [intRow, hl2]; exact o2, by
            refine List.pairwise_cons.2 ⟨fun s hs g hg hg2 => ?_, List.pairwise_singleton _ _⟩
            rw [List.mem_singleton.1 hs] at hg2
            simp only [intRow, Value.ownBlock] at hg hg2
            injection hg with hg; injection hg2 with hg2; omega⟩
        clear own o1 o2 h1 h2 hl1 hl2 HQ1 HQ2 HO
        go_wp2_with fail
        go_ret2
        exact ⟨_, _, rfl, HOw.out, Hbe.out⟩
end Go.Proofs.Ytddkhkpdbjjboaa

/- A table made of one symbol's counts. -/
namespace Go.Proofs.Ytddkhkpdbjjboaa
open Go.RowKit
set_option linter.unusedVariables false
set_option linter.unusedSimpArgs false
set_option maxRecDepth 100000

theorem lensFrom_ge : ∀ (ns : List Nat) (k x : Nat), x ∈ lensFrom k ns → k + 1 ≤ x
  | [], k, x, h => by simp [lensFrom] at h
  | n :: ns, k, x, h => by
    rw [lensFrom] at h
    rcases List.mem_append.1 h with h | h
    · have := (List.mem_replicate.1 h).2; omega
    · have := lensFrom_ge ns (k + 1) x h; omega
theorem one_words {zs cs syms : List Int} {s : Int} (h : MadeT zs cs syms) (he : errB zs = 0) (hu : used zs = [s]) (hc : cntZ zs s = 1) : syms = [s] ∧ checkErr cs syms = 0 ∧ outWords cs syms = [(s, 1, 0)] := by
  obtain ⟨h1, h2, h3, _, L, hL, _, h5⟩ := h.ok he
  have hs : syms = [s] := by
    rw [hu] at h1
    cases syms with
    | nil => have := (h1 s).2 (by simp); cases this
    | cons a l =>
      have ha := (h1 a).1 (by simp)
      have ha := List.mem_singleton.1 ha
      subst ha
      cases l with
      | nil => rfl
      | cons b l =>
        have hb := List.mem_singleton.1 ((h1 b).1 (by simp))
        subst hb
        simp at h2
  subst hs
  refine ⟨rfl, h3, ?_⟩
  have hk : CodeL zs fun _ => 1 := ⟨fun i _ => ⟨Nat.le_refl _, (by decide : 1 ≤ 16)⟩, by rw [hu]; simp [sumF]⟩
  have hl := hL.least _ hk
  have h1L := (hL.code.1 s (by rw [hu]; simp)).1
  have hL1 : L s = 1 := by
    unfold costL at hl
    rw [hu] at hl
    simp [sumF, hc] at hl
    omega
  have ht := tab_lens h3
  rw [List.map_singleton, h5 s (by rw [hu]; simp), hL1] at ht
  obtain ⟨l, hf, e, hll⟩ := fine_of h3
  rw [e]
  have hcode := hf.code
  unfold codes at hcode
  cases hn : nats cs with
  | nil => rw [hn] at ht; simp [lensFrom] at ht
  | cons n ns =>
    rw [hn] at ht hcode
    rw [lensFrom] at ht
    have hn1 : n = 1 := by
      cases n with
      | zero =>
        have : 1 ∈ lensFrom 1 ns := by
          have h9 : [1] = lensFrom 1 ns := by simpa using ht
          rw [← h9]; simp
        have := lensFrom_ge ns 1 1 this; omega
      | succ n =>
        have h9 := congrArg List.length ht
        simp at h9; omega
    subst hn1
    rw [codesFrom] at hcode
    split at hcode
    · obtain ⟨m, hm, rfl⟩ := Option.map_eq_some_iff.1 hcode
      have hml : m = [] := by
        have h9 : (([0] : List Nat).map (fun i => (0 + 1, 0 + i)) ++ m).length = 1 := by simpa using hll
        exact List.eq_nil_of_length_eq_zero (by simpa using h9)
      subst hml
      rfl
    · cases hcode
/-- The block of the closed fact. -/
def three : List Int := 3 :: List.replicate 63 0
def one2 : List Int := (List.replicate 256 0).set 2 1
def one0' : List Int := (List.replicate 256 0).set 0 1
theorem three_fc : fcL true [1] [three] 1 = one2 ∧ fcL false [1] [three] 1 = one0' := by decide +kernel
theorem three_used : used one2 = [2] ∧ used one0' = [0] ∧ cntZ one2 2 = 1 ∧ cntZ one0' 0 = 1 ∧ errB one2 = 0 ∧ errB one0' = 0 := by decide +kernel
theorem three_bits : segBits [(2, 1, 0)] [(0, 1, 0)] (toksB 0 [three]) = [false, true, true, false] := by decide +kernel
end Go.Proofs.Ytddkhkpdbjjboaa

/- The reference's parts, where all is one part. -/
namespace Go.Proofs.Ytddkhkpdbjjboaa
open Go.RowKit
set_option linter.unusedVariables false
set_option linter.unusedSimpArgs false
set_option maxRecDepth 100000

theorem parts0_any (n : Nat) (w : World) : Calls Try.prog 25 #[.int .i64 (n : Int), .int .i64 0] w fun e w' => ∃ v, e = .returned v ∧ Owns w.heap.size [intRow 3 .i64 v ([n].map Int.ofNat)] w' ∧ Below w.heap.size w w' := by
  have ho : Owns w.heap.size [intRow 3 .i64 (.slice (some ⟨w.heap.size, 0, none⟩) 1 1) ([n].map Int.ofNat)] (w.alloc (.cells #[.int .i64 (n : Int)] 3)) :=
    ⟨by simp, fun r hr => by
      rw [List.mem_singleton.1 hr]
      exact ⟨rfl, .inr ⟨w.heap.size, 1, _, rfl, Nat.le_refl _, heap_alloc_new w _, Nat.le_refl _, by unfold maxLen; decide, rfl, rfl⟩⟩, List.pairwise_singleton _ _⟩
  have Ho := veil ho
  clear ho
  go_enter Try.func25, Try.ntmps25
  go_wp2
  go_ret
  exact ⟨_, rfl, Ho.out, below1 w _⟩
end Go.Proofs.Ytddkhkpdbjjboaa

/- The table that may not be. -/
namespace Go.Proofs.Ytddkhkpdbjjboaa
open Go.RowKit
set_option linter.unusedVariables false
set_option linter.unusedSimpArgs false
set_option maxRecDepth 100000

end Go.Proofs.Ytddkhkpdbjjboaa

/- The reference's parts where every is 0: its contract; and keep.fitting over the closed block. -/
namespace Go.Proofs.Ytddkhkpdbjjboaa
open Go.RowKit
set_option linter.unusedVariables false
set_option linter.unusedSimpArgs false
set_option maxRecDepth 100000

theorem sixteen {cs : List Int} (h : cs.length = 16) : ∃ a0 a1 a2 a3 a4 a5 a6 a7 a8 a9 a10 a11 a12 a13 a14 a15 : Int, cs = [a0, a1, a2, a3, a4, a5, a6, a7, a8, a9, a10, a11, a12, a13, a14, a15] := by
  match cs, h with
  | [a0, a1, a2, a3, a4, a5, a6, a7, a8, a9, a10, a11, a12, a13, a14, a15], _ => exact ⟨_, _, _, _, _, _, _, _, _, _, _, _, _, _, _, _, rfl⟩
theorem tab_lit (a0 a1 a2 a3 a4 a5 a6 a7 a8 a9 a10 a11 a12 a13 a14 a15 : Int) (A : Option Addr) (n c : Nat) : tabV [a0, a1, a2, a3, a4, a5, a6, a7, a8, a9, a10, a11, a12, a13, a14, a15] A n c = .agg #[.int .i64 a0, .int .i64 a1, .int .i64 a2, .int .i64 a3, .int .i64 a4, .int .i64 a5, .int .i64 a6, .int .i64 a7, .int .i64 a8, .int .i64 a9, .int .i64 a10, .int .i64 a11, .int .i64 a12, .int .i64 a13, .int .i64 a14, .int .i64 a15, .slice A n c] := rfl
theorem lit_one (a0 a1 a2 a3 a4 a5 a6 a7 a8 a9 a10 a11 a12 a13 a14 a15 : Int) (A : Option Addr) (n c : Nat) : ∀ u ∈ [Value.int .i64 a0, Value.int .i64 a1, Value.int .i64 a2, Value.int .i64 a3, Value.int .i64 a4, Value.int .i64 a5, Value.int .i64 a6, Value.int .i64 a7, Value.int .i64 a8, Value.int .i64 a9, Value.int .i64 a10, Value.int .i64 a11, Value.int .i64 a12, Value.int .i64 a13, Value.int .i64 a14, Value.int .i64 a15, Value.slice A n c], u.oneCell' = true := by
  intro u hu
  simp only [List.mem_cons, List.not_mem_nil, or_false] at hu
  rcases hu with rfl | rfl | rfl | rfl | rfl | rfl | rfl | rfl | rfl | rfl | rfl | rfl | rfl | rfl | rfl | rfl | rfl <;> rfl
theorem lit_one2 (a0 a1 a2 a3 a4 a5 a6 a7 a8 a9 a10 a11 a12 a13 a14 a15 b0 b1 b2 b3 b4 b5 b6 b7 b8 b9 b10 b11 b12 b13 b14 b15 : Int) (A : Option Addr) (n c : Nat) (A2 : Option Addr) (n2 c2 : Nat) : ∀ u ∈ [Value.int .i64 a0, Value.int .i64 a1, Value.int .i64 a2, Value.int .i64 a3, Value.int .i64 a4, Value.int .i64 a5, Value.int .i64 a6, Value.int .i64 a7, Value.int .i64 a8, Value.int .i64 a9, Value.int .i64 a10, Value.int .i64 a11, Value.int .i64 a12, Value.int .i64 a13, Value.int .i64 a14, Value.int .i64 a15, Value.slice A n c, Value.int .i64 b0, Value.int .i64 b1, Value.int .i64 b2, Value.int .i64 b3, Value.int .i64 b4, Value.int .i64 b5, Value.int .i64 b6, Value.int .i64 b7, Value.int .i64 b8, Value.int .i64 b9, Value.int .i64 b10, Value.int .i64 b11, Value.int .i64 b12, Value.int .i64 b13, Value.int .i64 b14, Value.int .i64 b15, Value.slice A2 n2 c2], u.oneCell' = true := by
  intro u hu
  simp only [List.mem_cons, List.not_mem_nil, or_false] at hu
  rcases hu with rfl | rfl | rfl | rfl | rfl | rfl | rfl | rfl | rfl | rfl | rfl | rfl | rfl | rfl | rfl | rfl | rfl | rfl | rfl | rfl | rfl | rfl | rfl | rfl | rfl | rfl | rfl | rfl | rfl | rfl | rfl | rfl | rfl | rfl <;> rfl
theorem own_cap {B c : Nat} {A : Option Addr} {l : List Int} {w : World} (h : Owns B [intRow 3 .i64 (.slice A l.length c) l] w) : l.length ≤ c := by
  obtain ⟨A2, c2, e, _, h2, _⟩ := h.seen (List.mem_cons_self ..)
  have e' : (Value.slice A l.length c) = .slice A2 l.length c2 := e
  obtain ⟨_, rfl⟩ : A = A2 ∧ c = c2 := by simpa using e'
  exact h2
set_option maxRecDepth 100000 in
set_option maxHeartbeats 4000000 in
/-- fitting tables for a list of blocks, in one segment. -/
theorem fitting0_any (L : List (List Int)) (A : Option Addr) (c G : Nat) (w : World) (hl : ∀ r ∈ L, r.length = 64) (hcap : L.length ≤ c) (h400 : L.length ≤ 400) (hin : ∀ r ∈ L, inB (-2047) 2047 r = true) (hs : Seen w G A (rowsC L)) (hG : G ≤ w.heap.size) :
    Calls Try.prog 15 #[.slice A L.length c, .int .i64 0] w fun e w' => ∃ cs syms A1 c1 cs2 syms2 A2 c2,
      e = .returned (.tuple #[tabsV cs A1 syms.length c1 cs2 A2 syms2.length c2, .bool (decide (errB (fcL true [L.length] L 1) = 0 ∧ errB (fcL false [L.length] L 1) = 0))]) ∧
        MadeT (fcL true [L.length] L 1) cs syms ∧ MadeT (fcL false [L.length] L 1) cs2 syms2 ∧ Seen w' w'.heap.size A1 (ints .i64 syms) ∧ Seen w' w'.heap.size A2 (ints .i64 syms2) ∧ Below w.heap.size w w' ∧ syms.length ≤ c1 ∧ syms2.length ≤ c2 := by
  have HF := veil (fun W h hG => frCounts_any [L.length] 0 L A c G W hl hcap (by unfold maxLen; omega) hin h hG (fun n hn => by rw [List.mem_singleton.1 hn]; exact h400) (fun k => by
    cases k with
    | zero => simp
    | succ k => simp) (by simp) (fun W => parts0_any L.length W))
  have hl1 := fcL_length true [L.length] L 1
  have hl2 := fcL_length false [L.length] L 1
  rw [show [L.length].length = 1 from rfl] at HF
  obtain ⟨X, hX⟩ : ∃ X, X = fcL true [L.length] L 1 := ⟨_, rfl⟩
  obtain ⟨Y, hY⟩ : ∃ Y, Y = fcL false [L.length] L 1 := ⟨_, rfl⟩
  rw [← hX] at HF hl1 ⊢
  rw [← hY] at HF hl2 ⊢
  clear hX hY
  obtain ⟨bb, hbb⟩ : ∃ b, b = decide (errB X = 0 ∧ errB Y = 0) := ⟨_, rfl⟩
  rw [← hbb]
  have Hbb := veil hbb
  clear hbb
  have Hl1 := veil hl1; have Hl2 := veil hl2
  have hb0 := below1 w (.cells #[.int .i64 0, .int .i64 0, .int .i64 0, .int .i64 0, .int .i64 0, .int .i64 0, .int .i64 0, .int .i64 0, .int .i64 0, .int .i64 0, .int .i64 0, .int .i64 0, .int .i64 0, .int .i64 0, .int .i64 0, .int .i64 0, .slice none 0 0, .int .i64 0, .int .i64 0, .int .i64 0, .int .i64 0, .int .i64 0, .int .i64 0, .int .i64 0, .int .i64 0, .int .i64 0, .int .i64 0, .int .i64 0, .int .i64 0, .int .i64 0, .int .i64 0, .int .i64 0, .int .i64 0, .slice none 0 0] 27)
  have hB0 := Blk.new w [.int .i64 0, .int .i64 0, .int .i64 0, .int .i64 0, .int .i64 0, .int .i64 0, .int .i64 0, .int .i64 0, .int .i64 0, .int .i64 0, .int .i64 0, .int .i64 0, .int .i64 0, .int .i64 0, .int .i64 0, .int .i64 0, .slice none 0 0, .int .i64 0, .int .i64 0, .int .i64 0, .int .i64 0, .int .i64 0, .int .i64 0, .int .i64 0, .int .i64 0, .int .i64 0, .int .i64 0, .int .i64 0, .int .i64 0, .int .i64 0, .int .i64 0, .int .i64 0, .int .i64 0, .slice none 0 0] 27
  have hz0 : (w.alloc (.cells #[.int .i64 0, .int .i64 0, .int .i64 0, .int .i64 0, .int .i64 0, .int .i64 0, .int .i64 0, .int .i64 0, .int .i64 0, .int .i64 0, .int .i64 0, .int .i64 0, .int .i64 0, .int .i64 0, .int .i64 0, .int .i64 0, .slice none 0 0, .int .i64 0, .int .i64 0, .int .i64 0, .int .i64 0, .int .i64 0, .int .i64 0, .int .i64 0, .int .i64 0, .int .i64 0, .int .i64 0, .int .i64 0, .int .i64 0, .int .i64 0, .int .i64 0, .int .i64 0, .int .i64 0, .slice none 0 0] 27)).heap.size = w.heap.size + 1 := by simp
  have hF := HF.out _ (hs.below hb0 hG) (by rw [hz0]; omega)
  have HF2 := veil hF
  have Hs := veil hs; have HB0 := veil hB0; have Hb0 := veil hb0
  clear hF HF hl1 hl2 hs hB0 hb0
  go_enter Try.func15, Try.ntmps15
  go_wp2_with fail
  refine HF2.out.mono ?_
  rintro e w1 ⟨v1, v2, rfl, HO1, hb1⟩
  obtain ⟨A1, c1, A2, c2, rfl, rfl, s1, s2⟩ := cnt_formF HO1
  have hz1 := hb1.size
  rw [hz0] at hz1
  have hB1 := HB0.out.below hb1 (by rw [hz0]; omega)
  have hbw1 := Hb0.out.trans (hb1.mono (by rw [hz0]; omega))
  have HM1 := veil (make_any A1 c1 w1.heap.size X w1 s1 (Nat.le_refl _) (by rw [Hl1.out]; unfold maxLen; decide))
  rw [Hl1.out] at HM1 ⊢
  rw [Hl2.out]
  have HB1 := veil hB1; have Hbw1 := veil hbw1; have S2 := veil s2
  clear hB1 hbw1 s1 s2 hb1 HO1 HF2 HB0 Hb0
  go_wp2_with fail
  refine HM1.out.mono ?_
  rintro e w2 ⟨cs, syms, A3, c3, rfl, hM, HO, hb2⟩
  have hs3 := HO
  have hlen16 := hM.len
  have HMt := veil hM
  obtain ⟨a0, a1, a2, a3, a4, a5, a6, a7, a8, a9, a10, a11, a12, a13, a14, a15, rfl⟩ := sixteen hlen16
  have hz2 := hb2.size
  have HB2 := veil (HB1.out.below hb2 (by omega)); have Hbw2 := veil (Hbw1.out.trans (hb2.mono (by omega))); have S2b := veil (S2.out.below hb2 (Nat.le_refl _)); have S3 := veil hs3
  clear HO hM hs3 hlen16 hb2 HB1 Hbw1 S2 HM1
  rw [tab_lit]
  have hb3 := below1 w2 (.cells #[.int .i64 a0, .int .i64 a1, .int .i64 a2, .int .i64 a3, .int .i64 a4, .int .i64 a5, .int .i64 a6, .int .i64 a7, .int .i64 a8, .int .i64 a9, .int .i64 a10, .int .i64 a11, .int .i64 a12, .int .i64 a13, .int .i64 a14, .int .i64 a15, .slice A3 syms.length c3] 25)
  have hB3 := Blk.new w2 [.int .i64 a0, .int .i64 a1, .int .i64 a2, .int .i64 a3, .int .i64 a4, .int .i64 a5, .int .i64 a6, .int .i64 a7, .int .i64 a8, .int .i64 a9, .int .i64 a10, .int .i64 a11, .int .i64 a12, .int .i64 a13, .int .i64 a14, .int .i64 a15, .slice A3 syms.length c3] 25
  have hz3 : (w2.alloc (.cells #[.int .i64 a0, .int .i64 a1, .int .i64 a2, .int .i64 a3, .int .i64 a4, .int .i64 a5, .int .i64 a6, .int .i64 a7, .int .i64 a8, .int .i64 a9, .int .i64 a10, .int .i64 a11, .int .i64 a12, .int .i64 a13, .int .i64 a14, .int .i64 a15, .slice A3 syms.length c3] 25)).heap.size = w2.heap.size + 1 := by simp
  have hone := lit_one a0 a1 a2 a3 a4 a5 a6 a7 a8 a9 a10 a11 a12 a13 a14 a15 A3 syms.length c3
  have HM2 := veil (make_any A2 c2 w2.heap.size Y _ ((S2b.out.up hz2).below hb3 (Nat.le_refl _)) (by rw [hz3]; omega) (by rw [Hl2.out]; unfold maxLen; decide))
  rw [Hl2.out] at HM2
  have HB3 := veil (HB2.out.below hb3 (by omega)); have HC3 := veil hB3; have Hbw3 := veil (Hbw2.out.trans (hb3.mono (by omega))); have S3b := veil (S3.out.below hb3)
  clear hb3 hB3 HB2 Hbw2 S3 S2b
  go_wp2_with (first
    | (refine wpList_store_new w2 rfl 25 (.tmp 8) (.tmp 21) rfl _ [.int .i64 a0, .int .i64 a1, .int .i64 a2, .int .i64 a3, .int .i64 a4, .int .i64 a5, .int .i64 a6, .int .i64 a7, .int .i64 a8, .int .i64 a9, .int .i64 a10, .int .i64 a11, .int .i64 a12, .int .i64 a13, .int .i64 a14, .int .i64 a15, .slice A3 syms.length c3] rfl rfl info_tab rfl hone ?_)
    | fail)
  refine HM2.out.mono ?_
  rintro e w4 ⟨cs2, syms2, A4, c4, rfl, hM4, HO4, hb4⟩
  have hs4 := HO4
  have hlen16 := hM4.len
  have HMt4 := veil hM4
  obtain ⟨b0, b1, b2, b3, b4, b5, b6, b7, b8, b9, b10, b11, b12, b13, b14, b15, rfl⟩ := sixteen hlen16
  have hz4 := hb4.size
  have hz3' := hz3
  have hb4' := hb4
  rw [hz3] at hz4 hb4
  have HB4 := veil (HB3.out.below hb4 (by omega)); have HC4 := veil (HC3.out.below hb4 (by omega)); have Hbw4 := veil (Hbw3.out.trans (hb4.mono (by omega))); have S3c := veil (S3b.out.below hb4'); have S4 := veil hs4
  clear HO4 hM4 hs4 hlen16 hb4 hb4' HB3 HC3 Hbw3 S3b HM2 hone hz3
  rw [tab_lit]
  have hb5 := below1 w4 (.cells #[.int .i64 b0, .int .i64 b1, .int .i64 b2, .int .i64 b3, .int .i64 b4, .int .i64 b5, .int .i64 b6, .int .i64 b7, .int .i64 b8, .int .i64 b9, .int .i64 b10, .int .i64 b11, .int .i64 b12, .int .i64 b13, .int .i64 b14, .int .i64 b15, .slice A4 syms2.length c4] 25)
  have hD5 := Blk.new w4 [.int .i64 b0, .int .i64 b1, .int .i64 b2, .int .i64 b3, .int .i64 b4, .int .i64 b5, .int .i64 b6, .int .i64 b7, .int .i64 b8, .int .i64 b9, .int .i64 b10, .int .i64 b11, .int .i64 b12, .int .i64 b13, .int .i64 b14, .int .i64 b15, .slice A4 syms2.length c4] 25
  have hz5 : (w4.alloc (.cells #[.int .i64 b0, .int .i64 b1, .int .i64 b2, .int .i64 b3, .int .i64 b4, .int .i64 b5, .int .i64 b6, .int .i64 b7, .int .i64 b8, .int .i64 b9, .int .i64 b10, .int .i64 b11, .int .i64 b12, .int .i64 b13, .int .i64 b14, .int .i64 b15, .slice A4 syms2.length c4] 25)).heap.size = w4.heap.size + 1 := by simp
  have hone := lit_one b0 b1 b2 b3 b4 b5 b6 b7 b8 b9 b10 b11 b12 b13 b14 b15 A4 syms2.length c4
  have hB5 := HB4.out.below hb5 (by omega)
  have hC5 := HC4.out.below hb5 (by omega)
  have hbw5 := Hbw4.out.trans (hb5.mono (by omega))
  have S3d := veil (S3c.out.below hb5); have S4d := veil (S4.out.below hb5)
  have hone2 := lit_one2 a0 a1 a2 a3 a4 a5 a6 a7 a8 a9 a10 a11 a12 a13 a14 a15 b0 b1 b2 b3 b4 b5 b6 b7 b8 b9 b10 b11 b12 b13 b14 b15 A3 syms.length c3 A4 syms2.length c4
  have hi34 : (Try.prog.info? 27).map (·.size) = some 34 := by kernel_rfl
  have hrC := hC5.range
  have hrD := hD5.range
  clear HB4 HC4 Hbw4 S3c S4 hb5
  go_wp2_with (first
    | (refine wpList_store_new w4 rfl 25 (.tmp 10) (.tmp 26) rfl _ [.int .i64 b0, .int .i64 b1, .int .i64 b2, .int .i64 b3, .int .i64 b4, .int .i64 b5, .int .i64 b6, .int .i64 b7, .int .i64 b8, .int .i64 b9, .int .i64 b10, .int .i64 b11, .int .i64 b12, .int .i64 b13, .int .i64 b14, .int .i64 b15, .slice A4 syms2.length c4] rfl rfl info_tab rfl hone ?_)
    | (refine wpList_load_mid rfl 25 (.tmp 8) rfl w2.heap.size 0 rfl [.int .i64 a0, .int .i64 a1, .int .i64 a2, .int .i64 a3, .int .i64 a4, .int .i64 a5, .int .i64 a6, .int .i64 a7, .int .i64 a8, .int .i64 a9, .int .i64 a10, .int .i64 a11, .int .i64 a12, .int .i64 a13, .int .i64 a14, .int .i64 a15, .slice A3 syms.length c3] _ hrC Try.underlying25 rfl info_tab ?_)
    | (refine wpList_load_mid rfl 25 (.tmp 10) rfl w4.heap.size 0 rfl [.int .i64 b0, .int .i64 b1, .int .i64 b2, .int .i64 b3, .int .i64 b4, .int .i64 b5, .int .i64 b6, .int .i64 b7, .int .i64 b8, .int .i64 b9, .int .i64 b10, .int .i64 b11, .int .i64 b12, .int .i64 b13, .int .i64 b14, .int .i64 b15, .slice A4 syms2.length c4] _ hrD Try.underlying25 rfl info_tab ?_)
    | (refine wpList_store_blk _ rfl 27 (.tmp 4) (.tmp 30) rfl w.heap.size [.int .i64 0, .int .i64 0, .int .i64 0, .int .i64 0, .int .i64 0, .int .i64 0, .int .i64 0, .int .i64 0, .int .i64 0, .int .i64 0, .int .i64 0, .int .i64 0, .int .i64 0, .int .i64 0, .int .i64 0, .int .i64 0, .slice none 0 0, .int .i64 0, .int .i64 0, .int .i64 0, .int .i64 0, .int .i64 0, .int .i64 0, .int .i64 0, .int .i64 0, .int .i64 0, .int .i64 0, .int .i64 0, .int .i64 0, .int .i64 0, .int .i64 0, .int .i64 0, .int .i64 0, .slice none 0 0] [.int .i64 a0, .int .i64 a1, .int .i64 a2, .int .i64 a3, .int .i64 a4, .int .i64 a5, .int .i64 a6, .int .i64 a7, .int .i64 a8, .int .i64 a9, .int .i64 a10, .int .i64 a11, .int .i64 a12, .int .i64 a13, .int .i64 a14, .int .i64 a15, .slice A3 syms.length c3, .int .i64 b0, .int .i64 b1, .int .i64 b2, .int .i64 b3, .int .i64 b4, .int .i64 b5, .int .i64 b6, .int .i64 b7, .int .i64 b8, .int .i64 b9, .int .i64 b10, .int .i64 b11, .int .i64 b12, .int .i64 b13, .int .i64 b14, .int .i64 b15, .slice A4 syms2.length c4] 27 hB5 rfl rfl hi34 rfl hone2 ?_; intro w6 hB6 hg6)
    | fail)
  all_goals
    have hw6 := hg6.size
    have t3 := S3d.out.kept hg6 (by omega)
    have t4 := S4d.out.kept hg6 (by rw [hz3']; omega)
    have hB7 : Blk w6 w.heap.size (tabsCells [a0, a1, a2, a3, a4, a5, a6, a7, a8, a9, a10, a11, a12, a13, a14, a15] A3 syms.length c3 [b0, b1, b2, b3, b4, b5, b6, b7, b8, b9, b10, b11, b12, b13, b14, b15] A4 syms2.length c4) 27 := hB6
    refine bodyPost_ret (v := .tuple #[tabsV [a0, a1, a2, a3, a4, a5, a6, a7, a8, a9, a10, a11, a12, a13, a14, a15] A3 syms.length c3 [b0, b1, b2, b3, b4, b5, b6, b7, b8, b9, b10, b11, b12, b13, b14, b15] A4 syms2.length c4, .bool bb]) (results_row_tmp rfl _ _ w.heap.size 27 (tabsCells [a0, a1, a2, a3, a4, a5, a6, a7, a8, a9, a10, a11, a12, a13, a14, a15] A3 syms.length c3 [b0, b1, b2, b3, b4, b5, b6, b7, b8, b9, b10, b11, b12, b13, b14, b15] A4 syms2.length c4).toArray (0, 0) _ _ rfl (by rename_i h0; show Value.bool _ = Value.bool bb; rw [Hbb.out]; first | (simp [h0]; done) | (simp [h0]; rfl)) hB7 Try.underlying27 rfl hi34) rfl ⟨[a0, a1, a2, a3, a4, a5, a6, a7, a8, a9, a10, a11, a12, a13, a14, a15], syms, A3, c3, [b0, b1, b2, b3, b4, b5, b6, b7, b8, b9, b10, b11, b12, b13, b14, b15], syms2, A4, c4, rfl, HMt.out, HMt4.out, MadeT.seen (zs := X) (cs := []) t3, MadeT.seen (zs := Y) (cs := []) t4, hbw5.grown hg6 hbw5.size (fun j hj => by injection hj with hj; omega), own_cap t3, own_cap t4⟩
end Go.Proofs.Ytddkhkpdbjjboaa

/- The closed fact of the keeps: keep.blocked is true. -/
namespace Go.Proofs.Ytddkhkpdbjjboaa
open Go.RowKit
set_option linter.unusedVariables false
set_option linter.unusedSimpArgs false
set_option maxRecDepth 100000

theorem three_in : three.length = 64 ∧ inB (-2047) 2047 three = true ∧ eL [three] = 0 := by decide +kernel
theorem three_all : AllW [(2, 1, 0)] [(0, 1, 0)] (toksB 0 [three]) := by
  have h : toksB 0 [three] = [(true, 2, 2, 3), (false, 0, 0, 0)] := by decide +kernel
  rw [h]
  intro x hx
  simp only [List.mem_cons, List.not_mem_nil, or_false] at hx
  rcases hx with rfl | rfl <;> rfl
theorem three_out {cs syms cs2 syms2 out : List Int} (h1 : outWords cs syms = [(2, 1, 0)]) (h2 : outWords cs2 syms2 = [(0, 1, 0)]) (c1 : checkErr cs syms = 0) (c2 : checkErr cs2 syms2 = 0) (h : SegOut cs syms cs2 syms2 [three] out) : eEnc cs syms cs2 syms2 [three] = 0 ∧ out.length = 1 := by
  have he : eEnc cs syms cs2 syms2 [three] = 0 := by rw [eEnc_end c1 c2 three_in.2.2, h1, h2, if_pos three_all]
  refine ⟨he, ?_⟩
  obtain ⟨raw, rfl, hby, p, hp, hu⟩ := h.2 he
  rw [h1, h2, three_bits] at hu
  have hl := congrArg List.length hu
  rw [unpack_length] at hl
  simp at hl
  obtain ⟨rfl⟩ : p = 4 := by omega
  have hr : raw = [111] := unpack_inj hby (by intro x hx; simp at hx; omega) (hu.trans (by decide +kernel))
  rw [hr]; decide +kernel
set_option maxRecDepth 100000 in
set_option maxHeartbeats 4000000 in
theorem blocked_any (w : World) : Calls Try.prog 9 #[] w fun e w' => e = .returned (.bool true) ∧ Below w.heap.size w w' := by
  have hb0 := below1 w (.cells (rowsC [three]).toArray 42)
  have hz0 : (w.alloc (.cells (rowsC [three]).toArray 42)).heap.size = w.heap.size + 1 := by simp
  have hs0 : Seen (w.alloc (.cells (rowsC [three]).toArray 42)) (w.heap.size + 1) (some ⟨w.heap.size, 0, none⟩) (rowsC [three]) := Seen.new w (rowsC [three]) _ _ (Nat.lt_succ_self _)
  have hl : ∀ r ∈ [three], r.length = 64 := fun r hr => by rw [List.mem_singleton.1 hr]; exact three_in.1
  have HF := veil (fitting0_any [three] (some ⟨w.heap.size, 0, none⟩) 1 (w.heap.size + 1) _ hl (Nat.le_refl _) (by decide) (fun r hr => by rw [List.mem_singleton.1 hr]; exact three_in.2.1) hs0 (by rw [hz0]; omega))
  have Hs0 := veil hs0; have Hb0 := veil hb0; have Hl := veil hl
  rw [show [three].length = 1 from rfl, three_fc.1, three_fc.2, decide_eq_true (show errB one2 = 0 ∧ errB one0' = 0 from ⟨three_used.2.2.2.2.1, three_used.2.2.2.2.2⟩)] at HF
  have hlit : (rowsC [three]).toArray = #[.int .i64 3, .int .i64 0, .int .i64 0, .int .i64 0, .int .i64 0, .int .i64 0, .int .i64 0, .int .i64 0, .int .i64 0, .int .i64 0, .int .i64 0, .int .i64 0, .int .i64 0, .int .i64 0, .int .i64 0, .int .i64 0, .int .i64 0, .int .i64 0, .int .i64 0, .int .i64 0, .int .i64 0, .int .i64 0, .int .i64 0, .int .i64 0, .int .i64 0, .int .i64 0, .int .i64 0, .int .i64 0, .int .i64 0, .int .i64 0, .int .i64 0, .int .i64 0, .int .i64 0, .int .i64 0, .int .i64 0, .int .i64 0, .int .i64 0, .int .i64 0, .int .i64 0, .int .i64 0, .int .i64 0, .int .i64 0, .int .i64 0, .int .i64 0, .int .i64 0, .int .i64 0, .int .i64 0, .int .i64 0, .int .i64 0, .int .i64 0, .int .i64 0, .int .i64 0, .int .i64 0, .int .i64 0, .int .i64 0, .int .i64 0, .int .i64 0, .int .i64 0, .int .i64 0, .int .i64 0, .int .i64 0, .int .i64 0, .int .i64 0, .int .i64 0] := rfl
  rw [hlit] at HF Hs0 Hb0 hz0
  clear hs0 hb0 hl hlit
  go_enter Try.func9, Try.ntmps9
  go_wp2_with fail
  refine HF.out.mono ?_
  rintro e w1 ⟨cs, syms, A1, c1, cs2, syms2, A2, c2, rfl, hM1, hM2, hs1, hs2, hb1, _, _⟩
  obtain ⟨rfl, k1, o1⟩ := one_words hM1 three_used.2.2.2.2.1 three_used.1 three_used.2.2.1
  obtain ⟨rfl, k2, o2⟩ := one_words hM2 three_used.2.2.2.2.2 three_used.2.1 three_used.2.2.2.1
  have hOut := fun out => three_out (cs := cs) (syms := [2]) (cs2 := cs2) (syms2 := [0]) (out := out) o1 o2 k1 k2
  have h34 : (tabsCells cs A1 1 c1 cs2 A2 1 c2).length = 34 := by unfold tabsCells; rw [List.length_append, tabCells_length hM1.len, tabCells_length hM2.len]
  have hone : ∀ u ∈ tabsCells cs A1 1 c1 cs2 A2 1 c2, u.oneCell' = true := fun u hu => by
    rcases List.mem_append.1 hu with h | h
    · exact tabCells_one u h
    · exact tabCells_one u h
  have hb2 := below1 w1 (.cells (tabsCells cs A1 1 c1 cs2 A2 1 c2).toArray 27)
  have hr2 := range_new w1 (tabsCells cs A1 1 c1 cs2 A2 1 c2) 27
  have hz1 := hb1.size
  rw [hz0] at hz1
  have hs0b := (Hs0.out.below hb1 (by rw [hz0]; omega)).below hb2 hz1
  have hbw := (Hb0.out.trans (hb1.mono (by rw [hz0]; omega))).trans (hb2.mono (by omega))
  have HE := veil (segEncode_any cs [2] A1 c1 cs2 [0] A2 c2 w1.heap.size [three] (some ⟨w.heap.size, 0, none⟩) 1 _ hM1.len (by unfold maxLen; decide) hM1.bnd (hs1.below hb2 (Nat.le_refl _)) hM2.len (by unfold maxLen; decide) hM2.bnd (hs2.below hb2 (Nat.le_refl _)) Hl.out (by unfold maxLen; decide) (hs0b.up hz1) (by simp))
  rw [show [three].length = 1 from rfl, show ([2] : List Int).length = 1 from rfl, show ([0] : List Int).length = 1 from rfl] at HE
  have HOut := veil hOut
  have H34 := veil h34
  have Hbw := veil hbw
  unfold tabsV at HE ⊢
  rw [show ([2] : List Int).length = 1 from rfl, show ([0] : List Int).length = 1 from rfl]
  obtain ⟨E, hE⟩ : ∃ E, E = eEnc cs [2] cs2 [0] [three] := ⟨_, rfl⟩
  rw [← hE] at HE
  have HE0 : Hid (∀ out, SegOut cs [2] cs2 [0] [three] out → E = 0 ∧ out.length = 1) := fun out h => by rw [hE]; exact hOut out h
  clear hE hOut hM1 hM2 hs1 hs2 hb1 hb2 hs0b hbw h34 HF Hs0 Hb0 o1 o2 k1 k2 HOut
  generalize tabsCells cs A1 1 c1 cs2 A2 1 c2 = zs at *
  go_wp2_with (first
    | (refine wpList_store_new w1 rfl 27 (.tmp 2) (.tmp 11) rfl _ zs rfl rfl (by rw [H34.out]; kernel_rfl) (by rw [H34.out]; rfl) hone ?_)
    | (refine wpList_load_mid rfl 27 (.tmp 2) rfl w1.heap.size 0 rfl zs _ hr2 Try.underlying27 rfl (by rw [H34.out]; kernel_rfl) ?_)
    | fail)
  refine HE.out.mono ?_
  rintro e w3 ⟨v, out, rfl, HO, hS, hb3⟩
  obtain ⟨hE0, ho⟩ := HE0.out out hS
  obtain ⟨A4, c4, hv4, _, _, _⟩ := HO.seen (List.mem_cons_self ..)
  obtain rfl : v = .slice A4 1 c4 := by rw [← ho]; exact hv4
  subst hE0
  have hfin := Hbw.out.trans (hb3.mono (by have := Hbw.out.size; simp at this ⊢; omega))
  clear HO hS hb3 ho
  go_wp2
  go_ret
  exact ⟨rfl, hfin⟩
end Go.Proofs.Ytddkhkpdbjjboaa

/- The reference's BlocksCheck: its contract. -/
namespace Go.Proofs.Ytddkhkpdbjjboaa
open Go.RowKit
set_option linter.unusedVariables false
set_option linter.unusedSimpArgs false
set_option maxRecDepth 100000

set_option maxHeartbeats 2000000 in
set_option maxRecDepth 100000 in
theorem blocksCheck_any (L : List (List Int)) (A : Option Addr) (c G : Nat) (w : World) (hl : ∀ r ∈ L, r.length = 64) (hm : L.length ≤ maxLen) (hs : Seen w G A (rowsC L)) (hG : G ≤ w.heap.size) :
    Calls Try.prog 24 #[.slice A L.length c] w fun e w' => e = .returned (.int .i64 (eL L)) ∧ Below w.heap.size w w' := by
  unfold maxLen at hm
  obtain ⟨E, hE⟩ : ∃ E, E = eL L := ⟨_, rfl⟩
  rw [← hE]
  by_cases hbig : 400 < L.length
  · have hbz : (400 : Int) < (L.length : Int) := by omega
    rw [eL_large hbig] at hE
    subst hE
    go_enter Try.func24, Try.ntmps24
    go_wp2
    go_ret
    exact ⟨rfl, Below.refl _ _⟩
  · have hbz : ¬ (400 : Int) < (L.length : Int) := by omega
    have HE := veil hE
    have Hbig := veil hbig
    have HW : Hid (∀ r ∈ L, ∀ W, Calls Try.prog 41 #[blkV r, .int .i64 (-2047), .int .i64 2047] W fun e w' => e = .returned (.bool (inB (-2047) 2047 r)) ∧ Below W.heap.size W w') := fun r hr W => bwithin_any r (-2047) 2047 W (hl r hr)
    clear hE hbig
    unfold blkV at HW
    go_enter Try.func24, Try.ntmps24
    go_wp2_with fail
    go_loopg [10] L.length (fun gk iv wr => ∃ k : Nat, gk = L.length - k ∧ k ≤ L.length ∧ iv = .int .i64 (k : Int) ∧ Hid (∀ r ∈ L.take k, inB (-2047) 2047 r = true) ∧ Below w.heap.size w wr)
    case atStart => exact ⟨0, rfl, Nat.zero_le _, rfl, veil (by simp), Below.refl _ _⟩
    case round =>
      obtain ⟨k, rfl, hk, rfl, HI, hb⟩ := hrel
      by_cases hlt : k < L.length
      · have hltz : (k : Int) < (L.length : Int) := by omega
        obtain ⟨g, o, r, rfl, hg, hr, hrl, hrange⟩ := hs.row hl (by omega) hlt
        have hrg := range_below hrange hb (by omega)
        have hmem := List.mem_of_getElem? hr
        have HC := veil (HW.out r hmem)
        have Hl : Hid ((ints .i64 r).length = 64) := by show _ = _; rw [ints_length, hrl]
        have hone := ints_one (k := .i64) (l := r)
        have hr2 := range_new wr (ints .i64 r) 42
        have hb2 := hb.alloc hb.size (.cells (ints .i64 r).toArray 42)
        have HIn : Hid (inB (-2047) 2047 r = true → ∀ x ∈ L.take (k + 1), inB (-2047) 2047 x = true) := fun h x hx => by
          rw [take_snoc hr] at hx
          rcases List.mem_append.1 hx with hx | hx
          · exact HI.out x hx
          · rw [List.mem_singleton.1 hx]; exact h
        have Hr := veil hr
        clear hrange hr hmem
        generalize hys : ints .i64 r = ys at *
        clear hys
        go_wp2_with (first
          | (refine wpList_load_mid rfl 42 (.tmp 12) rfl g (o + k * 64) rfl ys _ hrg Try.underlying42 rfl (info_blkn Hl.out) ?_)
          | (refine wpList_store_new wr rfl 42 (.tmp 4) (.tmp 13) rfl zeroB.toArray ys rfl rfl (info_blkn Hl.out) (by rw [Hl.out]; rfl) hone ?_)
          | (refine wpList_load_mid rfl 42 (.tmp 4) rfl wr.heap.size 0 rfl ys _ hr2 Try.underlying42 rfl (info_blkn Hl.out) ?_)
          | fail)
        refine (HC.out _).mono ?_
        rintro e w2 ⟨rfl, hb3⟩
        have hb4 := hb2.trans (hb3.mono hb2.size)
        clear hrg hr2 hb2 hb3 HC
        cases hin : inB (-2047) 2047 r with
        | true =>
          have HI2 := veil (HIn.out hin)
          clear hin HIn HI
          go_wp2_with fail
          go_roundg (L.length - (k + 1))
          case rel => exact ⟨k + 1, rfl, by omega, by go_num, HI2, hb4⟩
          case measure => omega
        | false =>
          have h5 := eL_bad Hbig.out Hr.out hin
          rw [← HE.out] at h5
          subst h5
          clear hin HIn HI
          go_wp2
          go_ret
          exact ⟨rfl, hb4⟩
      · obtain rfl : k = L.length := by omega
        have h5 := eL_ok Hbig.out (fun r hr => HI.out r (by rw [List.take_of_length_le (Nat.le_refl _)]; exact hr))
        rw [← HE.out] at h5
        subst h5
        go_wp2
        go_ret
        exact ⟨rfl, hb⟩
end Go.Proofs.Ytddkhkpdbjjboaa
