/- The reference's clamp, Round and BlockWithin: their contracts. -/
import Derived.Test.YtgnpjejjnhdejaaDoorQBase
import Derived.Test.YtgnpjejjnhdejaaDoorOutside
namespace Go.Proofs.YtgnpjejjnhdejaaDoor
open Go.RowKit
set_option linter.unusedVariables false
set_option linter.unusedSimpArgs false

/-- The rounding of a number that is not negative. -/
theorem rnd_nonneg {m d : Int} (hd : 0 < d) (hm : 0 ≤ m) : rnd m d = if d ≤ 2 * m.tmod d then m.tdiv d + 1 else m.tdiv d := by
  have h4 := Int.tmod_nonneg d hm
  unfold rnd
  generalize m.tmod d = r at *
  split <;> split <;> (try split) <;> omega
set_option maxHeartbeats 1000000 in
theorem refRound_any (n d : Int) (w : World) (h1 : -1152921504606846976 ≤ n) (h2 : n ≤ 1152921504606846976) (hd1 : 1 ≤ d) (hd2 : d ≤ 1152921504606846976) :
    Calls Tryd.prog 24 #[.int .i64 n, .int .i64 d] w fun e w' => e = .returned (.int .i64 (rnd n d)) ∧ w' = w := by
  have hne : d ≠ 0 := by omega
  by_cases hn : n < 0
  · have h3 := Int.tmod_lt_of_pos (-n) (show 0 < d by omega)
    have h4 := Int.tmod_nonneg d (show 0 ≤ -n by omega)
    have h5 := tdiv_small (d := d) (show -1152921504606846976 ≤ -n by omega) (show -n ≤ 1152921504606846976 by omega)
    have H6 : Hid (rnd n d = -(if d ≤ 2 * (-n).tmod d then (-n).tdiv d + 1 else (-n).tdiv d)) := by
      show _ = _
      rw [← rnd_nonneg (by omega) (by omega), rnd_neg (by omega), Int.neg_neg]
    rw [Int.neg_tmod, Int.neg_tdiv] at H6
    rw [Int.neg_tmod] at h3 h4
    rw [Int.neg_tdiv] at h5
    generalize rnd n d = R at *
    go_enter Tryd.func24, Tryd.ntmps24
    go_wp2
    all_goals
      go_ret
      refine ⟨retI ?_, rfl⟩
      rw [H6.out]
      generalize n.tmod d = r at *
      generalize n.tdiv d = m at *
      try unfold wrap64 at *
      split <;> omega
  · have h3 := Int.tmod_lt_of_pos n (show 0 < d by omega)
    have h4 := Int.tmod_nonneg d (show 0 ≤ n by omega)
    have h5 := tdiv_small (d := d) h1 h2
    have H6 : Hid (rnd n d = _) := rnd_nonneg (show 0 < d by omega) (show 0 ≤ n by omega)
    have e1 := Int.tmod_eq_emod_of_nonneg (b := d) (show 0 ≤ n by omega)
    have e2 := Int.tdiv_eq_ediv_of_nonneg (b := d) (show 0 ≤ n by omega)
    rw [e1, e2] at H6
    rw [e1] at h3 h4
    rw [e2] at h5
    clear e1 e2
    generalize rnd n d = R at *
    go_enter Tryd.func24, Tryd.ntmps24
    go_wp2
    all_goals
      go_ret
      refine ⟨retI ?_, rfl⟩
      rw [H6.out]
      generalize n % d = r at *
      generalize n / d = m at *
      try unfold wrap64 at *
      split <;> omega
theorem inB_bad {lo hi : Int} {cs : List Int} {k : Nat} {x : Int} (hx : cs[k]? = some x) (h : ¬ (lo ≤ x ∧ x ≤ hi)) : inB lo hi cs = false := by
  cases e : inB lo hi cs with
  | false => rfl
  | true => exact absurd (inB_at e hx) h
set_option maxHeartbeats 1000000 in
set_option maxRecDepth 100000 in
theorem bwithin_any (cs : List Int) (lo hi : Int) (w : World) (hc : cs.length = 64) :
    Calls Tryd.prog 28 #[blkV cs, .int .i64 lo, .int .i64 hi] w fun e w' => e = .returned (.bool (inB lo hi cs)) ∧ Below w.heap.size w w' := by
  have hb0 := below1 w (.cells (ints .i64 cs).toArray 28)
  have hr := range_new w (ints .i64 cs) 28
  have Hl : Hid ((ints .i64 cs).length = 64) := by show _ = _; rw [ints_length, hc]
  have Hat : Hid (∀ (k : Nat) (x : Int), cs[k]? = some x → (ints .i64 cs)[k]? = some (.int .i64 x)) := fun _ _ h => ints_at h
  obtain ⟨E, hE⟩ : ∃ E, E = inB lo hi cs := ⟨_, rfl⟩
  rw [← hE]
  have HE := veil hE; clear hE
  unfold blkV
  generalize ints .i64 cs = xs at *
  go_enter Tryd.func28, Tryd.ntmps28
  go_wp2_with (first
    | (refine wpList_load_mid rfl 28 (.tmp 3) rfl w.heap.size 0 rfl xs _ hr Tryd.underlying28 rfl (info_blkn Hl.out) ?_)
    | fail)
  go_loopg [10] 64 (fun gk i wr => ∃ k : Nat, gk = 64 - k ∧ k ≤ 64 ∧ i = .int .i64 (k : Int) ∧ Hid (inB lo hi (cs.take k) = true) ∧ Below w.heap.size w wr)
  case atStart => exact ⟨0, rfl, by omega, rfl, by simp [inB, Hid], hb0⟩
  case round =>
    clear hr hb0
    obtain ⟨k, rfl, hk, rfl, HI, hb⟩ := hrel
    by_cases hlt : k < 64
    · have hltz : (k : Int) < 64 := by omega
      obtain ⟨x, hx⟩ := some_at (xs := cs) (j := k) (by omega)
      have hxs := Hat.out _ _ hx
      by_cases h1 : lo ≤ x ∧ x ≤ hi
      · have HI2 := veil (inB_take hx HI.out h1.1 h1.2)
        have HO := veil (out_no x lo hi h1 wr)
        clear HI hx
        go_wp2_with (first
          | (refine wpList_index_arr rfl 28 (.tmp 9) (.tmp 10) rfl 64 3 .i64 Tryd.underlying28 Tryd.underlying3 (by kernel_rfl) xs rfl .i64 k rfl (.int .i64 x) hlt hxs ?_)
          | fail)
        refine HO.out.mono ?_
        rintro e w1 ⟨rfl, rfl⟩
        go_wp2_with fail
        go_roundg (64 - (k + 1))
        case rel => exact ⟨k + 1, rfl, by omega, by go_num, HI2, hb⟩
        case measure => omega
      · have h2 := inB_bad hx h1
        have HO := veil (out_yes x lo hi (by omega) wr)
        rw [← HE.out] at h2
        subst h2
        clear HI hx
        go_wp2_with (first
          | (refine wpList_index_arr rfl 28 (.tmp 9) (.tmp 10) rfl 64 3 .i64 Tryd.underlying28 Tryd.underlying3 (by kernel_rfl) xs rfl .i64 k rfl (.int .i64 x) hlt hxs ?_)
          | fail)
        refine HO.out.mono ?_
        rintro e w1 ⟨rfl, rfl⟩
        go_wp2
        go_ret
        exact ⟨rfl, hb⟩
    · obtain rfl : k = 64 := by omega
      have h2 : inB lo hi cs = true := by have := HI.out; rw [List.take_of_length_le (by omega)] at this; exact this
      rw [← HE.out] at h2
      subst h2
      go_wp2
      go_ret
      exact ⟨rfl, hb⟩
end Go.Proofs.YtgnpjejjnhdejaaDoor
