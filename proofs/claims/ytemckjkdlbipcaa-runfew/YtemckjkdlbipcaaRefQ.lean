/- The reference's clamp, Round and BlockWithin: their contracts. -/
import Derived.Test.YtemckjkdlbipcaaQBase
import Derived.Test.YtemckjkdlbipcaaOutside
namespace Go.Proofs.Ytemckjkdlbipcaa
open Go.RowKit
set_option linter.unusedVariables false
set_option linter.unusedSimpArgs false
set_option maxRecDepth 100000

/-- The rounding of a number that is not negative. -/
theorem rnd_nonneg {m d : Int} (hd : 0 < d) (hm : 0 ≤ m) : rnd m d = if d ≤ 2 * m.tmod d then m.tdiv d + 1 else m.tdiv d := by
  have h4 := Int.tmod_nonneg d hm
  unfold rnd
  generalize m.tmod d = r at *
  split <;> split <;> (try split) <;> omega
theorem inB_bad {lo hi : Int} {cs : List Int} {k : Nat} {x : Int} (hx : cs[k]? = some x) (h : ¬ (lo ≤ x ∧ x ≤ hi)) : inB lo hi cs = false := by
  cases e : inB lo hi cs with
  | false => rfl
  | true => exact absurd (inB_at e hx) h
set_option maxHeartbeats 1000000 in
set_option maxRecDepth 100000 in
theorem bwithin_any (cs : List Int) (lo hi : Int) (w : World) (hc : cs.length = 64) :
    Calls Try.prog 22 #[blkV cs, .int .i64 lo, .int .i64 hi] w fun e w' => e = .returned (.bool (inB lo hi cs)) ∧ Below w.heap.size w w' := by
  have hb0 := below1 w (.cells (ints .i64 cs).toArray 23)
  have hr := range_new w (ints .i64 cs) 23
  have Hl : Hid ((ints .i64 cs).length = 64) := by show _ = _; rw [ints_length, hc]
  have Hat : Hid (∀ (k : Nat) (x : Int), cs[k]? = some x → (ints .i64 cs)[k]? = some (.int .i64 x)) := fun _ _ h => ints_at h
  obtain ⟨E, hE⟩ : ∃ E, E = inB lo hi cs := ⟨_, rfl⟩
  rw [← hE]
  have HE := veil hE; clear hE
  unfold blkV
  generalize ints .i64 cs = xs at *
  go_enter Try.func22, Try.ntmps22
  go_wp2_with (first
    | (refine wpList_load_mid rfl 23 (.tmp 3) rfl w.heap.size 0 rfl xs _ hr Try.underlying23 rfl (info_blkn Hl.out) ?_)
    | fail)
  go_loopg [10] 64 (fun gk i wr => ∃ k : Nat, gk = 64 - k ∧ k ≤ 64 ∧ i = .int .i64 (k : Int) ∧ Hid (inB lo hi (cs.take k) = true) ∧ Below w.heap.size w wr)
  case atStart => exact ⟨0, rfl, by omega, rfl, by simp [inB, Hid], hb0⟩
  case round =>
    clear hr hb0
    obtain ⟨k, rfl, hk, rfl, HI, hb⟩ := hrel
    by_cases hlt : k < 64
    · have hltz : (k : Int) < 64 := by omega
      obtain ⟨x, hx⟩ := some_at (xs := cs) (j := k) (by omega)
      have hxs := Hat.out _ _ hx
      by_cases h1 : lo ≤ x ∧ x ≤ hi
      · have HI2 := veil (inB_take hx HI.out h1.1 h1.2)
        have HO := veil (out_no x lo hi h1 wr)
        clear HI hx
        go_wp2_with (first
          | (refine wpList_index_arr rfl 23 (.tmp 9) (.tmp 10) rfl 64 3 .i64 Try.underlying23 Try.underlying3 (by kernel_rfl) xs rfl .i64 k rfl (.int .i64 x) hlt hxs ?_)
          | fail)
        refine HO.out.mono ?_
        rintro e w1 ⟨rfl, rfl⟩
        go_wp2_with fail
        go_roundg (64 - (k + 1))
        case rel => exact ⟨k + 1, rfl, by omega, by go_num, HI2, hb⟩
        case measure => omega
      · have h2 := inB_bad hx h1
        have HO := veil (out_yes x lo hi (by omega) wr)
        rw [← HE.out] at h2
        subst h2
        clear HI hx
        go_wp2_with (first
          | (refine wpList_index_arr rfl 23 (.tmp 9) (.tmp 10) rfl 64 3 .i64 Try.underlying23 Try.underlying3 (by kernel_rfl) xs rfl .i64 k rfl (.int .i64 x) hlt hxs ?_)
          | fail)
        refine HO.out.mono ?_
        rintro e w1 ⟨rfl, rfl⟩
        go_wp2
        go_ret
        exact ⟨rfl, hb⟩
    · obtain rfl : k = 64 := by omega
      have h2 : inB lo hi cs = true := by have := HI.out; rw [List.take_of_length_le (by omega)] at this; exact this
      rw [← HE.out] at h2
      subst h2
      go_wp2
      go_ret
      exact ⟨rfl, hb⟩
end Go.Proofs.Ytemckjkdlbipcaa
