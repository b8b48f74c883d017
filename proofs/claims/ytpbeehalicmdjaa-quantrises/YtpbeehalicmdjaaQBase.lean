/- quant.Round, clamp, within, Check, checkBoth: their contracts. -/
import Derived.Test.YtpbeehalicmdjaaQMath
import Derived.BigQuiet
import Derived.Deep.LoopGhost
namespace Go.Proofs.Ytpbeehalicmdjaa
open Go.RowKit
set_option linter.unusedVariables false
set_option linter.unusedSimpArgs false

/-- A long load, also behind a guard that lets it run. -/
theorem wpList_load_long {P : Program} {ops : Array Oper} {rest : List Oper} {op : Oper} {a : Act} {w : World} {Q : Exit → Act → World → Prop} (hgd : Region.wanted op (yielded ops a.tmps) = true) (ty : TypeId) (x : Operand) (ho : op.op = .load ty x)
    (b o : Nat) (hx : a.eval x = .pointer (some ⟨b, o, none⟩)) (cs : List Value) (d : TypeDesc) (hc : w.rangeAt b o cs)
    (hu : P.underlying ty = some d) (hd : d.isRow = true) (hi : (P.info? ty).map (·.size) = some cs.length)
    (h : wpList P ops Q rest (a.put op.dst (.agg cs.toArray)) w) : wpList P ops Q (op :: rest) a w :=
  wpList_step fun K hK => by
    rw [if_pos hgd]
    exact wp_load_mid ty x ho b o hx cs d hc hu hd hi (hK _ _ h)
theorem retI {x y : Int} (h : x = y) : (Ending.returned (.int .i64 x)) = .returned (.int .i64 y) := by rw [h]
theorem wrap_small {x : Int} (h1 : -4611686018427387904 ≤ x) (h2 : x ≤ 4611686018427387904) : wrap64 x = x := by unfold wrap64; omega
theorem tdiv_small {n d M : Int} (h1 : -M ≤ n) (h2 : n ≤ M) : -M ≤ n.tdiv d ∧ n.tdiv d ≤ M := by
  have h3 := Int.natAbs_tdiv n d
  have h4 := Nat.div_le_self n.natAbs d.natAbs
  have h5 : n.natAbs.div d.natAbs = n.natAbs / d.natAbs := rfl
  rw [h5] at h3
  omega
set_option maxHeartbeats 1000000 in
theorem round_any (n d : Int) (w : World) (h1 : -1000000000 ≤ n) (h2 : n ≤ 1000000000) (hd1 : 1 ≤ d) (hd2 : d ≤ 1000) :
    Calls Try.prog 28 #[.int .i64 n, .int .i64 d] w fun e w' => e = .returned (.int .i64 (rnd n d)) ∧ ∃ q, w' = w.drewN q := by
  have hne : d ≠ 0 := by omega
  have hlt : ¬ d < 1 := by omega
  have h3 := Int.tmod_lt_of_pos n (show 0 < d by omega)
  have h4 := Int.lt_tmod_of_pos n (show 0 < d by omega)
  have h5 := tdiv_small (d := d) h1 h2
  have h6 : Hid (rnd n d = _) := rnd.eq_1 n d
  generalize rnd n d = R at *
  go_enter Try.func28, Try.ntmps28
  go_wp2
  go_quiet (fail)
  go_wp2
  all_goals
    go_ret
    refine ⟨retI ?_, _, rfl⟩
    rw [h6.out]
    generalize n.tmod d = r at *
    generalize n.tdiv d = m at *
    split <;> (try split) <;> (try unfold wrap64) <;> omega
theorem clamp_any (n lo hi : Int) (w : World) (h : lo ≤ hi) :
    Calls Try.prog 27 #[.int .i64 n, .int .i64 lo, .int .i64 hi] w fun e w' => e = .returned (.int .i64 (clampZ n lo hi)) ∧ w = w' := by
  go_enter Try.func27, Try.ntmps27
  go_wp2
  all_goals (go_ret; exact ⟨retI (by unfold clampZ; split <;> (try split) <;> omega), rfl⟩)
theorem inB_take {lo hi : Int} {cs : List Int} {k : Nat} {x : Int} (hx : cs[k]? = some x) (h : inB lo hi (cs.take k) = true) (h1 : lo ≤ x) (h2 : x ≤ hi) : inB lo hi (cs.take (k + 1)) = true := by
  rw [take_snoc hx]; unfold inB at *; rw [List.all_append, h]; simp [h1, h2]
theorem inB_not {lo hi : Int} {cs : List Int} {k : Nat} {x : Int} (hx : cs[k]? = some x) (h : ¬ (lo ≤ x ∧ x ≤ hi)) : badB lo hi cs = 1 := by
  unfold badB; rw [if_neg]; intro h1; exact h (inB_at h1 hx)
theorem inB_all {lo hi : Int} {cs : List Int} (hc : cs.length = 64) (h : inB lo hi (cs.take 64) = true) : badB lo hi cs = 0 := by
  rw [List.take_of_length_le (by omega)] at h; unfold badB; rw [if_pos h]
set_option maxHeartbeats 1000000 in
set_option maxRecDepth 100000 in
theorem within_any (cs : List Int) (lo hi : Int) (w : World) (hc : cs.length = 64) :
    Calls Try.prog 32 #[blkV cs, .int .i64 lo, .int .i64 hi] w fun e w' => e = .returned (.int .i64 (badB lo hi cs)) ∧ Below w.heap.size w w' := by
  have hb0 := below1 w (.cells (ints .i64 cs).toArray 23)
  have hr := range_new w (ints .i64 cs) 23
  have Hl : Hid ((ints .i64 cs).length = 64) := by show _ = _; rw [ints_length, hc]
  have Hat : Hid (∀ (k : Nat) (x : Int), cs[k]? = some x → (ints .i64 cs)[k]? = some (.int .i64 x)) := fun _ _ h => ints_at h
  obtain ⟨E, hE⟩ : ∃ E, E = badB lo hi cs := ⟨_, rfl⟩
  rw [← hE]
  have HE := veil hE; clear hE
  unfold blkV
  generalize ints .i64 cs = xs at *
  go_enter Try.func32, Try.ntmps32
  go_wp2_with (first
    | (refine wpList_load_mid rfl 23 (.tmp 3) rfl w.heap.size 0 rfl xs _ hr Try.underlying23 rfl (info_blkn Hl.out) ?_)
    | fail)
  go_loopg [10] 64 (fun gk i wr => ∃ k : Nat, gk = 64 - k ∧ k ≤ 64 ∧ i = .int .i64 (k : Int) ∧ Hid (inB lo hi (cs.take k) = true) ∧ Below w.heap.size w wr)
  case atStart => exact ⟨0, rfl, by omega, rfl, by simp [inB, Hid], hb0⟩
  case round =>
    clear hr hb0
    obtain ⟨k, rfl, hk, rfl, HI, hb⟩ := hrel
    by_cases hlt : k < 64
    · have hltz : (k : Int) < 64 := by omega
      obtain ⟨x, hx⟩ := some_at (xs := cs) (j := k) (by omega)
      have hxs := Hat.out _ _ hx
      by_cases h1 : lo ≤ x ∧ x ≤ hi
      · have h1a := h1.1
        have h1b := h1.2
        have HI2 := veil (inB_take hx HI.out h1.1 h1.2)
        clear HI hx
        go_wp2_with (first
          | (refine wpList_index_arr rfl 23 (.tmp 9) (.tmp 10) rfl 64 3 .i64 Try.underlying23 Try.underlying3 (by kernel_rfl) xs rfl .i64 k rfl (.int .i64 x) hlt hxs ?_)
          | fail)
        go_roundg (64 - (k + 1))
        case rel => exact ⟨k + 1, rfl, by omega, by go_num, HI2, hb⟩
        case measure => omega
      · have h2 := inB_not hx h1
        rw [← HE.out] at h2
        subst h2
        clear HI hx
        go_wp2_with (first
          | (refine wpList_index_arr rfl 23 (.tmp 9) (.tmp 10) rfl 64 3 .i64 Try.underlying23 Try.underlying3 (by kernel_rfl) xs rfl .i64 k rfl (.int .i64 x) hlt hxs ?_)
          | fail)
        all_goals first
          | (exfalso; omega)
          | (go_ret; exact ⟨rfl, hb⟩)
    · obtain rfl : k = 64 := by omega
      have h2 := inB_all hc HI.out
      rw [← HE.out] at h2
      subst h2
      go_wp2
      go_ret
      exact ⟨rfl, hb⟩
set_option maxHeartbeats 1000000 in
set_option maxRecDepth 100000 in
theorem qcheck_any (cs : List Int) (w : World) (hc : cs.length = 64) :
    Calls Try.prog 16 #[blkV cs] w fun e w' => e = .returned (.int .i64 (badB 1 255 cs)) ∧ Below w.heap.size w w' := by
  have hb0 := below1 w (.cells (ints .i64 cs).toArray 23)
  have hr := range_new w (ints .i64 cs) 23
  have Hl : Hid ((ints .i64 cs).length = 64) := by show _ = _; rw [ints_length, hc]
  have HC := veil (fun W => within_any cs 1 255 W hc)
  unfold blkV at *
  generalize ints .i64 cs = xs at *
  go_enter Try.func16, Try.ntmps16
  go_wp2_with (first
    | (refine wpList_load_mid rfl 23 (.tmp 1) rfl w.heap.size 0 rfl xs _ hr Try.underlying23 rfl (info_blkn Hl.out) ?_)
    | fail)
  refine (HC.out _).mono ?_
  rintro e w1 ⟨rfl, hb1⟩
  go_wp2
  go_ret
  exact ⟨rfl, hb0.trans (hb1.mono (by simp))⟩
set_option maxHeartbeats 1000000 in
set_option maxRecDepth 100000 in
theorem both_any (bs qs : List Int) (M : Int) (w : World) (hb : bs.length = 64) (hq : qs.length = 64) (hM : 0 ≤ M) (hM2 : M ≤ 1000000) :
    Calls Try.prog 24 #[blkV bs, blkV qs, .int .i64 M] w fun e w' => e = .returned (.int .i64 (eBoth M bs qs)) ∧ Below w.heap.size w w' := by
  have hb0 := below2 w (.cells (ints .i64 bs).toArray 23) (.cells (ints .i64 qs).toArray 23)
  have B0 := (Blk.new w (ints .i64 bs) 23).below (below1 _ (.cells (ints .i64 qs).toArray 23)) (by simp)
  have B1 := Blk.new (w.alloc (.cells (ints .i64 bs).toArray 23)) (ints .i64 qs) 23
  have hz : ((w.alloc (.cells (ints .i64 bs).toArray 23)).alloc (.cells (ints .i64 qs).toArray 23)).heap.size = w.heap.size + 1 + 1 := by simp
  have Hlb : Hid ((ints .i64 bs).length = 64) := by show _ = _; rw [ints_length, hb]
  have Hlq : Hid ((ints .i64 qs).length = 64) := by show _ = _; rw [ints_length, hq]
  have HC := veil (fun W => qcheck_any qs W hq)
  have HW := veil (fun W => within_any bs (-M) M W hb)
  have HE : Hid (eBoth M bs qs = if badB 1 255 qs = 0 then badB (-M) M bs else 1) := by
    show _ = _
    unfold eBoth badB
    by_cases h1 : inB 1 255 qs = true <;> by_cases h2 : inB (-M) M bs = true <;> simp [h1, h2]
  have HE2 : Hid (badB 1 255 qs = 0 ∨ badB 1 255 qs = 1) := by show _ ∨ _; unfold badB; split <;> simp
  generalize eBoth M bs qs = E at *
  generalize badB 1 255 qs = e1 at *
  generalize badB (-M) M bs = e2 at *
  unfold blkV at *
  generalize ints .i64 bs = xs at *
  generalize ints .i64 qs = ys at *
  rw [show (w.alloc (.cells xs.toArray 23)).heap.size = w.heap.size + 1 by simp] at B1
  have r0 := B0.range
  have r1 := B1.range
  go_enter Try.func24, Try.ntmps24
  go_wp2_with (first
    | (refine wpList_load_mid rfl 23 (.tmp 4) rfl (w.heap.size + 1) 0 rfl ys _ r1 Try.underlying23 rfl (info_blkn Hlq.out) ?_)
    | fail)
  refine (HC.out _).mono ?_
  rintro e w1 ⟨rfl, hb1⟩
  have r0' := range_below r0 hb1 (by rw [hz]; omega)
  have hbw := hb0.trans (hb1.mono (by rw [hz]; omega))
  clear r0 r1 B0 B1 hb0 HC
  rcases HE2.out with h1 | h1
  · subst h1
    have h3 : E = e2 := HE.out
    subst h3
    go_wp2_with (first
      | (refine wpList_load_mid rfl 23 (.tmp 3) rfl w.heap.size 0 rfl xs _ r0' Try.underlying23 rfl (info_blkn Hlb.out) ?_)
      | fail)
    refine (HW.out _).mono ?_
    rintro e w2 ⟨rfl, hb2⟩
    have hf : Below w.heap.size w w2 := hbw.trans (hb2.mono hbw.size)
    go_wp2
    go_ret
    exact ⟨rfl, hf⟩
  · subst h1
    have h3 : E = 1 := HE.out
    subst h3
    go_wp2
    go_ret
    exact ⟨rfl, hbw⟩
end Go.Proofs.Ytpbeehalicmdjaa
