/- zig.Order: its contract. -/
import Derived.Test.YtemckjkdlbipcaaZigDiag
import Derived.Laws.MakeOwn
namespace Go.Proofs.Ytemckjkdlbipcaa
open Go.RowKit
set_option linter.unusedVariables false
set_option linter.unusedSimpArgs false
set_option maxRecDepth 100000

/-- The first s diagonals. -/
def zzTo (s : Nat) : List Int := (List.range s).flatMap diagL
/-- The zigzag order. -/
def zz : List Int := [0, 1, 8, 16, 9, 2, 3, 10, 17, 24, 32, 25, 18, 11, 4, 5, 12, 19, 26, 33, 40, 48, 41, 34, 27, 20, 13, 6, 7, 14, 21, 28, 35, 42, 49, 56, 57, 50, 43, 36, 29, 22, 15, 23, 30, 37, 44, 51, 58, 59, 52, 45, 38, 31, 39, 46, 53, 60, 61, 54, 47, 55, 62, 63]
theorem zzTo_all : zzTo 15 = zz := by decide +kernel
theorem zz_length : zz.length = 64 := rfl
theorem zzTo_succ (s : Nat) : zzTo (s + 1) = zzTo s ++ diagL s := by simp [zzTo, List.range_succ]
theorem diagL_length (s : Nat) : (diagL s).length ≤ 8 := by
  unfold diagL
  split
  · rw [List.length_reverse, ascD_length]; unfold cntD; omega
  · rw [ascD_length]; unfold cntD; omega
theorem zzTo_length (s : Nat) : (zzTo s).length ≤ 8 * s := by
  induction s with
  | zero => simp [zzTo]
  | succ s ih => rw [zzTo_succ, List.length_append]; have := diagL_length s; omega
theorem info_intZ : (Try.prog.info? 3).map (fun i => (i.zero, i.size, i.bytes)) = some (some (.int .i64 0), 1, 8) := by kernel_rfl
theorem run_make64 (u : World) : (Instr.makeSlice 38 (.int .i64 0) (.int .i64 64)).run Try.prog u =
    .ok (.slice (some ⟨u.heap.size, 0, none⟩) 0 64) (u.alloc (.cells (madeCells #[.int .i64 0] 64) 3)) := by
  obtain ⟨i0, hi, hz0, hz1, hz2⟩ := info_parts info_intZ
  have h := run_make (P := Try.prog) u 38 3 i0 (.int .i64 0) Try.underlying38 hi hz0 .i64 .i64 0 64 (by omega) (by omega) (by rw [hz2]; omega) (by omega)
  simpa [hz1, Value.cells] using h
set_option maxHeartbeats 2000000 in
set_option maxRecDepth 100000 in
theorem order_any (w : World) :
    Calls Try.prog 29 #[] w fun e w' => ∃ g c, e = .returned (.slice (some ⟨g, 0, none⟩) 64 c) ∧ Owns w.heap.size [intRow 3 .i64 (.slice (some ⟨g, 0, none⟩) 64 c) zz] w' ∧ Below w.heap.size w w' := by
  have hmk := run_make64
  have hst : Hid (Owns w.heap.size [intRow 3 .i64 (.slice (some ⟨w.heap.size, 0, none⟩) 0 64) (zzTo 0)] (w.alloc (.cells (madeCells #[.int .i64 0] 64) 3))) :=
    (Owns.start w).made 3 1 (madeCells #[.int .i64 0] 64) 64 (by unfold maxLen; omega) (size_madeCells _ _)
  generalize madeCells #[.int .i64 0] 64 = cs at *
  go_enter Try.func29, Try.ntmps29
  go_wp2
  clear hmk
  go_loopg [1, 4] 15 (fun gk v i wr => ∃ k : Nat, gk = 15 - k ∧ k ≤ 15 ∧ i = .int .i64 (k : Int) ∧ Hid (Owns w.heap.size [intRow 3 .i64 v (zzTo k)] wr) ∧ Hid (Below w.heap.size w wr))
  case atStart => exact ⟨0, rfl, by omega, rfl, hst, veil (below1 _ _)⟩
  case round =>
    clear hst
    obtain ⟨k, rfl, hk, rfl, HO, HB⟩ := hrel
    by_cases hlt : k < 15
    · have hltz : (k : Int) < 15 := by omega
      have HD := veil (fun w1 => diag_any k w1 (by omega))
      have hzl := zzTo_length k
      have hdl := diagL_length k
      have HS := veil (zzTo_succ k)
      generalize zzTo k = l at *
      generalize diagL k = d at *
      go_wp2_with fail
      refine (HD.out _).mono ?_
      rintro e w2 ⟨v2, rfl, HO2, hb2⟩
      obtain ⟨A, c, hv2, hsn, _, _⟩ := HO2.seen (List.mem_singleton.2 rfl)
      simp only [intRow] at hv2
      subst hv2
      have HO3 := (HO.out.call hb2 HO2).swap
      simp only [intRow] at hsn
      clear HD HO2
      go_wp2_with (first
        | (at_builtin; go_loud (refine wpList_ownV w2 rfl (.tmp 7) (.tmp 9) _ rfl w.heap.size 3 1 8 elemZ u1 l.length (ints .i64 l) _ rfl HO3 w2.heap.size A d.length c (ints .i64 d) rfl hsn (by rw [ints_length, Nat.mul_one]) ints_one (by unfold maxLen; omega) (by omega) ?_); intro v4 w4 HO4 hb4)
        | fail)
      go_roundg (15 - (k + 1))
      case rel => exact ⟨k + 1, rfl, by omega, by go_num, veil (by rw [HS.out, ← intRow_append]; exact HO4.swap.tail), veil ((HB.out.trans (hb2.mono HB.out.size)).trans hb4)⟩
      case measure => omega
    · obtain rfl : k = 15 := by omega
      rw [zzTo_all] at HO
      obtain ⟨g, c, rfl⟩ := own_some HO.out (by rw [zz_length]; omega)
      rw [zz_length] at HO
      go_wp2
      go_ret
      exact ⟨g, c, rfl, HO.out, HB.out⟩
end Go.Proofs.Ytemckjkdlbipcaa
