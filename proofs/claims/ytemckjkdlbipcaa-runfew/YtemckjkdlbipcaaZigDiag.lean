/- zig.diagonal: its contract. -/
import Derived.Test.YtemckjkdlbipcaaRev
namespace Go.Proofs.Ytemckjkdlbipcaa
open Go.RowKit
set_option linter.unusedVariables false
set_option linter.unusedSimpArgs false
set_option maxRecDepth 100000

theorem elemZ : ElemOf Try.prog 38 3 1 8 := .mk' Try.underlying38 (z := .int .i64 0) (by kernel_rfl) rfl (by omega)
/-- The first n indices of diagonal s, from its top row on. -/
def ascD (s n : Nat) : List Int := (List.range n).map fun k => 8 * ((s - 7 + k : Nat) : Int) + (s : Int) - ((s - 7 + k : Nat) : Int)
def cntD (s : Nat) : Nat := min s 7 + 1 - (s - 7)
/-- Diagonal s, as the order visits it. -/
def diagL (s : Nat) : List Int := if s % 2 = 0 then (ascD s (cntD s)).reverse else ascD s (cntD s)
theorem ascD_succ (s n : Nat) : ascD s (n + 1) = ascD s n ++ [8 * ((s - 7 + n : Nat) : Int) + (s : Int) - ((s - 7 + n : Nat) : Int)] := by
  simp [ascD, List.range_succ]
theorem ascD_length (s n : Nat) : (ascD s n).length = n := by simp [ascD]
theorem own_some {w : World} {B : Nat} {v : Value} {l : List Int} {rs : List Row} (h : Owns B (intRow 3 .i64 v l :: rs) w) (hl : 0 < l.length) : ∃ g c, v = .slice (some ⟨g, 0, none⟩) l.length c := by
  obtain ⟨h1, h2⟩ := h.head
  rcases h2 with ⟨_, h2⟩ | ⟨g, cap, cur, hv, _⟩
  · simp only [intRow] at h2; omega
  · exact ⟨g, cap, hv⟩
set_option maxHeartbeats 2000000 in
set_option maxRecDepth 100000 in
theorem diag_any (s : Nat) (w : World) (hs : s ≤ 14) :
    Calls Try.prog 38 #[.int .i64 (s : Int)] w fun e w' => ∃ v, e = .returned v ∧ Owns w.heap.size [intRow 3 .i64 v (diagL s)] w' ∧ Below w.heap.size w w' := by
  have hc : cntD s = min s 7 + 1 - (s - 7) := rfl
  have hm : min s 7 ≤ s ∧ min s 7 ≤ 7 ∧ s - 7 ≤ min s 7 ∧ (min s 7 = s ∨ min s 7 = 7) := by omega
  generalize min s 7 = m at *
  go_enter Try.func38, Try.ntmps38
  go_wp2
  all_goals (
  go_loopg [3, 4] (m + 1 - (s - 7)) (fun gk v vr wr => ∃ r : Nat, gk = m + 1 - r ∧ s - 7 ≤ r ∧ r ≤ m + 1 ∧ vr = .int .i64 (r : Int) ∧ Hid (Owns w.heap.size [intRow 3 .i64 v (ascD s (r - (s - 7)))] wr) ∧ Hid (Below w.heap.size w wr))
  case atStart => exact ⟨s - 7, by omega, by omega, by omega, by go_num, veil (by rw [Nat.sub_self]; exact (Owns.start w).fresh _ _), veil (Below.refl _ _)⟩
  case round =>
    obtain ⟨r, rfl, hr1, hr2, rfl, HO, HB⟩ := hrel
    by_cases hlt : r ≤ m
    · have h7 : (r : Int) ≤ 7 := by omega
      have hs' : (r : Int) ≤ (s : Int) := by omega
      have hll := ascD_length s (r - (s - 7))
      have HL := veil (ascD_succ s (r - (s - 7)))
      generalize ascD s (r - (s - 7)) = l at *
      go_wp2_with (first
        | (at_builtin; go_loud (refine wpList_ownI _ rfl (.tmp 15) (.tmp 22) _ rfl w.heap.size 3 .i64 8 elemZ u3 l [] rfl HO.out [_] rfl (by unfold maxLen; simp; omega) (by simp; omega) ?_); intro v4 w4 HO4 hb4 hz4)
        | fail)
      all_goals (
      go_roundg (m + 1 - (r + 1))
      case rel => 
        refine ⟨r + 1, rfl, by omega, by omega, by go_num, veil ?_, veil (HB.out.trans hb4)⟩
        rw [show r + 1 - (s - 7) = r - (s - 7) + 1 by omega, HL.out, show s - 7 + (r - (s - 7)) = r by omega]
        exact HO4
      case measure => omega)
    · obtain rfl : r = m + 1 := by omega
      rw [← hc] at HO
      have h0 : 0 < (ascD s (cntD s)).length := by rw [ascD_length]; omega
      have hl8 : (ascD s (cntD s)).length ≤ 1048576 := by rw [ascD_length]; omega
      obtain ⟨g, c, rfl⟩ := own_some HO.out h0
      have HR := veil (fun w1 h1 => reverse_any g c w.heap.size (ascD s (cntD s)) w1 h1 hl8)
      have HD : Hid (diagL s = if s % 2 = 0 then (ascD s (cntD s)).reverse else ascD s (cntD s)) := rfl
      have hrm : ¬ ((m : Int) + 1 ≤ 7 ∧ (m : Int) + 1 ≤ (s : Int)) := by omega
      generalize ascD s (cntD s) = l at *
      by_cases he : s % 2 = 0
      · have het : ((s : Int).tmod 2 == 0) = true := by rw [Int.tmod_eq_emod_of_nonneg (by omega)]; simp; omega
        have hez : (s : Int).tmod 2 = 0 := by simpa using het
        go_wp2_with fail
        all_goals (
        refine (HR.out _ HO.out).mono ?_
        rintro e w2 ⟨rfl, HO2, hb2⟩
        go_wp2
        go_ret
        exact ⟨_, rfl, by rw [HD.out, if_pos he]; have h5 := HO2; unfold intRow at h5 ⊢; rw [List.length_reverse] at h5 ⊢; exact h5, HB.out.trans hb2⟩)
      · have het : ((s : Int).tmod 2 == 0) = false := by rw [Int.tmod_eq_emod_of_nonneg (by omega)]; simp; omega
        have hez : ¬ (s : Int).tmod 2 = 0 := by simpa using het
        go_wp2
        all_goals (
        go_ret
        exact ⟨_, rfl, by rw [HD.out, if_neg he]; exact HO.out, HB.out⟩))
end Go.Proofs.Ytemckjkdlbipcaa
