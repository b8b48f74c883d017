/- The reference's ZigOrder: the same order. -/
import Derived.Test.YtemckjkdlbipcaaZigOrder
import Derived.Test.YtemckjkdlbipcaaOutside
namespace Go.Proofs.Ytemckjkdlbipcaa
open Go.RowKit
set_option linter.unusedVariables false
set_option linter.unusedSimpArgs false
set_option maxRecDepth 100000

/-- What place j of diagonal s adds. -/
def rowR (s j : Nat) : Int := if s % 2 = 0 then 7 - (j : Int) else (j : Int)
def oneR (s j : Nat) : List Int := if 0 ≤ (s : Int) - rowR s j ∧ (s : Int) - rowR s j ≤ 7 then [8 * rowR s j + ((s : Int) - rowR s j)] else []
def innR (s k : Nat) : List Int := (List.range k).flatMap (oneR s)
def outR (s k : Nat) : List Int := (List.range s).flatMap (fun t => innR t 8) ++ innR s k
theorem outR_all : outR 15 0 = zz := by decide +kernel
theorem outR_next (s : Nat) : outR (s + 1) 0 = outR s 8 := by simp [outR, List.range_succ, innR]
theorem outR_yes {s k : Nat} (h : 0 ≤ (s : Int) - rowR s k ∧ (s : Int) - rowR s k ≤ 7) : outR s (k + 1) = outR s k ++ [8 * rowR s k + ((s : Int) - rowR s k)] := by
  have : oneR s k = [8 * rowR s k + ((s : Int) - rowR s k)] := if_pos h
  simp [outR, innR, List.range_succ, this]
theorem outR_no {s k : Nat} (h : ¬ (0 ≤ (s : Int) - rowR s k ∧ (s : Int) - rowR s k ≤ 7)) : outR s (k + 1) = outR s k := by
  have : oneR s k = [] := if_neg h
  simp [outR, innR, List.range_succ, this]
theorem oneR_length (s k : Nat) : (oneR s k).length ≤ 1 := by unfold oneR; split <;> simp
theorem innR_length (s k : Nat) : (innR s k).length ≤ k := by
  induction k with
  | zero => simp [innR]
  | succ k ih => have := oneR_length s k; simp [innR, List.range_succ] at ih ⊢; omega
theorem outR_length (s k : Nat) : (outR s k).length ≤ 8 * s + k := by
  have h1 := innR_length s k
  have h2 : ((List.range s).flatMap (fun t => innR t 8)).length ≤ 8 * s := by
    clear h1
    induction s with
    | zero => simp
    | succ s ih => have := innR_length s 8; simp [List.range_succ] at ih ⊢; omega
  unfold outR; rw [List.length_append]; omega
set_option maxHeartbeats 4000000 in
set_option maxRecDepth 100000 in
theorem refOrder_any (w : World) :
    Calls Try.prog 31 #[] w fun e w' => ∃ g c, e = .returned (.slice (some ⟨g, 0, none⟩) 64 c) ∧ Owns w.heap.size [intRow 3 .i64 (.slice (some ⟨g, 0, none⟩) 64 c) zz] w' ∧ Below w.heap.size w w' := by
  go_enter Try.func31, Try.ntmps31
  go_wp2
  go_loopg [1, 6] 15 (fun gk v i wr => ∃ s : Nat, gk = 15 - s ∧ s ≤ 15 ∧ i = .int .i64 (s : Int) ∧ Hid (Owns w.heap.size [intRow 3 .i64 v (outR s 0)] wr) ∧ Hid (Below w.heap.size w wr))
  case atStart => exact ⟨0, rfl, by omega, rfl, veil ((Owns.start w).fresh _ _), veil (Below.refl _ _)⟩
  case round =>
    obtain ⟨s, rfl, hs, rfl, HO, HB⟩ := hrel
    by_cases hlt : s < 15
    · have hltz : (s : Int) < 15 := by omega
      go_wp2_with fail
      rename World => W0
      go_loopg [1, 9] 8 (fun gk v i wr => ∃ k : Nat, gk = 8 - k ∧ k ≤ 8 ∧ i = .int .i64 (k : Int) ∧ Hid (Owns w.heap.size [intRow 3 .i64 v (outR s k)] wr) ∧ Hid (Below w.heap.size w wr))
      case atStart => exact ⟨0, rfl, by omega, rfl, HO, HB⟩
      case round =>
        clear HO HB
        obtain ⟨k, rfl, hk, rfl, HO, HB⟩ := hrel
        by_cases hkt : k < 8
        · have hktz : (k : Int) < 8 := by omega
          have hrow : Hid (rowR s k = if s % 2 = 0 then 7 - (k : Int) else (k : Int)) := rfl
          have hrb : 0 ≤ rowR s k ∧ rowR s k ≤ 7 := by unfold rowR; split <;> omega
          have hol := outR_length s k
          have HY := veil (outR_yes (s := s) (k := k))
          have HNo := veil (outR_no (s := s) (k := k))
          generalize outR s k = l at *
          generalize rowR s k = r at *
          by_cases he : s % 2 = 0
          · have het : ((s : Int) % 2 == 0) = true := by simp; omega
            have hez : (s : Int).tmod 2 = 0 := by rw [Int.tmod_eq_emod_of_nonneg (by omega)]; omega
            have hr : r = 7 - (k : Int) := by rw [hrow.out, if_pos he]
            subst hr
            clear hrow
            by_cases hin : 0 ≤ (s : Int) - (7 - (k : Int)) ∧ (s : Int) - (7 - (k : Int)) ≤ 7
            · have HC := veil (out_no ((s : Int) - (7 - (k : Int))) 0 7 hin)
              go_wp2_with fail
              refine (HC.out _).mono ?_
              rintro e w2 ⟨rfl, rfl⟩
              go_wp2_with (first
                | (at_builtin; go_loud (refine wpList_ownI _ rfl (.tmp 24) (.tmp 29) _ rfl w.heap.size 3 .i64 8 elemZ u1 l [] rfl HO.out [_] rfl (by unfold maxLen; simp; omega) (by simp; omega) ?_); intro v4 w4 HO4 hb4 hz4)
                | fail)
              go_roundg (8 - (k + 1))
              case rel => exact ⟨k + 1, rfl, by omega, by go_num, veil (by rw [HY.out hin]; exact HO4), veil (HB.out.trans hb4)⟩
              case measure => omega
            · have HC := veil (out_yes ((s : Int) - (7 - (k : Int))) 0 7 (by omega))
              go_wp2_with fail
              refine (HC.out _).mono ?_
              rintro e w2 ⟨rfl, rfl⟩
              go_wp2_with fail
              go_roundg (8 - (k + 1))
              case rel => exact ⟨k + 1, rfl, by omega, by go_num, veil (by rw [HNo.out hin]; exact HO.out), HB⟩
              case measure => omega
          · have het : ((s : Int) % 2 == 0) = false := by simp; omega
            have hez : ¬ (s : Int).tmod 2 = 0 := by rw [Int.tmod_eq_emod_of_nonneg (by omega)]; omega
            have hr : r = (k : Int) := by rw [hrow.out, if_neg he]
            subst hr
            clear hrow
            by_cases hin : 0 ≤ (s : Int) - (k : Int) ∧ (s : Int) - (k : Int) ≤ 7
            · have HC := veil (out_no ((s : Int) - (k : Int)) 0 7 hin)
              go_wp2_with fail
              refine (HC.out _).mono ?_
              rintro e w2 ⟨rfl, rfl⟩
              go_wp2_with (first
                | (at_builtin; go_loud (refine wpList_ownI _ rfl (.tmp 24) (.tmp 29) _ rfl w.heap.size 3 .i64 8 elemZ u1 l [] rfl HO.out [_] rfl (by unfold maxLen; simp; omega) (by simp; omega) ?_); intro v4 w4 HO4 hb4 hz4)
                | fail)
              go_roundg (8 - (k + 1))
              case rel => exact ⟨k + 1, rfl, by omega, by go_num, veil (by rw [HY.out hin]; exact HO4), veil (HB.out.trans hb4)⟩
              case measure => omega
            · have HC := veil (out_yes ((s : Int) - (k : Int)) 0 7 (by omega))
              go_wp2_with fail
              refine (HC.out _).mono ?_
              rintro e w2 ⟨rfl, rfl⟩
              go_wp2_with fail
              go_roundg (8 - (k + 1))
              case rel => exact ⟨k + 1, rfl, by omega, by go_num, veil (by rw [HNo.out hin]; exact HO.out), HB⟩
              case measure => omega
        · obtain rfl : k = 8 := by omega
          rw [← outR_next] at HO
          go_wp2_with fail
          go_roundg (15 - (s + 1))
          case rel => exact ⟨s + 1, rfl, by omega, by go_num, HO, HB⟩
          case measure => omega
    · obtain rfl : s = 15 := by omega
      rw [outR_all] at HO
      obtain ⟨g, c, rfl⟩ := own_some HO.out (by rw [zz_length]; omega)
      rw [zz_length] at HO
      go_wp2
      go_ret
      exact ⟨g, c, rfl, HO.out, HB.out⟩
end Go.Proofs.Ytemckjkdlbipcaa
