/- The reference's BitsWrite: the same contract as Write's. -/
import Derived.Test.YtgongeblinomcaaRefBuild
import Derived.Test.YtgongeblinomcaaRefBytes
namespace Go.Proofs.Ytgongeblinomcaa
open Go.RowKit
set_option linter.unusedVariables false
set_option linter.unusedSimpArgs false

theorem own_base {w : World} {B B' : Nat} {e : TypeId} {size : Nat} {v : Value} {n : Nat} {xs : List Value} (h : w.ownsRow B e size v n xs) (hB : B' ≤ B) : w.ownsRow B' e size v n xs := by
  obtain ⟨h1, h2⟩ := h
  refine ⟨h1, ?_⟩
  rcases h2 with h2 | ⟨g, cap, cur, hv, hg, r⟩
  · exact .inl h2
  · exact .inr ⟨g, cap, cur, hv, Nat.le_trans hB hg, r⟩
theorem power_any (k : Nat) (w : World) (h : k ≤ 24) : Calls Try.prog 21 #[.int .i64 k] w fun e w' => e = .returned (.int .i64 (2 ^ k : Nat)) ∧ w = w' := by
  go_enter Try.func21, Try.ntmps21
  go_wp2
  go_ret
  refine ⟨?_, rfl⟩
  have h1 : 2 ^ k ≤ 2 ^ 24 := two_pow_lt _ _ h
  have e : wrap64 ((2 : Int) ^ k) = ((2 ^ k : Nat) : Int) := by rw [show ((2 : Int) ^ k) = ((2 ^ k : Nat) : Int) by simp]; exact wrap64_nat _ (by omega)
  exact congrArg (fun x => Ending.returned (.int .i64 x)) e

theorem outside_yes (n lo hi : Int) (h : n < lo ∨ hi < n) (w : World) : Calls Try.prog 20 #[.int .i64 n, .int .i64 lo, .int .i64 hi] w fun e w' => e = .returned (.bool true) ∧ w' = w :=
  (outside_any n lo hi w).mono fun e w' h2 => ⟨by rw [h2.1]; refine ret_bool ?_; simp; omega, h2.2.symm⟩
theorem outside_no (n lo hi : Int) (h : lo ≤ n ∧ n ≤ hi) (w : World) : Calls Try.prog 20 #[.int .i64 n, .int .i64 lo, .int .i64 hi] w fun e w' => e = .returned (.bool false) ∧ w' = w :=
  (outside_any n lo hi w).mono fun e w' h2 => ⟨by rw [h2.1]; refine ret_bool ?_; simp; omega, h2.2.symm⟩

set_option maxHeartbeats 2000000 in
theorem refWrite_any (A : Option Addr) (c G : Nat) (l : List (Int × Int)) (w : World) (hl : Seen w G A (pairCells l)) (hG : G ≤ w.heap.size) (hlen : l.length ≤ maxLen) :
    Calls Try.prog 13 #[.slice A l.length c] w fun e w' => ∃ v out, e = .returned (.tuple #[v, .int .i64 (writeErr l)]) ∧ w'.ownsRow w.heap.size 5 1 v out.length (ints .u8 out) ∧ Written l out ∧ Below w.heap.size w w' := by
  unfold maxLen at hlen
  by_cases hbig : 20000 < l.length
  · have hbig' : (20000 : Int) < (l.length : Int) := by omega
    have He : Hid (writeErr l = 2) := by show writeErr l = 2; unfold writeErr; rw [if_pos hbig]
    go_enter Try.func13, Try.ntmps13
    go_wp2
    go_ret2
    exact ⟨_, [], ret_two rfl (by rw [He.out]; rfl), World.ownsRow_nil _ _ _ _, written_err (by rw [He.out]; decide), Below.refl _ _⟩
  · have hbig' : ¬ (20000 : Int) < (l.length : Int) := by omega
    go_enter Try.func13, Try.ntmps13
    go_wp2_with fail
    go_loopg [12] l.length (fun gk i wr => ∃ k : Nat, gk = l.length - k ∧ k ≤ l.length ∧ i = .int .i64 k ∧ (∀ f ∈ l.take k, okF f) ∧ Bld w.heap.size w.heap.size (fieldBits (l.take k)) wr ∧ Below w.heap.size w wr)
    case atStart => exact ⟨0, rfl, Nat.zero_le _, rfl, by simp, bld_new w, below1 _ _⟩
    case round =>
      obtain ⟨k, rfl, hk, rfl, hok, hI, hb⟩ := hrel
      have hBw := hb.size
      have hle := fieldBits_le _ hok
      by_cases hlt : k < l.length
      · obtain ⟨g, o, x, y, rfl, hg, hf, h1, h2⟩ := hl.pair hlt
        have Hf := veil hf; clear hf
        rw [← hb.cell (by simp; omega)] at h1 h2
        by_cases hx : 0 ≤ x ∧ x ≤ 24
        · obtain ⟨X, hX, rfl⟩ : ∃ X : Nat, X ≤ 24 ∧ x = X := ⟨x.toNat, by omega, by omega⟩
          have h24 : 2 ^ X ≤ 2 ^ 24 := two_pow_lt _ _ hX
          have hpp := Nat.two_pow_pos X
          have O1 := veil (outside_no (X : Int) 0 24 (by omega))
          have O2 := veil (fun W => (power_any X W hX).mono fun e w' h2 => (⟨h2.1, h2.2.symm⟩ : e = .returned (.int .i64 ((2 ^ X : Nat) : Int)) ∧ w' = W))
          clear hx
          by_cases hy : 0 ≤ y ∧ y ≤ ((2 ^ X : Nat) : Int) - 1
          · have O3 := veil (outside_no y 0 (((2 ^ X : Nat) : Int) - 1) hy)
            obtain ⟨Y, rfl⟩ := Int.eq_ofNat_of_zero_le hy.1
            have HY : Hid (Y < 2 ^ X) := by show Y < 2 ^ X; omega
            clear hy
            generalize hP : ((2 ^ X : Nat) : Int) = P at *
            have hP1 : 1 ≤ P := by omega
            have hP2 : P ≤ 16777216 := by omega
            clear hP h24 hpp
            go_wp2_with fail
            go_quiet (first | (go_at_call 20; with_reducible exact Calls.quiet_of_same (O1.out _)) | (go_at_call 20; with_reducible exact Calls.quiet_of_same (O3.out _)) | (go_at_call 21; with_reducible exact Calls.quiet_of_same (O2.out _)))
            have hYb : Y < 9223372036854775808 := by
              have h1 := HY.out
              have h2 : 2 ^ X ≤ 2 ^ 24 := two_pow_lt _ _ hX
              omega
            go_wp2_with (first
              | (go_at_call 23; refine (binary_any X Y _ (by omega) hYb).mono ?_; rintro e w1 ⟨rfl, rfl⟩)
              | (go_at_call 22; refine (writeString_any w.heap.size w.heap.size (fieldBits (l.take k)) (bitsN X Y) _ (hI.below ((below1 _ _).drewN _)) (by rw [bitsN_length]; simp at hle; omega) (by have := hb.size; simp; omega)).mono ?_; rintro e w2 ⟨rfl, hI2, hb2⟩))
            have ht := take_snoc Hf.out
            have hfin : Bld w.heap.size w.heap.size (fieldBits (l.take (k + 1))) w2 := by rw [ht, fieldBits_snoc]; exact hI2
            have hokf : ∀ f ∈ l.take (k + 1), okF f := by
              intro f hf'
              rw [ht] at hf'
              rcases List.mem_append.1 hf' with hf' | hf'
              · exact hok f hf'
              · simp at hf'; subst hf'
                refine ⟨⟨by simp, by simp; omega⟩, by simp, ?_⟩
                have : ((Y : Nat) : Int) < ((2 ^ X : Nat) : Int) := by have := HY.out; omega
                simpa using this
            have hbf : Below w.heap.size w w2 := ((hb.alloc hb.size _).drewN _).trans hb2
            clear ht hI2 hb2 hI hok hb h1 h2
            go_roundg (l.length - (k + 1))
            case rel => exact ⟨k + 1, rfl, by omega, by go_num, hokf, hfin, hbf⟩
            case measure => omega
          · have hyn : y < 0 ∨ ((2 ^ X : Nat) : Int) - 1 < y := by omega
            have O3 := veil (outside_yes y 0 (((2 ^ X : Nat) : Int) - 1) hyn)
            have He : Hid (writeErr l = 1) := by
              show writeErr l = 1
              unfold writeErr
              rw [if_neg hbig, if_neg]
              intro hall
              have h3 := hall ((X : Int), y) (List.mem_of_getElem? Hf.out)
              obtain ⟨_, h4, h5⟩ := h3
              simp at h4 h5
              apply hy
              have h6 : ((2 ^ X : Nat) : Int) = (2 : Int) ^ X := by simp
              omega
            clear hyn hy
            generalize hP : ((2 ^ X : Nat) : Int) = P at *
            have hP1 : 1 ≤ P := by omega
            have hP2 : P ≤ 16777216 := by omega
            clear hP h24 hpp
            go_wp2_with fail
            go_quiet (first | (go_at_call 20; with_reducible exact Calls.quiet_of_same (O1.out _)) | (go_at_call 20; with_reducible exact Calls.quiet_of_same (O3.out _)) | (go_at_call 21; with_reducible exact Calls.quiet_of_same (O2.out _)))
            go_wp2
            go_ret2
            exact ⟨_, [], ret_two rfl (by rw [He.out]; rfl), World.ownsRow_nil _ _ _ _, written_err (by rw [He.out]; decide), (hb.alloc hb.size _).drewN _⟩
        · have O1 := veil (outside_yes x 0 24 (by omega))
          have He : Hid (writeErr l = 1) := by
            show writeErr l = 1
            unfold writeErr
            rw [if_neg hbig, if_neg]
            intro hall
            exact hx (hall (x, y) (List.mem_of_getElem? Hf.out)).1
          clear hx
          go_wp2_with fail
          go_quiet (first | (go_at_call 20; with_reducible exact Calls.quiet_of_same (O1.out _)) | fail)
          go_wp2
          go_ret2
          exact ⟨_, [], ret_two rfl (by rw [He.out]; rfl), World.ownsRow_nil _ _ _ _, written_err (by rw [He.out]; decide), (hb.alloc hb.size _).drewN _⟩
      · obtain rfl : k = l.length := by omega
        rw [List.take_length] at hok hI hle
        have He : Hid (writeErr l = 0) := by show writeErr l = 0; unfold writeErr; rw [if_neg hbig, if_pos hok]
        go_wp2_with fail
        refine (string_any w.heap.size w.heap.size _ _ hI).mono ?_
        rintro e w1 ⟨rfl, hb1⟩
        go_wp2_with fail
        refine (bytesOf_any (fieldBits l) _ (by omega)).mono ?_
        rintro e w2 ⟨v2, out, rfl, hown2, hW2, hb2⟩
        have hbs : w.heap.size ≤ w1.heap.size := by have := hb1.size; omega
        go_wp2
        go_ret2
        refine ⟨_, out, ret_two rfl (by rw [He.out]; rfl), own_base hown2 hbs, ⟨fun e => absurd He.out e, fun _ => hW2⟩, (hb.trans hb1).trans (hb2.mono hbs)⟩
end Go.Proofs.Ytgongeblinomcaa
