/- The reference's Basis: its contract. -/
import Derived.Test.YtgnpjejjnhdejaaDoorWaveL
import Derived.Test.YtgnpjejjnhdejaaDoorBlkVal
import Derived.Test.YtgnpjejjnhdejaaDoorOwn
namespace Go.Proofs.YtgnpjejjnhdejaaDoor
open Go.RowKit
set_option linter.unusedVariables false
set_option linter.unusedSimpArgs false

theorem elemB : ElemOf Tryd.prog 39 3 1 8 := .mk' Tryd.underlying39 (z := .int .i64 0) (by kernel_rfl) rfl (by omega)
theorem wW_nine : wW.take 9 = [4096, 4017, 3784, 3406, 2896, 2276, 1567, 799, 0] := rfl
theorem wW_neg : ∀ j : Fin 8, wW[9 + j.1]? = some (- wW.getD (7 - j.1) 0) ∧ wW[7 - j.1]? = some (wW.getD (7 - j.1) 0) := by decide +kernel
theorem wW_same : ∀ j : Fin 15, wW[17 + j.1]? = some (wW.getD (15 - j.1) 0) ∧ wW[15 - j.1]? = some (wW.getD (15 - j.1) 0) := by decide +kernel
theorem wW_in : ∀ j : Fin 32, wW[j.1]? = some (wW.getD j.1 0) := by decide +kernel
theorem wW_abs : ∀ j : Fin 32, -4096 ≤ wW.getD j.1 0 ∧ wW.getD j.1 0 ≤ 4096 := by decide +kernel
theorem take_at {α : Type} {xs : List α} {n j : Nat} {x : α} (h : xs[j]? = some x) (hj : j < n) : (xs.take n)[j]? = some x := by
  rw [List.getElem?_take_of_lt hj]; exact h
set_option maxHeartbeats 4000000 in
set_option maxRecDepth 100000 in
theorem refBasis_any (u x : Nat) (w : World) (hu : u < 8) (hx : x < 8) :
    Calls Tryd.prog 16 #[.int .i64 (u : Int), .int .i64 (x : Int)] w fun e w' => e = .returned (.int .i64 (cW u x)) ∧ Below w.heap.size w w' := by
  by_cases h0 : u = 0
  · subst h0
    have hz : ((0 : Nat) : Int) = 0 := rfl
    rw [cW_zero, hz]
    have hb := Below.refl w.heap.size w
    go_enter Tryd.func16, Tryd.ntmps16
    go_wp2
    go_ret
    exact ⟨rfl, hb⟩
  · have h0z : ¬ (u : Int) = 0 := by omega
    have h0b : ((u : Int) == 0) = false := by simp; omega
    have hb0 := below1 w (.cells (ints .i64 (wW.take 9)).toArray 3)
    have HO0 : Owns w.heap.size [intRow 3 .i64 (.slice (some ⟨w.heap.size, 0, none⟩) 9 9) (wW.take 9)] (w.alloc (.cells (ints .i64 (wW.take 9)).toArray 3)) :=
      .one (by simp) (World.ownsRow_lit w _ 9 (Nat.le_refl _) (by unfold maxLen; omega) rfl)
    have HO0' := veil HO0
    clear HO0
    obtain ⟨R, hR⟩ : ∃ R, R = cW u x := ⟨_, rfl⟩
    rw [← hR]
    have hRR : wW[u * (2 * x + 1) % 32]? = some R := by rw [hR, cW, if_neg h0]; exact wW_in ⟨_, Nat.mod_lt _ (by omega)⟩
    have HR := veil hRR
    clear hR hRR
    obtain ⟨p, hp⟩ : ∃ p, p = u * (2 * x + 1) := ⟨_, rfl⟩
    have hpz : (u : Int) * (2 * (x : Int) + 1) = (p : Int) := by rw [hp]; simp
    have hpb : p ≤ 7 * 15 := by rw [hp]; exact Nat.mul_le_mul (by omega) (by omega)
    rw [← hp] at HR
    clear hp
    have HP := veil hpz; clear hpz
    go_enter Tryd.func16, Tryd.ntmps16
    go_wp2
    go_loopg [5, 6] 8 (fun gk v i wr => ∃ j : Nat, gk = 8 - j ∧ j ≤ 8 ∧ i = .int .i64 (9 + (j : Int)) ∧ Hid (Owns w.heap.size [intRow 3 .i64 v (wW.take (9 + j))] wr) ∧ Below w.heap.size w wr)
    case atStart => exact ⟨0, rfl, by omega, rfl, HO0', hb0⟩
    case round =>
      clear HO0' hb0
      obtain ⟨j, rfl, hj, rfl, HO, hbel⟩ := hrel
      by_cases hlt : j < 8
      · have hltz : (j : Int) < 8 := by omega
        obtain ⟨e1, e2⟩ := wW_neg ⟨j, hlt⟩
        have hab := wW_abs ⟨7 - j, by omega⟩
        simp only [] at e1 e2 hab
        generalize wW.getD (7 - j) 0 = y at *
        have HT := veil (take_snoc e1)
        have hyt := take_at e2 (show 7 - j < 9 + j by omega)
        have hlen : Hid ((wW.take (9 + j)).length = 9 + j) := by show _ = _; rw [List.length_take]; show min (9 + j) 32 = _; omega
        obtain ⟨A, c, ev, hsee, _, _⟩ := HO.out.seen (List.mem_singleton.2 rfl)
        simp only [intRow, hlen.out] at ev
        obtain ⟨g, o, y', eA, hg, hy', hcell⟩ := hsee.int (k := 7 - j) (by rw [hlen.out]; omega)
        rw [hyt] at hy'
        injection hy' with hy'
        subst hy' eA ev
        have hi1 : (16 - (9 + (j : Int))).toNat = 7 - j := by omega
        have hw1 : wrap64 (-y) = -y := by unfold wrap64; omega
        clear e1 e2 hyt hsee hg
        generalize wW.take (9 + j) = l at *
        go_wp2_with (first
          | (at_builtin; go_loud (refine wpList_ownI wr rfl (.tmp 15) (.tmp 22) _ rfl w.heap.size 3 .i64 8 elemB (.slice (some ⟨g, o, none⟩) (9 + j) c) l [] rfl HO.out [-y] rfl (by rw [hlen.out]; unfold maxLen; simp; omega) (by rw [hlen.out]; simp; omega) ?_); intro v' w' HO' hb' hz')
          | fail)
        go_roundg (8 - (j + 1))
        case rel => exact ⟨j + 1, rfl, by omega, by go_num, veil (by rw [← Nat.add_assoc, HT.out]; exact HO'), hbel.trans hb'⟩
        case measure => omega
      · obtain rfl : j = 8 := by omega
        go_wp2_with fail
        rename World => W0
        go_loopg [5, 7] 15 (fun gk v i wr => ∃ j : Nat, gk = 15 - j ∧ j ≤ 15 ∧ i = .int .i64 (17 + (j : Int)) ∧ Hid (Owns w.heap.size [intRow 3 .i64 v (wW.take (17 + j))] wr) ∧ Below w.heap.size w wr)
        case atStart => exact ⟨0, rfl, by omega, rfl, HO, hbel⟩
        case round =>
          clear HO hbel
          obtain ⟨j, rfl, hj, rfl, HO, hbel⟩ := hrel
          by_cases hlt : j < 15
          · have hltz : (j : Int) < 15 := by omega
            obtain ⟨e1, e2⟩ := wW_same ⟨j, hlt⟩
            simp only [] at e1 e2
            generalize wW.getD (15 - j) 0 = y at *
            have HT := veil (take_snoc e1)
            have hyt := take_at e2 (show 15 - j < 17 + j by omega)
            have hlen : Hid ((wW.take (17 + j)).length = 17 + j) := by show _ = _; rw [List.length_take]; show min (17 + j) 32 = _; omega
            obtain ⟨A, c, ev, hsee, _, _⟩ := HO.out.seen (List.mem_singleton.2 rfl)
            simp only [intRow, hlen.out] at ev
            obtain ⟨g, o, y', eA, hg, hy', hcell⟩ := hsee.int (k := 15 - j) (by rw [hlen.out]; omega)
            rw [hyt] at hy'
            injection hy' with hy'
            subst hy' eA ev
            have hi1 : (32 - (17 + (j : Int))).toNat = 15 - j := by omega
            clear e1 e2 hyt hsee hg
            generalize wW.take (17 + j) = l at *
            go_wp2_with (first
              | (at_builtin; go_loud (refine wpList_ownI wr rfl (.tmp 28) (.tmp 34) _ rfl w.heap.size 3 .i64 8 elemB (.slice (some ⟨g, o, none⟩) (17 + j) c) l [] rfl HO.out [y] rfl (by rw [hlen.out]; unfold maxLen; simp; omega) (by rw [hlen.out]; simp; omega) ?_); intro v' w' HO' hb' hz')
              | fail)
            go_roundg (15 - (j + 1))
            case rel => exact ⟨j + 1, rfl, by omega, by go_num, veil (by rw [← Nat.add_assoc, HT.out]; exact HO'), hbel.trans hb'⟩
            case measure => omega
          · obtain rfl : j = 15 := by omega
            have hRt := take_at HR.out (show p % 32 < 32 by omega)
            have hlen : Hid ((wW.take (17 + 15)).length = 32) := rfl
            obtain ⟨A, c, ev, hsee, _, _⟩ := HO.out.seen (List.mem_singleton.2 rfl)
            simp only [intRow, hlen.out] at ev
            obtain ⟨g, o, y', eA, hg, hy', hcell⟩ := hsee.int (k := p % 32) (by rw [hlen.out]; omega)
            rw [hRt] at hy'
            injection hy' with hy'
            subst hy' eA ev
            have hm1 : (p : Int).tmod 32 = ((p % 32 : Nat) : Int) := by rw [Int.tmod_eq_emod_of_nonneg (by omega)]; omega
            have hm2 : p % 32 < 32 := Nat.mod_lt _ (by omega)
            have hm3 : wrap64 (p : Int) = p := by unfold wrap64; omega
            have hpz := HP.out
            clear HO HR hsee hg hRt
            generalize p % 32 = m at *
            go_wp2
            go_ret
            exact ⟨rfl, hbel⟩
end Go.Proofs.YtgnpjejjnhdejaaDoor
