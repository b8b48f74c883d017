/- The closed fact of the laws on package best. -/
import Derived.Test.YthelblkpfkngmaaBestMade
namespace Go.Proofs.Ythelblkpfkngmaa
open Go.RowKit
set_option linter.unusedVariables false
set_option linter.unusedSimpArgs false

theorem used511 : used [5, 1, 1] = [0, 1, 2] := by decide
theorem cost511 {L : Int → Nat} (h : BestL [5, 1, 1] L) : costL [5, 1, 1] L = 10 := by
  have hc : ∀ L : Int → Nat, costL [5, 1, 1] L = 5 * L 0 + L 1 + L 2 := by
    intro L; unfold costL; rw [used511]; simp [sumF, cntZ]; omega
  have hr : ∀ L : Int → Nat, sumF (used [5, 1, 1]) (fun i => 2 ^ (16 - L i)) = 2 ^ (16 - L 0) + 2 ^ (16 - L 1) + 2 ^ (16 - L 2) := by
    intro L; rw [used511]; simp [sumF]; omega
  have h1 := h.least (fun i => (i + 1).toNat) ⟨by rw [used511]; decide, by rw [hr]; decide⟩
  rw [hc, hc] at h1
  simp at h1
  rw [hc]
  have h2 := h.code.2
  rw [hr] at h2
  have h3 := h.code.1
  rw [used511] at h3
  have a0 := h3 0 (by simp)
  have a1 := h3 1 (by simp)
  have a2 := h3 2 (by simp)
  generalize L 0 = x at *
  generalize L 1 = y at *
  generalize L 2 = z at *
  have p0 := Nat.two_pow_pos (16 - x)
  have p1 := Nat.two_pow_pos (16 - y)
  have p2 := Nat.two_pow_pos (16 - z)
  have e15 : 2 ^ 15 = 32768 := by decide
  have e14 : 2 ^ 14 = 16384 := by decide
  rcases Nat.lt_or_ge x 2 with hx | hx
  · obtain rfl : x = 1 := by omega
    rw [show 16 - 1 = 15 from rfl, e15] at h2
    rcases Nat.lt_or_ge y 2 with hy | hy
    · obtain rfl : y = 1 := by omega
      rw [show 16 - 1 = 15 from rfl, e15] at h2; omega
    · rcases Nat.lt_or_ge z 2 with hz | hz
      · obtain rfl : z = 1 := by omega
        rw [show 16 - 1 = 15 from rfl, e15] at h2; omega
      · rcases Nat.lt_or_ge (y + z) 5 with h5 | h5
        · obtain rfl : y = 2 := by omega
          obtain rfl : z = 2 := by omega
          rw [show 16 - 2 = 14 from rfl, e14] at h2; omega
        · omega
  · omega
set_option maxRecDepth 100000 in
set_option maxHeartbeats 4000000 in
theorem bested_any (w : World) : Calls Try.prog 20 #[] w fun e w' => e = .returned (.bool true) ∧ Below w.heap.size w w' := by
  have he : errB [5, 1, 1] = 0 := by decide
  have hs0 := Seen.new w (ints .i64 [5, 1, 1]) 3 (w.heap.size + 1) (Nat.lt_succ_self _)
  have HC : Hid (Calls Try.prog 16 #[.slice (some ⟨w.heap.size, 0, none⟩) 3 3] (w.alloc (.cells #[.int .i64 5, .int .i64 1, .int .i64 1] 3)) _) := make_any (some ⟨w.heap.size, 0, none⟩) 3 (w.heap.size + 1) [5, 1, 1] _ hs0 (by simp) (by unfold maxLen; decide)
  rw [he] at HC
  clear hs0
  go_enter Try.func20, Try.ntmps20
  go_wp2_with fail
  refine HC.out.mono ?_
  rintro e w1 ⟨cs, syms, A', c', rfl, hM, HO, hb1⟩
  obtain ⟨_, _, hck, hcE, L, hL, hcV, _⟩ := hM.ok he
  rw [cost511 hL] at hcV
  have HM := veil hM
  have hsy := MadeT.seen (zs := [5, 1, 1]) (cs := cs) HO
  have Hl := veil (tabCells_length (A := A') (n := syms.length) (c := c') hM.len)
  have hone := tabCells_one (cs := cs) (A := A') (n := syms.length) (c := c')
  have hbel1 : Below w.heap.size w w1 := (below1 _ _).trans (hb1.mono (by simp))
  have HK := veil (fun w2 G h1 h2 h3 => cost_any cs syms [5, 1, 1] A' (some ⟨w1.heap.size + 1, 0, none⟩) c' 3 G w2 HM.out.len (by have := HM.out.short; unfold maxLen; omega) HM.out.bnd h1 h2 h3 (by unfold maxLen; decide))
  rw [hcE, hcV, show ((10 : Nat) : Int) = 10 from rfl] at HK
  unfold tabV at HK ⊢
  generalize tabCells cs A' syms.length c' = xs at *
  clear HC hb1 hck hcE hcV hL HO hM
  go_wp2_with (first
    | (refine wpList_store_tab w1 rfl (.tmp 1) (.tmp 8) rfl xs Hl.out hone rfl rfl ?_)
    | (refine wpList_load_mid rfl 25 (.tmp 1) rfl w1.heap.size 0 rfl xs _ (range_new w1 xs 25) Try.underlying25 rfl (by rw [Hl.out]; exact info_tab) ?_)
    | fail)
  refine (HK.out _ (w1.heap.size + 1 + 1) (((hsy.alloc (Nat.le_refl _) _).alloc (by simp) _).up (by omega)) ?_ (by simp)).mono ?_
  · have h := Seen.new (w1.alloc (.cells xs.toArray 25)) (ints .i64 [5, 1, 1]) 3 (w1.heap.size + 1 + 1) (by simp)
    rw [World.size_alloc] at h
    exact h
  rintro e w2 ⟨rfl, hb2⟩
  have hbel2 : Below w.heap.size w w2 := (hbel1.trans ((below2 w1 _ _).mono hbel1.size)).trans (hb2.mono (by have := hbel1.size; simp; omega))
  go_wp2
  go_ret
  exact ⟨rfl, hbel2⟩
end Go.Proofs.Ythelblkpfkngmaa
