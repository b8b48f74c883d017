/- The reference's comparison of two lists of tokens tells whether they are equal. -/
import Derived.Test.YtemckjkdlbipcaaTokMem
namespace Go.Proofs.Ytemckjkdlbipcaa
open Go.RowKit
set_option linter.unusedVariables false
set_option linter.unusedSimpArgs false
set_option maxRecDepth 100000

set_option maxRecDepth 100000 in
set_option maxHeartbeats 1000000 in
theorem eqTok (A B : Option Addr) (c d G : Nat) (xs ys : List (Int × Int × Int)) (w : World) (hx : Seen w G A (tokCells xs)) (hy : Seen w G B (tokCells ys)) (hG : G ≤ w.heap.size) (hlx : xs.length ≤ 1099511627776) (hly : ys.length ≤ 1099511627776) :
    Calls Try.prog 13 #[.slice A xs.length c, .slice B ys.length d] w fun e w' => e = .returned (.bool (decide (xs = ys))) ∧ Below w.heap.size w w' := by
  by_cases hl : xs.length = ys.length
  · have hne : ((xs.length : Int) != (ys.length : Int)) = false := by simp [hl]
    have Hl := veil hl
    clear hl
    go_enter Try.func13, Try.ntmps13
    go_wp2_with fail
    go_loopg [5, 6, 14] xs.length (fun gk i0 p0 i wr => ∃ k : Nat, gk = xs.length - k ∧ k ≤ xs.length ∧ i = .int .i64 k ∧ Hid (xs.take k = ys.take k) ∧ Below w.heap.size w wr)
    case atStart => exact ⟨0, rfl, Nat.zero_le _, rfl, veil rfl, Below.refl _ _⟩
    case round =>
      obtain ⟨k, rfl, hk, rfl, He, hbel⟩ := hrel
      have hz := hbel.size
      by_cases hlt : k < xs.length
      · have hky : (k : Int) < (ys.length : Int) := by have := Hl.out; omega
        obtain ⟨g, o, s, n, m, rfl, hg, hxk, h1, h2, h3⟩ := hx.tok hlt
        obtain ⟨g', o', s', n', m', rfl, hg', hyk, h4, h5, h6⟩ := hy.tok (k := k) (by omega)
        rw [← hbel.cell (by simp; omega)] at h1 h2 h3 h4 h5 h6
        have Hx := veil hxk; have Hy := veil hyk
        clear hxk hyk hx hy
        have hbel2 := hbel.trans ((below1 wr (Obj.cells #[Value.int IntKind.i64 s, Value.int IntKind.i64 n, Value.int IntKind.i64 m] 30)).mono hz)
        rw [← (below1 wr (Obj.cells #[Value.int IntKind.i64 s, Value.int IntKind.i64 n, Value.int IntKind.i64 m] 30)).cell (by simp; omega)] at h4 h5 h6
        have c0 : (wr.alloc (Obj.cells #[Value.int IntKind.i64 s, Value.int IntKind.i64 n, Value.int IntKind.i64 m] 30)).cell? ⟨wr.heap.size, 0, none⟩ = some (.int .i64 s) := by simp
        have c1 : (wr.alloc (Obj.cells #[Value.int IntKind.i64 s, Value.int IntKind.i64 n, Value.int IntKind.i64 m] 30)).cell? ⟨wr.heap.size, 1, none⟩ = some (.int .i64 n) := by simp
        have c2 : (wr.alloc (Obj.cells #[Value.int IntKind.i64 s, Value.int IntKind.i64 n, Value.int IntKind.i64 m] 30)).cell? ⟨wr.heap.size, 2, none⟩ = some (.int .i64 m) := by simp
        have hgd : Try.prog.eqGuardType Try.prog.depth 30 = false := by kernel_rfl
        have hneq := fun w => neq_tok s n m s' n' m' w
        by_cases hq : (s, n, m) = (s', n', m')
        · have hb : (!(s == s' && (n == n' && m == m'))) = false := by
            simp only [Prod.mk.injEq] at hq
            obtain ⟨rfl, rfl, rfl⟩ := hq
            simp
          rw [hb] at hneq
          have Hq := veil hq
          clear hb hq
          go_wp2_with fail
          generalize wr.alloc (Obj.cells #[Value.int IntKind.i64 s, Value.int IntKind.i64 n, Value.int IntKind.i64 m] 30) = W at *
          go_quiet (fail)
          go_wp2
          go_roundg (xs.length - (k + 1))
          case rel => exact ⟨k + 1, rfl, by omega, by go_num, veil (by rw [take_snoc Hx.out, take_snoc Hy.out, He.out, Hq.out]), hbel2.drewN _⟩
          case measure => omega
        · have hb : (!(s == s' && (n == n' && m == m'))) = true := by
            simp only [Bool.not_eq_true', Bool.and_eq_false_iff, beq_eq_false_iff_ne]
            refine Classical.byContradiction fun h => hq ?_
            have h1 : s = s' := Classical.byContradiction fun e => h (.inl e)
            have h2 : n = n' := Classical.byContradiction fun e => h (.inr (.inl e))
            have h3 : m = m' := Classical.byContradiction fun e => h (.inr (.inr e))
            rw [h1, h2, h3]
          rw [hb] at hneq
          have Hq := veil hq
          clear hb hq
          go_wp2_with fail
          generalize wr.alloc (Obj.cells #[Value.int IntKind.i64 s, Value.int IntKind.i64 n, Value.int IntKind.i64 m] 30) = W at *
          go_quiet (fail)
          go_wp2
          go_ret
          refine ⟨ret_bool ?_, hbel2.drewN _⟩
          symm
          simp only [decide_eq_false_iff_not]
          intro e
          have h3 := Hx.out
          rw [e, Hy.out] at h3
          exact Hq.out (by injection h3 with h3; exact h3.symm)
      · go_wp2
        go_ret
        refine ⟨ret_bool ?_, hbel⟩
        symm
        have h3 := He.out
        rw [List.take_of_length_le (by omega), List.take_of_length_le (by have := Hl.out; omega)] at h3
        simpa using h3
  · have hne : ((xs.length : Int) != (ys.length : Int)) = true := by simp; omega
    have hd : decide (xs = ys) = false := by simp; intro e; exact hl (by rw [e])
    have Hd := veil hd
    clear hd hl
    go_enter Try.func13, Try.ntmps13
    go_wp2
    go_ret
    exact ⟨ret_bool Hd.out.symm, Below.refl _ _⟩
end Go.Proofs.Ytemckjkdlbipcaa
