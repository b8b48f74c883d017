/- The reference's comparison of two lists of words tells whether they are equal. -/
import Derived.Test.YtjphfbapekdjmaaAgg
import Derived.Test.YtjphfbapekdjmaaChecked
import Derived.Laws.StructEq
namespace Go.Proofs.Ytjphfbapekdjmaa
open Go.RowKit
set_option linter.unusedVariables false
set_option linter.unusedSimpArgs false
set_option maxRecDepth 100000

theorem neq_word (a b c a' b' c' : Int) (w : World) : (binOp .neq 72 (.agg #[.int .i64 a, .int .i64 b, .int .i64 c]) (.agg #[.int .i64 a', .int .i64 b', .int .i64 c'])).run Try.prog w = .ok (.bool (!(a == a' && (b == b' && c == c')))) w := by
  have h1 : Try.prog.underlying 72 = some (.struct (Try.prog.fieldsOf 72)) := by kernel_rfl
  have h2 : Try.prog.stoodInHeld 72 = false := by kernel_rfl
  have h3 : (Try.prog.fieldsOf 72).toList = [⟨ "Sym", 3, 0, false, "", "", 0⟩, ⟨ "Long", 3, 1, false, "", "", 8⟩, ⟨ "Code", 3, 2, false, "", "", 16⟩] := by kernel_rfl
  have ha : ∀ w, (isAgg 3).run Try.prog w = .ok false w := fun w => by kernel_rfl
  have he := fun d w x y => run_equalIn_int (P := Try.prog) w d 3 .i64 .i64 x y Try.underlying3
  rw [run_neq_struct, run_equalIn_agg (P := Try.prog) w 9999 _ _ _ h1 h2, h3]
  by_cases e1 : a = a' <;> by_cases e2 : b = b' <;> by_cases e3 : c = c' <;> simp [Op.eqFields, part, ha, he 9998, e1, e2, e3, Result.andThen]
set_option maxRecDepth 100000 in
set_option maxHeartbeats 1000000 in
theorem eqWord (A B : Option Addr) (c d G : Nat) (xs ys : List (Int × Nat × Nat)) (w : World) (hx : Seen w G A (tripleCells xs)) (hy : Seen w G B (tripleCells ys)) (hG : G ≤ w.heap.size) (hlx : xs.length ≤ 1048576) (hly : ys.length ≤ 1048576) :
    Calls Try.prog 34 #[.slice A xs.length c, .slice B ys.length d] w fun e w' => e = .returned (.bool (decide (xs = ys))) ∧ Below w.heap.size w w' := by
  by_cases hl : xs.length = ys.length
  · have hne : ((xs.length : Int) != (ys.length : Int)) = false := by simp [hl]
    have Hl := veil hl
    clear hl
    go_enter Try.func34, Try.ntmps34
    go_wp2_with fail
    go_loopg [5, 6, 14] xs.length (fun gk i0 p0 i wr => ∃ k : Nat, gk = xs.length - k ∧ k ≤ xs.length ∧ i = .int .i64 k ∧ Hid (xs.take k = ys.take k) ∧ Below w.heap.size w wr)
    case atStart => exact ⟨0, rfl, Nat.zero_le _, rfl, veil rfl, Below.refl _ _⟩
    case round =>
      obtain ⟨k, rfl, hk, rfl, He, hbel⟩ := hrel
      have hz := hbel.size
      by_cases hlt : k < xs.length
      · have hky : (k : Int) < (ys.length : Int) := by have := Hl.out; omega
        obtain ⟨g, o, s, n, m, rfl, hg, hxk, h1, h2, h3⟩ := hx.triple hlt
        obtain ⟨g', o', s', n', m', rfl, hg', hyk, h4, h5, h6⟩ := hy.triple (k := k) (by omega)
        rw [← hbel.cell (by simp; omega)] at h1 h2 h3 h4 h5 h6
        have Hx := veil hxk; have Hy := veil hyk
        clear hxk hyk hx hy
        have hbel2 := hbel.trans ((below1 wr (Obj.cells #[Value.int IntKind.i64 s, Value.int IntKind.i64 (n : Int), Value.int IntKind.i64 (m : Int)] 72)).mono hz)
        rw [← (below1 wr (Obj.cells #[Value.int IntKind.i64 s, Value.int IntKind.i64 (n : Int), Value.int IntKind.i64 (m : Int)] 72)).cell (by simp; omega)] at h4 h5 h6
        have c0 : (wr.alloc (Obj.cells #[Value.int IntKind.i64 s, Value.int IntKind.i64 (n : Int), Value.int IntKind.i64 (m : Int)] 72)).cell? ⟨wr.heap.size, 0, none⟩ = some (.int .i64 s) := by simp
        have c1 : (wr.alloc (Obj.cells #[Value.int IntKind.i64 s, Value.int IntKind.i64 (n : Int), Value.int IntKind.i64 (m : Int)] 72)).cell? ⟨wr.heap.size, 1, none⟩ = some (.int .i64 (n : Int)) := by simp
        have c2 : (wr.alloc (Obj.cells #[Value.int IntKind.i64 s, Value.int IntKind.i64 (n : Int), Value.int IntKind.i64 (m : Int)] 72)).cell? ⟨wr.heap.size, 2, none⟩ = some (.int .i64 (m : Int)) := by simp
        have hgd : Try.prog.eqGuardType Try.prog.depth 72 = false := by kernel_rfl
        have hneq := fun w => neq_word s n m s' n' m' w
        by_cases hq : (s, n, m) = (s', n', m')
        · have hb : (!(s == s' && ((n : Int) == (n' : Int) && (m : Int) == (m' : Int)))) = false := by
            simp only [Prod.mk.injEq] at hq
            obtain ⟨rfl, rfl, rfl⟩ := hq
            simp
          rw [hb] at hneq
          have Hq := veil hq
          clear hb hq
          go_wp2_with fail
          generalize wr.alloc (Obj.cells #[Value.int IntKind.i64 s, Value.int IntKind.i64 (n : Int), Value.int IntKind.i64 (m : Int)] 72) = W at *
          go_quiet (fail)
          go_wp2
          go_roundg (xs.length - (k + 1))
          case rel => exact ⟨k + 1, rfl, by omega, by go_num, veil (by rw [take_snoc Hx.out, take_snoc Hy.out, He.out, Hq.out]), hbel2.drewN _⟩
          case measure => omega
        · have hb : (!(s == s' && ((n : Int) == (n' : Int) && (m : Int) == (m' : Int)))) = true := by
            simp only [Bool.not_eq_true', Bool.and_eq_false_iff, beq_eq_false_iff_ne]
            refine Classical.byContradiction fun h => hq ?_
            have h1 : s = s' := Classical.byContradiction fun e => h (.inl e)
            have h2 : (n : Int) = n' := Classical.byContradiction fun e => h (.inr (.inl e))
            have h3 : (m : Int) = m' := Classical.byContradiction fun e => h (.inr (.inr e))
            rw [h1, show n = n' by omega, show m = m' by omega]
          rw [hb] at hneq
          have Hq := veil hq
          clear hb hq
          go_wp2_with fail
          generalize wr.alloc (Obj.cells #[Value.int IntKind.i64 s, Value.int IntKind.i64 (n : Int), Value.int IntKind.i64 (m : Int)] 72) = W at *
          go_quiet (fail)
          go_wp2
          go_ret
          refine ⟨ret_bool ?_, hbel2.drewN _⟩
          symm
          simp only [decide_eq_false_iff_not]
          intro e
          have h3 := Hx.out
          rw [e, Hy.out] at h3
          exact Hq.out (by injection h3 with h3; exact h3.symm)
      · go_wp2
        go_ret
        refine ⟨ret_bool ?_, hbel⟩
        symm
        have h3 := He.out
        rw [List.take_of_length_le (by omega), List.take_of_length_le (by have := Hl.out; omega)] at h3
        simpa using h3
  · have hne : ((xs.length : Int) != (ys.length : Int)) = true := by simp; omega
    have hd : decide (xs = ys) = false := by simp; intro e; exact hl (by rw [e])
    have Hd := veil hd
    clear hd hl
    go_enter Try.func34, Try.ntmps34
    go_wp2
    go_ret
    exact ⟨ret_bool Hd.out.symm, Below.refl _ _⟩
end Go.Proofs.Ytjphfbapekdjmaa
