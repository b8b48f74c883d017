/- Tokens in memory: structs of three integers in a row. -/
import Derived.Test.YtemckjkdlbipcaaAgg
import Derived.Test.YtemckjkdlbipcaaRows
import Derived.Laws.StructEq
namespace Go.Proofs.Ytemckjkdlbipcaa
open Go.RowKit
set_option linter.unusedVariables false
set_option linter.unusedSimpArgs false
set_option maxRecDepth 100000

def tokC (f : Int × Int × Int) : List Value := [.int .i64 f.1, .int .i64 f.2.1, .int .i64 f.2.2]
def tokCells (l : List (Int × Int × Int)) : List Value := l.flatMap tokC
theorem tokCells_nil : tokCells [] = [] := rfl
theorem tokCells_length (l : List (Int × Int × Int)) : (tokCells l).length = l.length * 3 := by
  induction l with
  | nil => rfl
  | cons f l ih => simp [tokCells, tokC] at ih ⊢; omega
theorem tokCells_append (l m : List (Int × Int × Int)) : tokCells (l ++ m) = tokCells l ++ tokCells m := by simp [tokCells]
theorem tokCells_one {l : List (Int × Int × Int)} : ∀ u ∈ tokCells l, u.oneCell' = true := by
  intro u hu
  simp only [tokCells, List.mem_flatMap] at hu
  obtain ⟨f, _, hu⟩ := hu
  simp [tokC] at hu
  rcases hu with rfl | rfl | rfl <;> rfl
theorem tokCells_at : ∀ (l : List (Int × Int × Int)) (k : Nat) (f : Int × Int × Int), l[k]? = some f → (tokCells l)[k * 3]? = some (.int .i64 f.1) ∧ (tokCells l)[k * 3 + 1]? = some (.int .i64 f.2.1) ∧ (tokCells l)[k * 3 + 2]? = some (.int .i64 f.2.2)
  | [], k, f, h => by simp at h
  | g :: l, 0, f, h => by simp at h; subst h; simp [tokCells, tokC]
  | g :: l, k + 1, f, h => by
    rw [List.getElem?_cons_succ] at h
    have e : ∀ j, (tokCells (g :: l))[j + 3]? = (tokCells l)[j]? := by intro j; simp [tokCells, tokC]
    have := tokCells_at l k f h
    refine ⟨?_, ?_, ?_⟩
    · rw [show (k + 1) * 3 = k * 3 + 3 by omega, e]; exact this.1
    · rw [show (k + 1) * 3 + 1 = k * 3 + 1 + 3 by omega, e]; exact this.2.1
    · rw [show (k + 1) * 3 + 2 = k * 3 + 2 + 3 by omega, e]; exact this.2.2
theorem tokCells_take (l : List (Int × Int × Int)) (k : Nat) : tokCells (l.take k) = (tokCells l).take (k * 3) := by
  by_cases h : k ≤ l.length
  · have e : tokCells l = tokCells (l.take k) ++ tokCells (l.drop k) := by rw [← tokCells_append, List.take_append_drop]
    have e2 : k * 3 = (tokCells (l.take k)).length := by rw [tokCells_length, List.length_take]; omega
    rw [e, e2, List.take_left]
  · rw [List.take_of_length_le (by omega), List.take_of_length_le (by rw [tokCells_length]; omega)]
theorem tokCells_drop (l : List (Int × Int × Int)) (k : Nat) : tokCells (l.drop k) = (tokCells l).drop (k * 3) := by
  by_cases h : k ≤ l.length
  · have e : tokCells l = tokCells (l.take k) ++ tokCells (l.drop k) := by rw [← tokCells_append, List.take_append_drop]
    have e2 : k * 3 = (tokCells (l.take k)).length := by rw [tokCells_length, List.length_take]; omega
    rw [e, e2, List.drop_left]
  · rw [List.drop_of_length_le (by omega), List.drop_of_length_le (by rw [tokCells_length]; omega)]; rfl
/-- One token of a row that is seen, with its three cells. -/
theorem Seen.tok {w : World} {B : Nat} {A : Option Addr} {l : List (Int × Int × Int)} (h : Seen w B A (tokCells l)) {k : Nat} (hk : k < l.length) :
    ∃ g o s n c, A = some ⟨g, o, none⟩ ∧ g < B ∧ l[k]? = some (s, n, c) ∧ w.cell? ⟨g, o + k * 3, none⟩ = some (.int .i64 s) ∧ w.cell? ⟨g, o + k * 3 + 1, none⟩ = some (.int .i64 n) ∧ w.cell? ⟨g, o + k * 3 + 2, none⟩ = some (.int .i64 c) := by
  obtain ⟨g, o, e, hg, hc⟩ := h.at (by rw [tokCells_length]; omega)
  obtain ⟨⟨s, n, c⟩, hx⟩ := some_at hk
  obtain ⟨h1, h2, h3⟩ := tokCells_at l k _ hx
  exact ⟨g, o, s, n, c, e, hg, hx, hc _ _ h1, by have := hc _ _ h2; rw [Nat.add_assoc]; exact this, by have := hc _ _ h3; rw [Nat.add_assoc]; exact this⟩
theorem elem_tok : ElemOf Try.prog 24 30 3 24 := .mk' (z := .agg #[.int .i64 0, .int .i64 0, .int .i64 0]) Try.underlying24 (by kernel_rfl) rfl (by omega)
abbrev tokRow (v : Value) (l : List (Int × Int × Int)) : Row := ⟨30, 3, v, l.length, tokCells l⟩
theorem tokRow_append (v : Value) (l m : List (Int × Int × Int)) : (⟨30, 3, v, l.length + m.length, tokCells l ++ tokCells m⟩ : Row) = tokRow v (l ++ m) := by simp [tokRow, tokCells_append]
/-- In a walk: append of one token just laid onto the first of the rows. -/
theorem wpList_ownK {ops : Array Oper} {rest : List Oper} {o : Oper} {a : Act} {Q : Exit → Act → World → Prop} (w0 : World) (hgd : Region.wanted o (yielded ops a.tmps) = true) (s x : Operand)
    (ho : o.op = .call { callee := .builtin .append, args := #[s, x], argTypes := #[24, 24] })
    (B : Nat) (v : Value) (l : List (Int × Int × Int)) (rs : List Row) (hs : a.eval s = v) (HO : Owns B (tokRow v l :: rs) w0) (f0 f1 f2 : Int) (hx : a.eval x = .slice (some ⟨w0.heap.size, 0, none⟩) 1 1)
    (h63 : l.length + 1 ≤ 1099511627776)
    (h : ∀ v' w', Owns B (tokRow v' (l ++ [(f0, f1, f2)]) :: rs) w' → Below B w0 w' → w0.heap.size < w'.heap.size → wpList Try.prog ops Q rest (a.put o.dst v') w') : wpList Try.prog ops Q (o :: rest) a (w0.alloc (.cells #[.int .i64 f0, .int .i64 f1, .int .i64 f2] 30)) := by
  refine wpList_ownV _ hgd s x _ ho B 30 3 24 elem_tok v l.length (tokCells l) rs hs (HO.alloc _) (w0.heap.size + 1) _ 1 1 (tokCells [(f0, f1, f2)]) hx (Seen.new w0 (tokCells [(f0, f1, f2)]) _ _ (Nat.lt_succ_self _)) (by rw [tokCells_length]; rfl) tokCells_one (by unfold maxLen; omega) (by omega) ?_
  intro v' w' h2 h3
  have := h3.size
  refine h v' w' ?_ (((Below.refl _ _).alloc HO.base _).trans h3) (by simp at this; omega)
  rw [← tokRow_append]
  exact h2
/-- The same, the new block's number written out. -/
theorem wpList_ownKn {ops : Array Oper} {rest : List Oper} {o : Oper} {a : Act} {Q : Exit → Act → World → Prop} (w0 : World) (n : Nat) (hn : w0.heap.size = n) (hgd : Region.wanted o (yielded ops a.tmps) = true) (s x : Operand)
    (ho : o.op = .call { callee := .builtin .append, args := #[s, x], argTypes := #[24, 24] })
    (B : Nat) (v : Value) (l : List (Int × Int × Int)) (rs : List Row) (hs : a.eval s = v) (HO : Owns B (tokRow v l :: rs) w0) (f0 f1 f2 : Int) (hx : a.eval x = .slice (some ⟨n, 0, none⟩) 1 1)
    (h63 : l.length + 1 ≤ 1099511627776)
    (h : ∀ v' w', Owns B (tokRow v' (l ++ [(f0, f1, f2)]) :: rs) w' → Below B w0 w' → w0.heap.size < w'.heap.size → wpList Try.prog ops Q rest (a.put o.dst v') w') : wpList Try.prog ops Q (o :: rest) a (w0.alloc (.cells #[.int .i64 f0, .int .i64 f1, .int .i64 f2] 30)) := by
  subst hn
  exact wpList_ownK w0 hgd s x ho B v l rs hs HO f0 f1 f2 hx h63 h
theorem neq_tok (a b c a' b' c' : Int) (w : World) : (binOp .neq 30 (.agg #[.int .i64 a, .int .i64 b, .int .i64 c]) (.agg #[.int .i64 a', .int .i64 b', .int .i64 c'])).run Try.prog w = .ok (.bool (!(a == a' && (b == b' && c == c')))) w := by
  have h1 : Try.prog.underlying 30 = some (.struct (Try.prog.fieldsOf 30)) := by kernel_rfl
  have h2 : Try.prog.stoodInHeld 30 = false := by kernel_rfl
  have h3 : (Try.prog.fieldsOf 30).toList = [⟨ "Sym", 3, 0, false, "", "", 0⟩, ⟨ "Width", 3, 1, false, "", "", 8⟩, ⟨ "Value", 3, 2, false, "", "", 16⟩] := by kernel_rfl
  have ha : ∀ w, (isAgg 3).run Try.prog w = .ok false w := fun w => by kernel_rfl
  have he := fun d w x y => run_equalIn_int (P := Try.prog) w d 3 .i64 .i64 x y Try.underlying3
  rw [run_neq_struct, run_equalIn_agg (P := Try.prog) w 9999 _ _ _ h1 h2, h3]
  by_cases e1 : a = a' <;> by_cases e2 : b = b' <;> by_cases e3 : c = c' <;> simp [Op.eqFields, part, ha, he 9998, e1, e2, e3, Result.andThen]
theorem eql_tok (a b c a' b' c' : Int) (w : World) : (binOp .eql 30 (.agg #[.int .i64 a, .int .i64 b, .int .i64 c]) (.agg #[.int .i64 a', .int .i64 b', .int .i64 c'])).run Try.prog w = .ok (.bool (a == a' && (b == b' && c == c'))) w := by
  have h1 : Try.prog.underlying 30 = some (.struct (Try.prog.fieldsOf 30)) := by kernel_rfl
  have h2 : Try.prog.stoodInHeld 30 = false := by kernel_rfl
  have h3 : (Try.prog.fieldsOf 30).toList = [⟨ "Sym", 3, 0, false, "", "", 0⟩, ⟨ "Width", 3, 1, false, "", "", 8⟩, ⟨ "Value", 3, 2, false, "", "", 16⟩] := by kernel_rfl
  have ha : ∀ w, (isAgg 3).run Try.prog w = .ok false w := fun w => by kernel_rfl
  have he := fun d w x y => run_equalIn_int (P := Try.prog) w d 3 .i64 .i64 x y Try.underlying3
  rw [run_eql_struct, run_equalIn_agg (P := Try.prog) w 9999 _ _ _ h1 h2, h3]
  by_cases e1 : a = a' <;> by_cases e2 : b = b' <;> by_cases e3 : c = c' <;> simp [Op.eqFields, part, ha, he 9998, e1, e2, e3, Result.andThen]
end Go.Proofs.Ytemckjkdlbipcaa
