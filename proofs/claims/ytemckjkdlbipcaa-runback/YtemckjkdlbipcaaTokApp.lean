/- Tokens that are seen, appended to a row of tokens. -/
import Derived.Test.YtemckjkdlbipcaaTokForm
namespace Go.Proofs.Ytemckjkdlbipcaa
open Go.RowKit
set_option linter.unusedVariables false
set_option linter.unusedSimpArgs false
set_option maxRecDepth 100000

/-- In a walk: append of seen tokens onto the first of the rows; the new slice written out. -/
theorem wpList_ownKV {ops : Array Oper} {rest : List Oper} {o : Oper} {a : Act} {Q : Exit → Act → World → Prop} (w : World) (hgd : Region.wanted o (yielded ops a.tmps) = true) (s x : Operand)
    (ho : o.op = .call { callee := .builtin .append, args := #[s, x], argTypes := #[24, 24] })
    (B : Nat) (v : Value) (l m : List (Int × Int × Int)) (rs : List Row) (hs : a.eval s = v) (HO : Owns B (tokRow v l :: rs) w) (G : Nat) (A : Option Addr) (c : Nat) (hx : a.eval x = .slice A m.length c) (hsee : Seen w G A (tokCells m)) (n : Nat) (hn : l.length + m.length = n)
    (h63 : (l.length + m.length) * 24 ≤ 140737488355328)
    (h : ∀ A' c' w', Owns B (tokRow (.slice A' n c') (l ++ m) :: rs) w' → n ≤ c' → c' ≤ maxLen → Below B w w' → wpList Try.prog ops Q rest (a.put o.dst (.slice A' n c')) w') : wpList Try.prog ops Q (o :: rest) a w := by
  refine wpList_ownV w hgd s x _ ho B 30 3 24 elem_tok v l.length (tokCells l) rs hs HO G A m.length c (tokCells m) hx hsee (tokCells_length m) tokCells_one (by unfold maxLen; omega) h63 ?_
  intro v' w' h2 h3
  rw [tokRow_append] at h2
  obtain ⟨A', c', e, _, h4, h5⟩ := tok_form h2
  have hn2 : (l ++ m).length = n := by rw [List.length_append, hn]
  rw [hn2] at e h4
  subst e
  exact h A' c' w' h2 h4 h5 h3
end Go.Proofs.Ytemckjkdlbipcaa
