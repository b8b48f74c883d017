/- best.Make: one contract for all counts. -/
import Derived.Test.YthelblkpfkngmaaBestMake
namespace Go.Proofs.Ythelblkpfkngmaa
open Go.RowKit
set_option linter.unusedVariables false
set_option linter.unusedSimpArgs false

/-- What Make hands back for these counts. -/
structure MadeT (zs cs syms : List Int) : Prop where
  len : cs.length = 16
  bnd : ∀ x ∈ cs, -9223372036854775808 ≤ x ∧ x ≤ 9223372036854775807
  short : syms.length ≤ 256
  ok : errB zs = 0 → (∀ s, s ∈ syms ↔ s ∈ used zs) ∧ syms.Nodup ∧ checkErr cs syms = 0 ∧ costE cs syms zs = 0 ∧ ∃ L, BestL zs L ∧ costV cs syms zs = (costL zs L : Int) ∧ ∀ s ∈ used zs, tabL cs syms s = L s
  bad : errB zs ≠ 0 → cs = List.replicate 16 0 ∧ syms = []
theorem make_any (A : Option Addr) (c G : Nat) (zs : List Int) (w : World) (hs : Seen w G A (ints .i64 zs)) (hG : G ≤ w.heap.size) (hl : zs.length ≤ maxLen) :
    Calls Try.prog 16 #[.slice A zs.length c] w fun e w' => ∃ cs syms A' c', e = .returned (.tuple #[tabV cs A' syms.length c', .int .i64 (errB zs)]) ∧ MadeT zs cs syms ∧ Owns w.heap.size [intRow 3 .i64 (.slice A' syms.length c') syms] w' ∧ Below w.heap.size w w' := by
  by_cases hz : errB zs = 0
  · refine (make_ok A c G zs w hs hG hz).mono ?_
    rintro e w' ⟨L, A', c', rfl, hL, HO, hb⟩
    obtain ⟨h1, h2, h3, h4, h5⟩ := made_of hz hL
    have hn := (errB_ok hz).1
    refine ⟨_, _, A', c', by rw [hz], ⟨ordC_length _ _ _ _, fun x hx => ?_, Nat.le_trans (ordS_short L _) hn, fun _ => ⟨h1, ordS_nodup L _, h2, h3, L, hL, h4, h5⟩, fun h => absurd hz h⟩, HO, hb⟩
    have := ordC_pos L zs.length x hx
    omega
  · refine (make_err A c G zs w hs hG hl hz).mono ?_
    rintro e w' ⟨rfl, hb⟩
    exact ⟨List.replicate 16 0, [], none, 0, rfl, ⟨by simp, fun x hx => by rw [List.eq_of_mem_replicate hx]; omega, by simp, fun h => absurd h hz, fun _ => ⟨rfl, rfl⟩⟩, (Owns.nil hb.size).fresh _ _, hb⟩
theorem MadeT.seen {zs cs syms : List Int} {A' : Option Addr} {c' B : Nat} {w : World} (HO : Owns B [intRow 3 .i64 (.slice A' syms.length c') syms] w) : Seen w w.heap.size A' (ints .i64 syms) := by
  obtain ⟨A1, c1, e, hs, _, _⟩ := HO.seen (List.mem_singleton.2 rfl)
  simp only [intRow, Value.slice.injEq] at e hs
  rw [e.1]; exact hs
/-- A whole value into the block made last: what lies there then. -/
theorem wpList_store_tab {ops : Array Oper} {rest : List Oper} {o : Oper} {a : Act} {Q : Exit → Act → World → Prop} (w0 : World) (hgd : o.guard = none) (x y : Operand) (ho : o.op = .store 25 x y) (xs : List Value) (h17 : xs.length = 17) (h1 : ∀ u ∈ xs, u.oneCell' = true)
    (hx : a.eval x = .pointer (some ⟨w0.heap.size, 0, none⟩)) (hy : a.eval y = .agg xs.toArray)
    (h : wpList Try.prog ops Q rest (a.put o.dst undef) (w0.alloc (.cells xs.toArray 25))) : wpList Try.prog ops Q (o :: rest) a (w0.alloc (.cells (tabCells (List.replicate 16 0) none 0 0).toArray 25)) :=
  wpList_store_new w0 hgd 25 x y ho _ xs hx hy (by rw [h17]; exact info_tab) (by rw [h17]; simp only [List.size_toArray]; exact zeros_len) h1 h
end Go.Proofs.Ythelblkpfkngmaa
