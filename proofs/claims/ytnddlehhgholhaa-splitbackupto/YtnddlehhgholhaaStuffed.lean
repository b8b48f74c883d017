/- The closed fact on stuff: true. -/
import Derived.Test.YtnddlehhgholhaaStuffSplit
import Derived.Test.YtnddlehhgholhaaEqByte
import Derived.Test.YtnddlehhgholhaaEqInt
namespace Go.Proofs.Ytnddlehhgholhaa
open Go.RowKit
set_option linter.unusedVariables false
set_option linter.unusedSimpArgs false

theorem bytes_small {l : List Int} (h : (l.all fun x => decide (0 ≤ x ∧ x ≤ 255)) = true) : ∀ x ∈ l, 0 ≤ x ∧ x ≤ 255 := by
  intro x hx
  simpa using List.all_eq_true.1 h x hx

set_option maxHeartbeats 1000000 in
theorem stuffed_any (w : World) : Calls Try.prog 19 #[] w fun e w' => e = .returned (.bool true) ∧ Below w.heap.size w w' := by
  go_enter Try.func19, Try.ntmps19
  go_wp2_with fail
  have s0 : Seen (w.alloc (Obj.cells #[.int .u8 1, .int .u8 255, .int .u8 7, .int .u8 2] 5)) (w.heap.size + 1) (some ⟨w.heap.size, 0, none⟩) (ints .u8 [1, 255, 7, 2]) := Seen.new w (ints .u8 [1, 255, 7, 2]) _ _ (by omega)
  refine (split_any _ 4 _ [1, 255, 7, 2] _ s0 (by simp) (by simp) (bytes_small (by decide))).mono ?_
  rintro e w1 ⟨vs, v, m, rfl, hvs, HO, hb1⟩
  have e1 : splitErr [1, 255, 7, 2] = 0 := by decide
  have e2 : splitM [1, 255, 7, 2] = [7] := by decide
  have e3 : splitP [1, 255, 7, 2] = [[1], [2]] := by decide
  rw [e1]
  rw [e3] at hvs
  rw [e2, e3] at HO
  obtain ⟨A1, c1, f1, _, _, _⟩ := HO.seen (List.mem_cons_self ..)
  obtain ⟨A2, c2, f2, hs2, _, _⟩ := HO.tail.seen (List.mem_cons_self ..)
  simp only [pileRow, numRow, intRow] at f1 f2 hs2
  rw [hvs] at f1
  subst f1 f2
  have hbw : Below w.heap.size w w1 := (below1 _ _).trans (hb1.mono (by simp))
  clear hb1 s0 e1 e2 e3 HO
  go_wp2_with fail
  have s1 : Seen (w1.alloc (Obj.cells #[.int .i64 7] 3)) (w1.heap.size + 1) (some ⟨w1.heap.size, 0, none⟩) (ints .i64 [7]) := Seen.new w1 (ints .i64 [7]) _ _ (by omega)
  refine (eqInt A2 _ c2 1 (w1.heap.size + 1) [7] [7] _ ((hs2.alloc (Nat.le_refl _) _).up (by omega)) s1 (by decide) (by decide)).mono ?_
  rintro e W ⟨rfl, hW⟩
  have hbW : Below w.heap.size w W := by rw [← hW]; exact hbw.alloc hbw.size _
  clear hW s1 hs2 hbw
  go_wp2_with fail
  have s2 : Seen (W.alloc (Obj.cells #[.int .u8 255] 5)) (W.heap.size + 1) (some ⟨W.heap.size, 0, none⟩) (ints .u8 [255]) := Seen.new W (ints .u8 [255]) _ _ (by omega)
  refine (stuff_any _ 1 _ [255] _ s2 (by simp) (by show 2 ≤ _; omega)).mono ?_
  rintro e w3 ⟨v3, rfl, HO3, hb3⟩
  obtain ⟨A3, c3, f3, hs3, _, _⟩ := HO3.seen (List.mem_cons_self ..)
  have e4 : stuffB [255] = [255, 0] := by decide
  simp only [byteRow, intRow, e4] at f3 hs3
  subst f3
  have hb4 : Below w.heap.size w w3 := hbW.trans ((below1 _ _).trans (hb3.mono (by simp)) |>.mono hbW.size)
  clear hb3 s2 HO3 e4
  go_wp2_with fail
  have s3 : Seen (w3.alloc (Obj.cells #[.int .u8 255, .int .u8 0] 5)) (w3.heap.size + 1) (some ⟨w3.heap.size, 0, none⟩) (ints .u8 [255, 0]) := Seen.new w3 (ints .u8 [255, 0]) _ _ (by omega)
  refine (eqByte A3 _ c3 2 (w3.heap.size + 1) [255, 0] [255, 0] _ ((hs3.alloc (Nat.le_refl _) _).up (by omega)) s3 (by decide) (by decide)).mono ?_
  rintro e w5 ⟨rfl, rfl⟩
  go_wp2
  go_ret
  exact ⟨rfl, hb4.alloc hb4.size _⟩
end Go.Proofs.Ytnddlehhgholhaa
