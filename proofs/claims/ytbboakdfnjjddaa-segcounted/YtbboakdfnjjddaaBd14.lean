/- Texts shared by the claims of this seat, in one. -/
import Derived.Test.YtbboakdfnjjddaaBd13
import Derived.Test.YtbboakdfnjjddaaBd9
import Derived.Test.YtbboakdfnjjddaaBd5
import Derived.Test.YtbboakdfnjjddaaBd4
import Derived.Test.YtbboakdfnjjddaaBd10
import Derived.Test.YtbboakdfnjjddaaBd2
import Derived.Test.YtbboakdfnjjddaaBd11
import Derived.Test.YtbboakdfnjjddaaBd3
import Derived.Test.YtbboakdfnjjddaaRows
import Derived.Test.YtbboakdfnjjddaaChecked
import Derived.Laws.MakeOwn
import Derived.OpenShut
import Derived.Test.YtbboakdfnjjddaaBd8
/- A table made of one symbol's counts. -/
namespace Go.Proofs.Ytbboakdfnjjddaa
open Go.RowKit
set_option linter.unusedVariables false
set_option linter.unusedSimpArgs false
set_option maxRecDepth 100000

theorem lensFrom_ge : ∀ (ns : List Nat) (k x : Nat), x ∈ lensFrom k ns → k + 1 ≤ x
  | [], k, x, h => by simp [lensFrom] at h
  | n :: ns, k, x, h => by
    rw [lensFrom] at h
    rcases List.mem_append.1 h with h | h
    · have := (List.mem_replicate.1 h).2; omega
    · have := lensFrom_ge ns (k + 1) x h; omega
theorem one_words {zs cs syms : List Int} {s : Int} (h : MadeT zs cs syms) (he : errB zs = 0) (hu : used zs = [s]) (hc : cntZ zs s = 1) : syms = [s] ∧ checkErr cs syms = 0 ∧ outWords cs syms = [(s, 1, 0)] := by
  obtain ⟨h1, h2, h3, _, L, hL, _, h5⟩ := h.ok he
  have hs : syms = [s] := by
    rw [hu] at h1
    cases syms with
    | nil => have := (h1 s).2 (by simp); cases this
    | cons a l =>
      have ha := (h1 a).1 (by simp)
      have ha := List.mem_singleton.1 ha
      subst ha
      cases l with
      | nil => rfl
      | cons b l =>
        have hb := List.mem_singleton.1 ((h1 b).1 (by simp))
        subst hb
        simp at h2
  subst hs
  refine ⟨rfl, h3, ?_⟩
  have hk : CodeL zs fun _ => 1 := ⟨fun i _ => ⟨Nat.le_refl _, (by decide : 1 ≤ 16)⟩, by rw [hu]; simp [sumF]⟩
  have hl := hL.least _ hk
  have h1L := (hL.code.1 s (by rw [hu]; simp)).1
  have hL1 : L s = 1 := by
    unfold costL at hl
    rw [hu] at hl
    simp [sumF, hc] at hl
    omega
  have ht := tab_lens h3
  rw [List.map_singleton, h5 s (by rw [hu]; simp), hL1] at ht
  obtain ⟨l, hf, e, hll⟩ := fine_of h3
  rw [e]
  have hcode := hf.code
  unfold codes at hcode
  cases hn : nats cs with
  | nil => rw [hn] at ht; simp [lensFrom] at ht
  | cons n ns =>
    rw [hn] at ht hcode
    rw [lensFrom] at ht
    have hn1 : n = 1 := by
      cases n with
      | zero =>
        have : 1 ∈ lensFrom 1 ns := by
          have h9 : [1] = lensFrom 1 ns := by simpa using ht
          rw [← h9]; simp
        have := lensFrom_ge ns 1 1 this; omega
      | succ n =>
        have h9 := congrArg List.length ht
        simp at h9; omega
    subst hn1
    rw [codesFrom] at hcode
    split at hcode
    · obtain ⟨m, hm, rfl⟩ := Option.map_eq_some_iff.1 hcode
      have hml : m = [] := by
        have h9 : (([0] : List Nat).map (fun i => (0 + 1, 0 + i)) ++ m).length = 1 := by simpa using hll
        exact List.eq_nil_of_length_eq_zero (by simpa using h9)
      subst hml
      rfl
    · cases hcode
/-- The block of the closed fact. -/
def three : List Int := 3 :: List.replicate 63 0
def one2 : List Int := (List.replicate 256 0).set 2 1
def one0' : List Int := (List.replicate 256 0).set 0 1
theorem three_fc : fcL true [1] [three] 1 = one2 ∧ fcL false [1] [three] 1 = one0' := by decide +kernel
theorem three_used : used one2 = [2] ∧ used one0' = [0] ∧ cntZ one2 2 = 1 ∧ cntZ one0' 0 = 1 ∧ errB one2 = 0 ∧ errB one0' = 0 := by decide +kernel
theorem three_bits : segBits [(2, 1, 0)] [(0, 1, 0)] (toksB 0 [three]) = [false, true, true, false] := by decide +kernel
end Go.Proofs.Ytbboakdfnjjddaa

/- Two tables in one value; the reference's TablesCheck: its contract. -/
namespace Go.Proofs.Ytbboakdfnjjddaa
open Go.RowKit
set_option linter.unusedVariables false
set_option linter.unusedSimpArgs false
set_option maxRecDepth 100000

/-- Two tables' cells. -/
def tabsCells (cs : List Int) (A : Option Addr) (n c : Nat) (cs2 : List Int) (A2 : Option Addr) (n2 c2 : Nat) : List Value := tabCells cs A n c ++ tabCells cs2 A2 n2 c2
abbrev tabsV (cs : List Int) (A : Option Addr) (n c : Nat) (cs2 : List Int) (A2 : Option Addr) (n2 c2 : Nat) : Value := .agg (tabsCells cs A n c cs2 A2 n2 c2).toArray
/-- What a check of both answers. -/
def eTs (cs syms cs2 syms2 : List Int) : Int := if checkErr cs syms = 0 then checkErr cs2 syms2 else checkErr cs syms
theorem range_right {w : World} {b o : Nat} {xs ys : List Value} (h : w.rangeAt b o (xs ++ ys)) : w.rangeAt b (o + xs.length) ys := fun j v hv => by
  have := h (xs.length + j) v (by rw [List.getElem?_append_right (by omega), Nat.add_sub_cancel_left]; exact hv)
  rw [Nat.add_assoc]; exact this
set_option maxRecDepth 100000 in
set_option maxHeartbeats 2000000 in
theorem tablesCheck_any (cs syms : List Int) (A : Option Addr) (c : Nat) (cs2 syms2 : List Int) (A2 : Option Addr) (c2 G : Nat) (w : World)
    (hcs : cs.length = 16) (hn : syms.length ≤ maxLen) (hcap : syms.length ≤ c) (hb : ∀ x ∈ cs, -9223372036854775808 ≤ x ∧ x ≤ 9223372036854775807) (hs : Seen w G A (ints .i64 syms))
    (hcs2 : cs2.length = 16) (hn2 : syms2.length ≤ maxLen) (hcap2 : syms2.length ≤ c2) (hb2 : ∀ x ∈ cs2, -9223372036854775808 ≤ x ∧ x ≤ 9223372036854775807) (hs2 : Seen w G A2 (ints .i64 syms2)) (hG : G ≤ w.heap.size) :
    Calls Try.prog 33 #[tabsV cs A syms.length c cs2 A2 syms2.length c2] w fun e w' => e = .returned (.int .i64 (eTs cs syms cs2 syms2)) ∧ Below w.heap.size w w' := by
  have h17 : (tabCells cs A syms.length c).length = 17 := tabCells_length hcs
  have h17b : (tabCells cs2 A2 syms2.length c2).length = 17 := tabCells_length hcs2
  have HC1 := veil (fun W h hG => refCheck_any cs syms A c G W hcs hn hcap hb h hG)
  have HC2 := veil (fun W h hG => refCheck_any cs2 syms2 A2 c2 G W hcs2 hn2 hcap2 hb2 h hG)
  have hb0 := below1 w (.cells (tabsCells cs A syms.length c cs2 A2 syms2.length c2).toArray 36)
  have hz0 : (w.alloc (.cells (tabsCells cs A syms.length c cs2 A2 syms2.length c2).toArray 36)).heap.size = w.heap.size + 1 := by simp
  have hr := range_new w (tabsCells cs A syms.length c cs2 A2 syms2.length c2) 36
  have hr1 := range_left hr
  have hr2 := range_right hr
  rw [h17] at hr2
  have HE : Hid (eTs cs syms cs2 syms2 = if checkErr cs syms = 0 then checkErr cs2 syms2 else checkErr cs syms) := rfl
  have H17 := veil h17
  have H17b := veil h17b
  clear hr h17 h17b hcs hcs2 hb hb2
  unfold tabsV
  unfold tabV at HC1 HC2
  generalize tabsCells cs A syms.length c cs2 A2 syms2.length c2 = zs at *
  generalize tabCells cs A syms.length c = xs at *
  generalize tabCells cs2 A2 syms2.length c2 = ys at *
  generalize eTs cs syms cs2 syms2 = E at *
  generalize checkErr cs syms = e1 at *
  generalize checkErr cs2 syms2 = e2 at *
  go_enter Try.func33, Try.ntmps33
  go_wp2_with (first
    | (refine wpList_load_mid rfl 34 (.tmp 4) rfl w.heap.size 0 rfl xs _ hr1 Try.underlying34 rfl (by rw [H17.out]; exact info_tab) ?_)
    | fail)
  refine (HC1.out _ (hs.below hb0 hG) (by rw [hz0]; omega)).mono ?_
  rintro e w1 ⟨rfl, hb1⟩
  have hr2' := range_below hr2 hb1 (by rw [hz0]; omega)
  have hbw := hb0.trans (hb1.mono (by rw [hz0]; omega))
  clear hr1 hr2 hb0 hb1 HC1
  by_cases h0 : e1 = 0
  · subst h0
    have hE := HE.out
    rw [if_pos rfl] at hE
    subst hE
    go_wp2_with (first
      | (refine wpList_load_mid rfl 34 (.tmp 10) rfl w.heap.size 17 rfl ys _ (by simpa using hr2') Try.underlying34 rfl (by rw [H17b.out]; exact info_tab) ?_)
      | fail)
    refine (HC2.out _ (hs2.below hbw hG) (by have := hbw.size; omega)).mono ?_
    rintro e w2 ⟨rfl, hb2⟩
    have hf := hbw.trans (hb2.mono hbw.size)
    go_wp2
    go_ret
    exact ⟨rfl, hf⟩
  · have hE := HE.out
    rw [if_neg h0] at hE
    subst hE
    have hne : (E != 0) = true := by simpa using h0
    clear h0
    go_wp2
    go_ret
    exact ⟨rfl, hbw⟩
end Go.Proofs.Ytbboakdfnjjddaa

/- The table that may not be. -/
namespace Go.Proofs.Ytbboakdfnjjddaa
open Go.RowKit
set_option linter.unusedVariables false
set_option linter.unusedSimpArgs false
set_option maxRecDepth 100000

def cs0 : List Int := [0, 0, 0, 0, 0, 0, 0, 0, 0, 0, 0, 0, 0, 0, 0, 0]
theorem check0 : checkErr cs0 [1] = 4 := by decide
theorem cs0_b : ∀ x ∈ cs0, -9223372036854775808 ≤ x ∧ x ≤ 9223372036854775807 := by decide
/-- The table that may not be. -/
theorem bad_any (w : World) : Calls Try.prog 15 #[] w fun e w' => ∃ A, e = .returned (tabV cs0 A 1 1) ∧ Seen w' w'.heap.size A (ints .i64 [1]) ∧ Below w.heap.size w w' := by
  go_enter Try.func15, Try.ntmps15
  go_wp2
  have hg : ((w.alloc (Obj.cells (tabCells cs0 (some ⟨w.heap.size + 1, 0, none⟩) 1 1).toArray 34)).alloc (Obj.cells #[Value.int IntKind.i64 1] 3)).heap[w.heap.size]? = some (.cells (tabCells cs0 (some ⟨w.heap.size + 1, 0, none⟩) 1 1).toArray 34 (0, 0)) := by
    rw [Below.heap_alloc _ _ _ (by simp)]; exact heap_alloc_new w _
  have hsn : Seen ((w.alloc (Obj.cells (tabCells cs0 (some ⟨w.heap.size + 1, 0, none⟩) 1 1).toArray 34)).alloc (Obj.cells #[Value.int IntKind.i64 1] 3)) ((w.alloc (Obj.cells (tabCells cs0 (some ⟨w.heap.size + 1, 0, none⟩) 1 1).toArray 34)).alloc (Obj.cells #[Value.int IntKind.i64 1] 3)).heap.size (some ⟨w.heap.size + 1, 0, none⟩) (ints .i64 [1]) := by
    have h := Seen.new (w.alloc (Obj.cells (tabCells cs0 (some ⟨w.heap.size + 1, 0, none⟩) 1 1).toArray 34)) (ints .i64 [1]) 3 (w.heap.size + 2) (by simp)
    rw [World.size_alloc'] at h
    exact h.up (by simp)
  exact bodyPost_ret (v := tabV cs0 (some ⟨w.heap.size + 1, 0, none⟩) 1 1) (results_cell_row rfl _ _ w.heap.size 34 (tabCells cs0 (some ⟨w.heap.size + 1, 0, none⟩) 1 1).toArray (0, 0) _ rfl hg Try.underlying34 rfl info_tab) rfl ⟨_, rfl, hsn, below2 _ _ _⟩
end Go.Proofs.Ytbboakdfnjjddaa

/- The reference's parts where every is 0: its contract; and keep.fitting over the closed block. -/
namespace Go.Proofs.Ytbboakdfnjjddaa
open Go.RowKit
set_option linter.unusedVariables false
set_option linter.unusedSimpArgs false
set_option maxRecDepth 100000

theorem sixteen {cs : List Int} (h : cs.length = 16) : ∃ a0 a1 a2 a3 a4 a5 a6 a7 a8 a9 a10 a11 a12 a13 a14 a15 : Int, cs = [a0, a1, a2, a3, a4, a5, a6, a7, a8, a9, a10, a11, a12, a13, a14, a15] := by
  match cs, h with
  | [a0, a1, a2, a3, a4, a5, a6, a7, a8, a9, a10, a11, a12, a13, a14, a15], _ => exact ⟨_, _, _, _, _, _, _, _, _, _, _, _, _, _, _, _, rfl⟩
theorem tab_lit (a0 a1 a2 a3 a4 a5 a6 a7 a8 a9 a10 a11 a12 a13 a14 a15 : Int) (A : Option Addr) (n c : Nat) : tabV [a0, a1, a2, a3, a4, a5, a6, a7, a8, a9, a10, a11, a12, a13, a14, a15] A n c = .agg #[.int .i64 a0, .int .i64 a1, .int .i64 a2, .int .i64 a3, .int .i64 a4, .int .i64 a5, .int .i64 a6, .int .i64 a7, .int .i64 a8, .int .i64 a9, .int .i64 a10, .int .i64 a11, .int .i64 a12, .int .i64 a13, .int .i64 a14, .int .i64 a15, .slice A n c] := rfl
theorem tabs_lit (a0 a1 a2 a3 a4 a5 a6 a7 a8 a9 a10 a11 a12 a13 a14 a15 b0 b1 b2 b3 b4 b5 b6 b7 b8 b9 b10 b11 b12 b13 b14 b15 : Int) (A A2 : Option Addr) (n c n2 c2 : Nat) : tabsV [a0, a1, a2, a3, a4, a5, a6, a7, a8, a9, a10, a11, a12, a13, a14, a15] A n c [b0, b1, b2, b3, b4, b5, b6, b7, b8, b9, b10, b11, b12, b13, b14, b15] A2 n2 c2 = .agg #[.int .i64 a0, .int .i64 a1, .int .i64 a2, .int .i64 a3, .int .i64 a4, .int .i64 a5, .int .i64 a6, .int .i64 a7, .int .i64 a8, .int .i64 a9, .int .i64 a10, .int .i64 a11, .int .i64 a12, .int .i64 a13, .int .i64 a14, .int .i64 a15, .slice A n c, .int .i64 b0, .int .i64 b1, .int .i64 b2, .int .i64 b3, .int .i64 b4, .int .i64 b5, .int .i64 b6, .int .i64 b7, .int .i64 b8, .int .i64 b9, .int .i64 b10, .int .i64 b11, .int .i64 b12, .int .i64 b13, .int .i64 b14, .int .i64 b15, .slice A2 n2 c2] := rfl
theorem lit_one (a0 a1 a2 a3 a4 a5 a6 a7 a8 a9 a10 a11 a12 a13 a14 a15 : Int) (A : Option Addr) (n c : Nat) : ∀ u ∈ [Value.int .i64 a0, Value.int .i64 a1, Value.int .i64 a2, Value.int .i64 a3, Value.int .i64 a4, Value.int .i64 a5, Value.int .i64 a6, Value.int .i64 a7, Value.int .i64 a8, Value.int .i64 a9, Value.int .i64 a10, Value.int .i64 a11, Value.int .i64 a12, Value.int .i64 a13, Value.int .i64 a14, Value.int .i64 a15, Value.slice A n c], u.oneCell' = true := by
  intro u hu
  simp only [List.mem_cons, List.not_mem_nil, or_false] at hu
  rcases hu with rfl | rfl | rfl | rfl | rfl | rfl | rfl | rfl | rfl | rfl | rfl | rfl | rfl | rfl | rfl | rfl | rfl <;> rfl
theorem lit_one2 (a0 a1 a2 a3 a4 a5 a6 a7 a8 a9 a10 a11 a12 a13 a14 a15 b0 b1 b2 b3 b4 b5 b6 b7 b8 b9 b10 b11 b12 b13 b14 b15 : Int) (A : Option Addr) (n c : Nat) (A2 : Option Addr) (n2 c2 : Nat) : ∀ u ∈ [Value.int .i64 a0, Value.int .i64 a1, Value.int .i64 a2, Value.int .i64 a3, Value.int .i64 a4, Value.int .i64 a5, Value.int .i64 a6, Value.int .i64 a7, Value.int .i64 a8, Value.int .i64 a9, Value.int .i64 a10, Value.int .i64 a11, Value.int .i64 a12, Value.int .i64 a13, Value.int .i64 a14, Value.int .i64 a15, Value.slice A n c, Value.int .i64 b0, Value.int .i64 b1, Value.int .i64 b2, Value.int .i64 b3, Value.int .i64 b4, Value.int .i64 b5, Value.int .i64 b6, Value.int .i64 b7, Value.int .i64 b8, Value.int .i64 b9, Value.int .i64 b10, Value.int .i64 b11, Value.int .i64 b12, Value.int .i64 b13, Value.int .i64 b14, Value.int .i64 b15, Value.slice A2 n2 c2], u.oneCell' = true := by
  intro u hu
  simp only [List.mem_cons, List.not_mem_nil, or_false] at hu
  rcases hu with rfl | rfl | rfl | rfl | rfl | rfl | rfl | rfl | rfl | rfl | rfl | rfl | rfl | rfl | rfl | rfl | rfl | rfl | rfl | rfl | rfl | rfl | rfl | rfl | rfl | rfl | rfl | rfl | rfl | rfl | rfl | rfl | rfl | rfl <;> rfl
theorem parts0_any (n : Nat) (w : World) : Calls Try.prog 92 #[.int .i64 (n : Int), .int .i64 0] w fun e w' => ∃ v, e = .returned v ∧ Owns w.heap.size [intRow 3 .i64 v ([n].map Int.ofNat)] w' ∧ Below w.heap.size w w' := by
  have ho : Owns w.heap.size [intRow 3 .i64 (.slice (some ⟨w.heap.size, 0, none⟩) 1 1) ([n].map Int.ofNat)] (w.alloc (.cells #[.int .i64 (n : Int)] 3)) :=
    ⟨by simp, fun r hr => by
      rw [List.mem_singleton.1 hr]
      exact ⟨rfl, .inr ⟨w.heap.size, 1, _, rfl, Nat.le_refl _, heap_alloc_new w _, Nat.le_refl _, by unfold maxLen; decide, rfl, rfl⟩⟩, List.pairwise_singleton _ _⟩
  have Ho := veil ho
  clear ho
  go_enter Try.func92, Try.ntmps92
  go_wp2
  go_ret
  exact ⟨_, rfl, Ho.out, below1 w _⟩
set_option maxRecDepth 100000 in
set_option maxHeartbeats 4000000 in
/-- fitting tables for a list of blocks, in one segment. -/
theorem fitting0_any (L : List (List Int)) (A : Option Addr) (c G : Nat) (w : World) (hl : ∀ r ∈ L, r.length = 64) (hcap : L.length ≤ c) (h400 : L.length ≤ 400) (hin : ∀ r ∈ L, inB (-2047) 2047 r = true) (hs : Seen w G A (rowsC L)) (hG : G ≤ w.heap.size) :
    Calls Try.prog 51 #[.slice A L.length c, .int .i64 0] w fun e w' => ∃ cs syms A1 c1 cs2 syms2 A2 c2,
      e = .returned (.tuple #[tabsV cs A1 syms.length c1 cs2 A2 syms2.length c2, .bool (decide (errB (fcL true [L.length] L 1) = 0 ∧ errB (fcL false [L.length] L 1) = 0))]) ∧
        MadeT (fcL true [L.length] L 1) cs syms ∧ MadeT (fcL false [L.length] L 1) cs2 syms2 ∧ Seen w' w'.heap.size A1 (ints .i64 syms) ∧ Seen w' w'.heap.size A2 (ints .i64 syms2) ∧ Below w.heap.size w w' := by
  have HF := veil (fun W h hG => frCounts_any [L.length] 0 L A c G W hl hcap (by unfold maxLen; omega) hin h hG (fun n hn => by rw [List.mem_singleton.1 hn]; exact h400) (fun k => by
    cases k with
    | zero => simp
    | succ k => simp) (by simp) (fun W => parts0_any L.length W))
  have hl1 := fcL_length true [L.length] L 1
  have hl2 := fcL_length false [L.length] L 1
  rw [show [L.length].length = 1 from rfl] at HF
  obtain ⟨X, hX⟩ : ∃ X, X = fcL true [L.length] L 1 := ⟨_, rfl⟩
  obtain ⟨Y, hY⟩ : ∃ Y, Y = fcL false [L.length] L 1 := ⟨_, rfl⟩
  rw [← hX] at HF hl1 ⊢
  rw [← hY] at HF hl2 ⊢
  clear hX hY
  obtain ⟨bb, hbb⟩ : ∃ b, b = decide (errB X = 0 ∧ errB Y = 0) := ⟨_, rfl⟩
  rw [← hbb]
  have Hbb := veil hbb
  clear hbb
  have Hl1 := veil hl1; have Hl2 := veil hl2
  have hb0 := below1 w (.cells #[.int .i64 0, .int .i64 0, .int .i64 0, .int .i64 0, .int .i64 0, .int .i64 0, .int .i64 0, .int .i64 0, .int .i64 0, .int .i64 0, .int .i64 0, .int .i64 0, .int .i64 0, .int .i64 0, .int .i64 0, .int .i64 0, .slice none 0 0, .int .i64 0, .int .i64 0, .int .i64 0, .int .i64 0, .int .i64 0, .int .i64 0, .int .i64 0, .int .i64 0, .int .i64 0, .int .i64 0, .int .i64 0, .int .i64 0, .int .i64 0, .int .i64 0, .int .i64 0, .int .i64 0, .slice none 0 0] 36)
  have hB0 := Blk.new w [.int .i64 0, .int .i64 0, .int .i64 0, .int .i64 0, .int .i64 0, .int .i64 0, .int .i64 0, .int .i64 0, .int .i64 0, .int .i64 0, .int .i64 0, .int .i64 0, .int .i64 0, .int .i64 0, .int .i64 0, .int .i64 0, .slice none 0 0, .int .i64 0, .int .i64 0, .int .i64 0, .int .i64 0, .int .i64 0, .int .i64 0, .int .i64 0, .int .i64 0, .int .i64 0, .int .i64 0, .int .i64 0, .int .i64 0, .int .i64 0, .int .i64 0, .int .i64 0, .int .i64 0, .slice none 0 0] 36
  have hz0 : (w.alloc (.cells #[.int .i64 0, .int .i64 0, .int .i64 0, .int .i64 0, .int .i64 0, .int .i64 0, .int .i64 0, .int .i64 0, .int .i64 0, .int .i64 0, .int .i64 0, .int .i64 0, .int .i64 0, .int .i64 0, .int .i64 0, .int .i64 0, .slice none 0 0, .int .i64 0, .int .i64 0, .int .i64 0, .int .i64 0, .int .i64 0, .int .i64 0, .int .i64 0, .int .i64 0, .int .i64 0, .int .i64 0, .int .i64 0, .int .i64 0, .int .i64 0, .int .i64 0, .int .i64 0, .int .i64 0, .slice none 0 0] 36)).heap.size = w.heap.size + 1 := by simp
  have hF := HF.out _ (hs.below hb0 hG) (by rw [hz0]; omega)
  have HF2 := veil hF
  have Hs := veil hs; have HB0 := veil hB0; have Hb0 := veil hb0
  clear hF HF hl1 hl2 hs hB0 hb0
  go_enter Try.func51, Try.ntmps51
  go_wp2_with fail
  refine HF2.out.mono ?_
  rintro e w1 ⟨v1, v2, rfl, HO1, hb1⟩
  obtain ⟨A1, c1, A2, c2, rfl, rfl, s1, s2⟩ := cnt_formF HO1
  have hz1 := hb1.size
  rw [hz0] at hz1
  have hB1 := HB0.out.below hb1 (by rw [hz0]; omega)
  have hbw1 := Hb0.out.trans (hb1.mono (by rw [hz0]; omega))
  have HM1 := veil (make_any A1 c1 w1.heap.size X w1 s1 (Nat.le_refl _) (by rw [Hl1.out]; unfold maxLen; decide))
  rw [Hl1.out] at HM1 ⊢
  rw [Hl2.out]
  have HB1 := veil hB1; have Hbw1 := veil hbw1; have S2 := veil s2
  clear hB1 hbw1 s1 s2 hb1 HO1 HF2 HB0 Hb0
  go_wp2_with fail
  refine HM1.out.mono ?_
  rintro e w2 ⟨cs, syms, A3, c3, rfl, hM, HO, hb2⟩
  have hs3 := HO
  have hlen16 := hM.len
  have HMt := veil hM
  obtain ⟨a0, a1, a2, a3, a4, a5, a6, a7, a8, a9, a10, a11, a12, a13, a14, a15, rfl⟩ := sixteen hlen16
  have hz2 := hb2.size
  have HB2 := veil (HB1.out.below hb2 (by omega)); have Hbw2 := veil (Hbw1.out.trans (hb2.mono (by omega))); have S2b := veil (S2.out.below hb2 (Nat.le_refl _)); have S3 := veil hs3
  clear HO hM hs3 hlen16 hb2 HB1 Hbw1 S2 HM1
  rw [tab_lit]
  have hb3 := below1 w2 (.cells #[.int .i64 a0, .int .i64 a1, .int .i64 a2, .int .i64 a3, .int .i64 a4, .int .i64 a5, .int .i64 a6, .int .i64 a7, .int .i64 a8, .int .i64 a9, .int .i64 a10, .int .i64 a11, .int .i64 a12, .int .i64 a13, .int .i64 a14, .int .i64 a15, .slice A3 syms.length c3] 34)
  have hB3 := Blk.new w2 [.int .i64 a0, .int .i64 a1, .int .i64 a2, .int .i64 a3, .int .i64 a4, .int .i64 a5, .int .i64 a6, .int .i64 a7, .int .i64 a8, .int .i64 a9, .int .i64 a10, .int .i64 a11, .int .i64 a12, .int .i64 a13, .int .i64 a14, .int .i64 a15, .slice A3 syms.length c3] 34
  have hz3 : (w2.alloc (.cells #[.int .i64 a0, .int .i64 a1, .int .i64 a2, .int .i64 a3, .int .i64 a4, .int .i64 a5, .int .i64 a6, .int .i64 a7, .int .i64 a8, .int .i64 a9, .int .i64 a10, .int .i64 a11, .int .i64 a12, .int .i64 a13, .int .i64 a14, .int .i64 a15, .slice A3 syms.length c3] 34)).heap.size = w2.heap.size + 1 := by simp
  have hone := lit_one a0 a1 a2 a3 a4 a5 a6 a7 a8 a9 a10 a11 a12 a13 a14 a15 A3 syms.length c3
  have HM2 := veil (make_any A2 c2 w2.heap.size Y _ ((S2b.out.up hz2).below hb3 (Nat.le_refl _)) (by rw [hz3]; omega) (by rw [Hl2.out]; unfold maxLen; decide))
  rw [Hl2.out] at HM2
  have HB3 := veil (HB2.out.below hb3 (by omega)); have HC3 := veil hB3; have Hbw3 := veil (Hbw2.out.trans (hb3.mono (by omega))); have S3b := veil (S3.out.below hb3)
  clear hb3 hB3 HB2 Hbw2 S3 S2b
  go_wp2_with (first
    | (refine wpList_store_new w2 rfl 34 (.tmp 8) (.tmp 21) rfl _ [.int .i64 a0, .int .i64 a1, .int .i64 a2, .int .i64 a3, .int .i64 a4, .int .i64 a5, .int .i64 a6, .int .i64 a7, .int .i64 a8, .int .i64 a9, .int .i64 a10, .int .i64 a11, .int .i64 a12, .int .i64 a13, .int .i64 a14, .int .i64 a15, .slice A3 syms.length c3] rfl rfl info_tab rfl hone ?_)
    | fail)
  refine HM2.out.mono ?_
  rintro e w4 ⟨cs2, syms2, A4, c4, rfl, hM4, HO4, hb4⟩
  have hs4 := HO4
  have hlen16 := hM4.len
  have HMt4 := veil hM4
  obtain ⟨b0, b1, b2, b3, b4, b5, b6, b7, b8, b9, b10, b11, b12, b13, b14, b15, rfl⟩ := sixteen hlen16
  have hz4 := hb4.size
  have hz3' := hz3
  have hb4' := hb4
  rw [hz3] at hz4 hb4
  have HB4 := veil (HB3.out.below hb4 (by omega)); have HC4 := veil (HC3.out.below hb4 (by omega)); have Hbw4 := veil (Hbw3.out.trans (hb4.mono (by omega))); have S3c := veil (S3b.out.below hb4'); have S4 := veil hs4
  clear HO4 hM4 hs4 hlen16 hb4 hb4' HB3 HC3 Hbw3 S3b HM2 hone hz3
  rw [tab_lit]
  have hb5 := below1 w4 (.cells #[.int .i64 b0, .int .i64 b1, .int .i64 b2, .int .i64 b3, .int .i64 b4, .int .i64 b5, .int .i64 b6, .int .i64 b7, .int .i64 b8, .int .i64 b9, .int .i64 b10, .int .i64 b11, .int .i64 b12, .int .i64 b13, .int .i64 b14, .int .i64 b15, .slice A4 syms2.length c4] 34)
  have hD5 := Blk.new w4 [.int .i64 b0, .int .i64 b1, .int .i64 b2, .int .i64 b3, .int .i64 b4, .int .i64 b5, .int .i64 b6, .int .i64 b7, .int .i64 b8, .int .i64 b9, .int .i64 b10, .int .i64 b11, .int .i64 b12, .int .i64 b13, .int .i64 b14, .int .i64 b15, .slice A4 syms2.length c4] 34
  have hz5 : (w4.alloc (.cells #[.int .i64 b0, .int .i64 b1, .int .i64 b2, .int .i64 b3, .int .i64 b4, .int .i64 b5, .int .i64 b6, .int .i64 b7, .int .i64 b8, .int .i64 b9, .int .i64 b10, .int .i64 b11, .int .i64 b12, .int .i64 b13, .int .i64 b14, .int .i64 b15, .slice A4 syms2.length c4] 34)).heap.size = w4.heap.size + 1 := by simp
  have hone := lit_one b0 b1 b2 b3 b4 b5 b6 b7 b8 b9 b10 b11 b12 b13 b14 b15 A4 syms2.length c4
  have hB5 := HB4.out.below hb5 (by omega)
  have hC5 := HC4.out.below hb5 (by omega)
  have hbw5 := Hbw4.out.trans (hb5.mono (by omega))
  have S3d := veil (S3c.out.below hb5); have S4d := veil (S4.out.below hb5)
  have hone2 := lit_one2 a0 a1 a2 a3 a4 a5 a6 a7 a8 a9 a10 a11 a12 a13 a14 a15 b0 b1 b2 b3 b4 b5 b6 b7 b8 b9 b10 b11 b12 b13 b14 b15 A3 syms.length c3 A4 syms2.length c4
  have hi34 : (Try.prog.info? 36).map (·.size) = some 34 := by kernel_rfl
  have hrC := hC5.range
  have hrD := hD5.range
  clear HB4 HC4 Hbw4 S3c S4 hb5
  go_wp2_with (first
    | (refine wpList_store_new w4 rfl 34 (.tmp 10) (.tmp 26) rfl _ [.int .i64 b0, .int .i64 b1, .int .i64 b2, .int .i64 b3, .int .i64 b4, .int .i64 b5, .int .i64 b6, .int .i64 b7, .int .i64 b8, .int .i64 b9, .int .i64 b10, .int .i64 b11, .int .i64 b12, .int .i64 b13, .int .i64 b14, .int .i64 b15, .slice A4 syms2.length c4] rfl rfl info_tab rfl hone ?_)
    | (refine wpList_load_mid rfl 34 (.tmp 8) rfl w2.heap.size 0 rfl [.int .i64 a0, .int .i64 a1, .int .i64 a2, .int .i64 a3, .int .i64 a4, .int .i64 a5, .int .i64 a6, .int .i64 a7, .int .i64 a8, .int .i64 a9, .int .i64 a10, .int .i64 a11, .int .i64 a12, .int .i64 a13, .int .i64 a14, .int .i64 a15, .slice A3 syms.length c3] _ hrC Try.underlying34 rfl info_tab ?_)
    | (refine wpList_load_mid rfl 34 (.tmp 10) rfl w4.heap.size 0 rfl [.int .i64 b0, .int .i64 b1, .int .i64 b2, .int .i64 b3, .int .i64 b4, .int .i64 b5, .int .i64 b6, .int .i64 b7, .int .i64 b8, .int .i64 b9, .int .i64 b10, .int .i64 b11, .int .i64 b12, .int .i64 b13, .int .i64 b14, .int .i64 b15, .slice A4 syms2.length c4] _ hrD Try.underlying34 rfl info_tab ?_)
    | (refine wpList_store_blk _ rfl 36 (.tmp 4) (.tmp 30) rfl w.heap.size [.int .i64 0, .int .i64 0, .int .i64 0, .int .i64 0, .int .i64 0, .int .i64 0, .int .i64 0, .int .i64 0, .int .i64 0, .int .i64 0, .int .i64 0, .int .i64 0, .int .i64 0, .int .i64 0, .int .i64 0, .int .i64 0, .slice none 0 0, .int .i64 0, .int .i64 0, .int .i64 0, .int .i64 0, .int .i64 0, .int .i64 0, .int .i64 0, .int .i64 0, .int .i64 0, .int .i64 0, .int .i64 0, .int .i64 0, .int .i64 0, .int .i64 0, .int .i64 0, .int .i64 0, .slice none 0 0] [.int .i64 a0, .int .i64 a1, .int .i64 a2, .int .i64 a3, .int .i64 a4, .int .i64 a5, .int .i64 a6, .int .i64 a7, .int .i64 a8, .int .i64 a9, .int .i64 a10, .int .i64 a11, .int .i64 a12, .int .i64 a13, .int .i64 a14, .int .i64 a15, .slice A3 syms.length c3, .int .i64 b0, .int .i64 b1, .int .i64 b2, .int .i64 b3, .int .i64 b4, .int .i64 b5, .int .i64 b6, .int .i64 b7, .int .i64 b8, .int .i64 b9, .int .i64 b10, .int .i64 b11, .int .i64 b12, .int .i64 b13, .int .i64 b14, .int .i64 b15, .slice A4 syms2.length c4] 36 hB5 rfl rfl hi34 rfl hone2 ?_; intro w6 hB6 hg6)
    | fail)
  all_goals
    have hw6 := hg6.size
    have t3 := S3d.out.kept hg6 (by omega)
    have t4 := S4d.out.kept hg6 (by rw [hz3']; omega)
    have hB7 : Blk w6 w.heap.size (tabsCells [a0, a1, a2, a3, a4, a5, a6, a7, a8, a9, a10, a11, a12, a13, a14, a15] A3 syms.length c3 [b0, b1, b2, b3, b4, b5, b6, b7, b8, b9, b10, b11, b12, b13, b14, b15] A4 syms2.length c4) 36 := hB6
    refine bodyPost_ret (v := .tuple #[tabsV [a0, a1, a2, a3, a4, a5, a6, a7, a8, a9, a10, a11, a12, a13, a14, a15] A3 syms.length c3 [b0, b1, b2, b3, b4, b5, b6, b7, b8, b9, b10, b11, b12, b13, b14, b15] A4 syms2.length c4, .bool bb]) (results_row_tmp rfl _ _ w.heap.size 36 (tabsCells [a0, a1, a2, a3, a4, a5, a6, a7, a8, a9, a10, a11, a12, a13, a14, a15] A3 syms.length c3 [b0, b1, b2, b3, b4, b5, b6, b7, b8, b9, b10, b11, b12, b13, b14, b15] A4 syms2.length c4).toArray (0, 0) _ _ rfl (by rename_i h0; show Value.bool _ = Value.bool bb; rw [Hbb.out]; first | (simp [h0]; done) | (simp [h0]; rfl)) hB7 Try.underlying36 rfl hi34) rfl ⟨[a0, a1, a2, a3, a4, a5, a6, a7, a8, a9, a10, a11, a12, a13, a14, a15], syms, A3, c3, [b0, b1, b2, b3, b4, b5, b6, b7, b8, b9, b10, b11, b12, b13, b14, b15], syms2, A4, ⟨c4, rfl⟩, HMt.out, HMt4.out, MadeT.seen (zs := X) (cs := []) t3, MadeT.seen (zs := Y) (cs := []) t4, hbw5.grown hg6 hbw5.size (fun j hj => by injection hj with hj; omega)⟩
end Go.Proofs.Ytbboakdfnjjddaa

/- Appends onto rows of the call's own: which block the new slice lies in. No program is named here. -/
namespace Go.Proofs.Ytbboakdfnjjddaa
open Go.RowKit
set_option linter.unusedVariables false
set_option linter.unusedSimpArgs false
set_option maxRecDepth 100000

/-- append of what is seen onto the first of the rows. -/
theorem run_ownV2 {P : Program} (w : World) (B : Nat) (t ty e : TypeId) (size bytes : Nat) (he : ElemOf P t e size bytes)
    (v : Value) (n : Nat) (xs : List Value) (rs : List Row) (HO : Owns B (⟨e, size, v, n, xs⟩ :: rs) w) (G : Nat) (A : Option Addr) (m c : Nat) (news : List Value) (hsee : Seen w G A news) (hl : news.length = m * size) (h1 : ∀ u ∈ news, u.oneCell' = true)
    (h63 : n + m ≤ maxLen) (hbytes : (n + m) * bytes ≤ 140737488355328) :
    ∃ v' w', (Builtin.append_ #[t, t] ty #[v, .slice A m c]).run P w = .ok v' w' ∧ Owns B (⟨e, size, v', n + m, xs ++ news⟩ :: rs) w' ∧ w.grownBy w' v.ownBlock ∧ Below B w w' ∧ (v'.ownBlock = v.ownBlock ∨ v'.ownBlock = some w.heap.size) := by
  have hown := HO.head
  have hB := HO.base
  have hap := (List.pairwise_cons.1 HO.apart).1
  obtain ⟨ht, hp, i, z, hi, hz0, hz1, hz2, hzs⟩ := he
  have fin : ∀ v' w', w'.ownsRow B e size v' (n + m) (xs ++ news) → w.grownBy w' v.ownBlock → (v'.ownBlock = v.ownBlock ∨ v'.ownBlock = some w.heap.size) → Owns B (⟨e, size, v', n + m, xs ++ news⟩ :: rs) w' ∧ w.grownBy w' v.ownBlock ∧ Below B w w' ∧ (v'.ownBlock = v.ownBlock ∨ v'.ownBlock = some w.heap.size) := by
    intro v' w' h2 h3 h4
    refine ⟨⟨Nat.le_trans hB h3.size, fun x hx => ?_, List.pairwise_cons.2 ⟨fun s hs g hg => ?_, HO.tail.apart⟩⟩, h3, (Below.refl _ _).grown h3 hB fun k hk => (hown.lt k hk).1, h4⟩
    · rcases List.mem_cons.1 hx with rfl | hx
      · exact h2
      · refine (HO.tail.each x hx).kept h3 ?_
        cases hv : x.v.ownBlock with
        | none => exact .inl rfl
        | some g => exact .inr fun e => hap x hx g e.symm hv
    · simp only at hg
      rcases h4 with h4 | h4
      · exact hap s hs g (h4.symm.trans hg)
      · rw [h4] at hg
        injection hg with hg
        intro hsg
        have := ((HO.tail.each s hs).lt g hsg).2
        omega
  rcases A with _ | ad
  · have hnews : news = [] := by
      rcases hsee with h | ⟨g, o, h, _⟩
      · exact h
      · cases h
    subst hnews
    have hm : m = 0 := by
      rcases Nat.eq_zero_or_pos m with h | h
      · exact h
      · have : 0 < m * size := Nat.mul_pos h hp
        simp at hl; omega
    subst hm
    refine ⟨v, w, ?_, fin v w (by simpa using hown) (World.grownBy.refl w _) (.inl rfl)⟩
    rcases hown.2 with ⟨h5, h6⟩ | ⟨g, cap, cur, h5, _, _, hnc, _⟩
    · simp only at h5 h6
      subst h5 h6
      simp [Builtin.append_, run_underlying ht, sizeOf, typeInfo, hi, Builtin.lenOf, Builtin.firstCells]
    · simp only at h5 hnc
      subst h5
      simp [Builtin.append_, run_underlying ht, sizeOf, typeInfo, hi, Builtin.lenOf, Builtin.firstCells, hnc, storeCells]
  · have hc : ∀ j u, news[j]? = some u → w.cell? (ad.add j) = some u := by
      rcases hsee with h | ⟨g, o, h, _, hc⟩
      · subst h; intro j u hu; simp at hu
      · injection h with h
        subst h
        intro j u hu
        rw [addr_add]
        exact hc j u hu
    obtain ⟨v', w', hr, h2, h3, _, h4⟩ := run_append_own_at (P := P) w B t ty e i z size bytes ht hi hz0 hz1 hz2 hzs hp v n xs hown ad m c news hl hc h1 h63 hbytes hB
    exact ⟨v', w', hr, fin v' w' h2 h3 h4⟩
theorem wp_ownV2 {P : Program} {o : Oper} {a : Act} {K : Act → World → Prop} {Q : Exit → Act → World → Prop} (w : World) (s x : Operand) (t : TypeId)
    (ho : o.op = .call { callee := .builtin .append, args := #[s, x], argTypes := #[t, t] })
    (B : Nat) (e : TypeId) (size bytes : Nat) (he : ElemOf P t e size bytes)
    (v : Value) (n : Nat) (xs : List Value) (rs : List Row) (hs : a.eval s = v) (HO : Owns B (⟨e, size, v, n, xs⟩ :: rs) w) (G : Nat) (A : Option Addr) (m c : Nat) (news : List Value) (hx : a.eval x = .slice A m c) (hsee : Seen w G A news) (hl : news.length = m * size) (h1 : ∀ u ∈ news, u.oneCell' = true)
    (h63 : n + m ≤ maxLen) (hbytes : (n + m) * bytes ≤ 140737488355328)
    (h : ∀ v' w', Owns B (⟨e, size, v', n + m, xs ++ news⟩ :: rs) w' → w.grownBy w' v.ownBlock → Below B w w' → (v'.ownBlock = v.ownBlock ∨ v'.ownBlock = some w.heap.size) → K (a.put o.dst v') w') : o.wp P a w K Q := by
  obtain ⟨v', w', hr, h2, h3, h4, h5⟩ := run_ownV2 (P := P) w B t o.type e size bytes he v n xs rs HO G A m c news hsee hl h1 h63 hbytes
  unfold Oper.wp execOp
  simp only [ho, resolve, invoke, builtin, Sem.run_bind, Sem.run_pure, Result.andThen_ok, List.map_toArray, List.map_cons, List.map_nil, hs, hx, hr]
  exact h v' w' h2 h3 h4 h5
/-- In a walk: append of what is seen. -/
theorem wpList_ownV2 {P : Program} {ops : Array Oper} {rest : List Oper} {o : Oper} {a : Act} {Q : Exit → Act → World → Prop} (w : World) (hgd : Region.wanted o (yielded ops a.tmps) = true) (s x : Operand) (t : TypeId)
    (ho : o.op = .call { callee := .builtin .append, args := #[s, x], argTypes := #[t, t] })
    (B : Nat) (e : TypeId) (size bytes : Nat) (he : ElemOf P t e size bytes)
    (v : Value) (n : Nat) (xs : List Value) (rs : List Row) (hs : a.eval s = v) (HO : Owns B (⟨e, size, v, n, xs⟩ :: rs) w) (G : Nat) (A : Option Addr) (m c : Nat) (news : List Value) (hx : a.eval x = .slice A m c) (hsee : Seen w G A news) (hl : news.length = m * size) (h1 : ∀ u ∈ news, u.oneCell' = true)
    (h63 : n + m ≤ maxLen) (hbytes : (n + m) * bytes ≤ 140737488355328)
    (h : ∀ v' w', Owns B (⟨e, size, v', n + m, xs ++ news⟩ :: rs) w' → w.grownBy w' v.ownBlock → Below B w w' → (v'.ownBlock = v.ownBlock ∨ v'.ownBlock = some w.heap.size) → wpList P ops Q rest (a.put o.dst v') w') : wpList P ops Q (o :: rest) a w :=
  wpList_step fun K hK => by
    rw [if_pos hgd]
    exact wp_ownV2 w s x t ho B e size bytes he v n xs rs hs HO G A m c news hx hsee hl h1 h63 hbytes fun v' w' h2 hg h4 h5 => hK _ _ (h v' w' h2 hg h4 h5)
/-- In a region: append of what is seen. -/
theorem step_ownV2 {P : Program} {ops : Array Oper} {o : Oper} {a : Act} {K : Act → World → Prop} {Q : Exit → Act → World → Prop} {E : Prop} (w : World) (hgd : Region.wanted o (yielded ops a.tmps) = true) (s x : Operand) (t : TypeId)
    (ho : o.op = .call { callee := .builtin .append, args := #[s, x], argTypes := #[t, t] })
    (B : Nat) (e : TypeId) (size bytes : Nat) (he : ElemOf P t e size bytes)
    (v : Value) (n : Nat) (xs : List Value) (rs : List Row) (hs : a.eval s = v) (HO : Owns B (⟨e, size, v, n, xs⟩ :: rs) w) (G : Nat) (A : Option Addr) (m c : Nat) (news : List Value) (hx : a.eval x = .slice A m c) (hsee : Seen w G A news) (hl : news.length = m * size) (h1 : ∀ u ∈ news, u.oneCell' = true)
    (h63 : n + m ≤ maxLen) (hbytes : (n + m) * bytes ≤ 140737488355328)
    (h : ∀ v' w', Owns B (⟨e, size, v', n + m, xs ++ news⟩ :: rs) w' → w.grownBy w' v.ownBlock → Below B w w' → (v'.ownBlock = v.ownBlock ∨ v'.ownBlock = some w.heap.size) → K (a.put o.dst v') w') :
    if Region.wanted o (yielded ops a.tmps) = true then Oper.wp P o a w K Q else E := by
  rw [if_pos hgd]
  exact wp_ownV2 w s x t ho B e size bytes he v n xs rs hs HO G A m c news hx hsee hl h1 h63 hbytes h
end Go.Proofs.Ytbboakdfnjjddaa

/- Parts of a slice of bytes. -/
namespace Go.Proofs.Ytbboakdfnjjddaa
open Go.RowKit
set_option linter.unusedVariables false
set_option linter.unusedSimpArgs false
set_option maxRecDepth 100000

theorem run_cutB_to (A : Option Addr) (n c h : Nat) (h2 : h ≤ c) (u : World) : (Instr.sliceAt 37 (.slice A n c) none (some (.int .i64 (h : Int))) none).run Try.prog u = .ok (.slice A h c) u := by
  have he : Try.prog.underlying 37 = some (.slice (Try.prog.elem 37)) := by kernel_rfl
  have hz : (sizeOf (Try.prog.elem 37)).run Try.prog u = .ok 1 u := by kernel_rfl
  rw [run_sliceAt_slice _ _ _ _ _ _ he, run_slice_h _ _ _ _ _ he _ _ (by omega) (by omega), hz]
  simp [Result.andThen, sliced]
  intro _
  cases A with
  | none => rfl
  | some a => simp [Addr.add]
theorem run_cutB_end (A : Option Addr) (n c f : Nat) (h1 : f ≤ n) (u : World) : (Instr.sliceAt 37 (.slice A n c) (some (.int .i64 (f : Int))) none none).run Try.prog u = .ok (cutV A f n c) u := by
  have he : Try.prog.underlying 37 = some (.slice (Try.prog.elem 37)) := by kernel_rfl
  have hz : (sizeOf (Try.prog.elem 37)).run Try.prog u = .ok 1 u := by kernel_rfl
  rw [run_sliceAt_slice _ _ _ _ _ _ he, run_slice_l _ _ _ _ _ he _ _ (by omega) (by omega), hz]
  simp [Result.andThen, sliced, cutV]
theorem cutB_drop {w : World} {G c f : Nat} {A : Option Addr} {bs : List Int} (hs : Seen w G A (ints .u8 bs)) (hf : f ≤ bs.length) (hc : bs.length ≤ c) :
    ∃ A', cutV A f bs.length c = .slice A' (bs.drop f).length (c - f) ∧ Seen w G A' (ints .u8 (bs.drop f)) := by
  obtain ⟨A', h1, h2⟩ := cutV_seen hs hf (Nat.le_refl _) hc
  refine ⟨A', by rw [h1, List.length_drop], ?_⟩
  rwa [List.take_of_length_le (by simp)] at h2
theorem cutB_take {w : World} {G h : Nat} {A : Option Addr} {bs : List Int} (hs : Seen w G A (ints .u8 bs)) : Seen w G A (ints .u8 (bs.take h)) := hs.takeInts h
theorem unpack_drop (bs : List Int) (q : Nat) : unpack (bs.drop q) = (unpack bs).drop (8 * q) := by
  by_cases h : q ≤ bs.length
  · have e := unpack_append (bs.take q) (bs.drop q)
    rw [List.take_append_drop] at e
    rw [e, List.drop_left' (by rw [unpack_length, List.length_take]; omega)]
  · rw [List.drop_of_length_le (by omega), unpack_nil, List.drop_of_length_le (by rw [unpack_length]; omega)]
theorem unpack_take (bs : List Int) (q : Nat) : unpack (bs.take q) = (unpack bs).take (8 * q) := by
  by_cases h : q ≤ bs.length
  · have e := unpack_append (bs.take q) (bs.drop q)
    rw [List.take_append_drop] at e
    rw [e, List.take_left' (by rw [unpack_length, List.length_take]; omega)]
  · rw [List.take_of_length_le (by omega), List.take_of_length_le (by rw [unpack_length]; omega)]
end Go.Proofs.Ytbboakdfnjjddaa

/- Stuffing, its undoing, and the division at markers, as functions of lists. No program is named here. -/
namespace Go.Proofs.Ytbboakdfnjjddaa
set_option linter.unusedVariables false
set_option linter.unusedSimpArgs false
set_option maxRecDepth 100000

def stuff1 (x : Int) : List Int := if x = 255 then [255, 0] else [x]
def stuffB (bs : List Int) : List Int := bs.flatMap stuff1
theorem stuffB_cons (x : Int) (bs : List Int) : stuffB (x :: bs) = stuff1 x ++ stuffB bs := by simp [stuffB]
theorem stuffB_append (a b : List Int) : stuffB (a ++ b) = stuffB a ++ stuffB b := by simp [stuffB]
theorem stuffB_one (x : Int) : stuffB [x] = stuff1 x := by simp [stuffB]
theorem stuffB_length_le (bs : List Int) : (stuffB bs).length ≤ 2 * bs.length := by
  induction bs with
  | nil => simp [stuffB]
  | cons x bs ih =>
    rw [stuffB_cons, List.length_append, List.length_cons]
    have : (stuff1 x).length ≤ 2 := by unfold stuff1; split <;> simp
    omega
theorem stuffB_length (bs : List Int) : (stuffB bs).length = bs.length + bs.countP (· == 255) := by
  induction bs with
  | nil => simp [stuffB]
  | cons x bs ih =>
    rw [stuffB_cons, List.length_append, List.length_cons, ih, List.countP_cons]
    unfold stuff1
    by_cases h : x = 255
    · simp [h]; omega
    · simp [h]; omega

/-- What the undoing gives; none: a byte 255 that no byte 0 follows. -/
def plainR : List Int → Option (List Int)
  | [] => some []
  | [x] => if x = 255 then none else some [x]
  | x :: y :: r => if x = 255 then (if y = 0 then (plainR r).map (255 :: ·) else none) else (plainR (y :: r)).map (x :: ·)
theorem plainR_other {x : Int} (h : x ≠ 255) (r : List Int) : plainR (x :: r) = (plainR r).map (x :: ·) := by
  cases r with
  | nil => simp [plainR, h]
  | cons y r => simp [plainR, h]
theorem plainR_lead (r : List Int) : plainR (255 :: 0 :: r) = (plainR r).map (255 :: ·) := by simp [plainR]
theorem plainR_bad {y : Int} (h : y ≠ 0) (r : List Int) : plainR (255 :: y :: r) = none := by simp [plainR, h]
theorem plainR_end : plainR [255] = none := by simp [plainR]
def plainOut (bs : List Int) : List Int := (plainR bs).getD []
def plainErr (bs : List Int) : Int := if (plainR bs).isSome then 0 else 4
theorem plain_some {bs p : List Int} (h : plainR bs = some p) : plainOut bs = p ∧ plainErr bs = 0 := by simp [plainOut, plainErr, h]
theorem plain_none {bs : List Int} (h : plainR bs = none) : plainOut bs = [] ∧ plainErr bs = 4 := by simp [plainOut, plainErr, h]
theorem plainR_stuffB (bs : List Int) : plainR (stuffB bs) = some bs := by
  induction bs with
  | nil => rfl
  | cons x bs ih =>
    rw [stuffB_cons]
    unfold stuff1
    by_cases h : x = 255
    · subst h; simp [plainR_lead, ih]
    · simp [h, plainR_other h, ih]
theorem stuffB_plainR : ∀ (bs p : List Int), plainR bs = some p → stuffB p = bs
  | [], p, h => by simp [plainR] at h; subst h; rfl
  | [x], p, h => by
    by_cases hx : x = 255
    · simp [plainR, hx] at h
    · simp [plainR, hx] at h; subst h; simp [stuffB, stuff1, hx]
  | x :: y :: r, p, h => by
    by_cases hx : x = 255
    · by_cases hy : y = 0
      · subst hx hy
        rw [plainR_lead] at h
        cases hr : plainR r with
        | none => rw [hr] at h; simp at h
        | some q =>
          rw [hr] at h
          simp at h
          subst h
          rw [stuffB_cons, stuffB_plainR r q hr]; rfl
      · subst hx; rw [plainR_bad hy] at h; cases h
    · rw [plainR_other hx] at h
      cases hr : plainR (y :: r) with
      | none => rw [hr] at h; simp at h
      | some q =>
        rw [hr] at h
        simp at h
        subst h
        rw [stuffB_cons, stuffB_plainR (y :: r) q hr]; simp [stuff1, hx]
theorem length_le_stuffB (p : List Int) : p.length ≤ (stuffB p).length := by rw [stuffB_length]; omega

/-- The division at markers; the second list: the piece so far. -/
def splitR : List Int → List Int → Option (List (List Int) × List Int)
  | [], cur => some ([cur], [])
  | [x], cur => if x = 255 then none else some ([cur ++ [x]], [])
  | x :: y :: r, cur =>
    if x = 255 then (if y = 255 then none else if y = 0 then splitR r (cur ++ [255, 0]) else (splitR r []).map fun q => (cur :: q.1, y :: q.2))
    else splitR (y :: r) (cur ++ [x])
theorem splitR_other {x : Int} (h : x ≠ 255) (r cur : List Int) : splitR (x :: r) cur = splitR r (cur ++ [x]) := by
  cases r with
  | nil => simp [splitR, h]
  | cons y r => simp [splitR, h]
theorem splitR_pad (r cur : List Int) : splitR (255 :: 0 :: r) cur = splitR r (cur ++ [255, 0]) := by simp [splitR]
theorem splitR_mark {y : Int} (h : y ≠ 255) (h0 : y ≠ 0) (r cur : List Int) : splitR (255 :: y :: r) cur = (splitR r []).map fun q => (cur :: q.1, y :: q.2) := by simp [splitR, h, h0]
theorem splitR_end (cur : List Int) : splitR [255] cur = none := by simp [splitR]
theorem splitR_two (r cur : List Int) : splitR (255 :: 255 :: r) cur = none := by simp [splitR]
def splitP (bs : List Int) : List (List Int) := ((splitR bs []).map (·.1)).getD []
def splitM (bs : List Int) : List Int := ((splitR bs []).map (·.2)).getD []
def splitErr (bs : List Int) : Int := if (splitR bs []).isSome then 0 else 4
theorem split_some {bs : List Int} {q : List (List Int) × List Int} (h : splitR bs [] = some q) : splitP bs = q.1 ∧ splitM bs = q.2 ∧ splitErr bs = 0 := by simp [splitP, splitM, splitErr, h]
theorem split_none {bs : List Int} (h : splitR bs [] = none) : splitP bs = [] ∧ splitM bs = [] ∧ splitErr bs = 4 := by simp [splitP, splitM, splitErr, h]

/-- Where a division stands: what is done, and what is left. -/
structure SInv (bs : List Int) (k : Nat) (ps : List (List Int)) (ms cur : List Int) : Prop where
  eq : splitR bs [] = (splitR (bs.drop k) cur).map fun q => (ps ++ q.1, ms ++ q.2)
  few : ps.length = ms.length
  room : 2 * ps.length + cur.length ≤ k
theorem drop_one {xs : List Int} {k : Nat} {x : Int} (h : xs[k]? = some x) : xs.drop k = x :: xs.drop (k + 1) := by
  obtain ⟨hk, rfl⟩ := List.getElem?_eq_some_iff.1 h
  exact List.drop_eq_getElem_cons hk
section
variable {bs ms cur : List Int} {k : Nat} {ps : List (List Int)} {x y : Int}
theorem SInv.start (bs : List Int) : SInv bs 0 [] [] [] := ⟨by simp, rfl, by simp⟩
theorem SInv.other (h : SInv bs k ps ms cur) (hx : bs[k]? = some x) (hn : x ≠ 255) : SInv bs (k + 1) ps ms (cur ++ [x]) :=
  ⟨by rw [h.eq, drop_one hx, splitR_other hn], h.few, by have := h.room; simp; omega⟩
theorem SInv.pad (h : SInv bs k ps ms cur) (hx : bs[k]? = some 255) (hy : bs[k + 1]? = some 0) : SInv bs (k + 2) ps ms (cur ++ [255, 0]) :=
  ⟨by rw [h.eq, drop_one hx, drop_one hy, splitR_pad], h.few, by have := h.room; simp; omega⟩
theorem SInv.mark (h : SInv bs k ps ms cur) (hx : bs[k]? = some 255) (hy : bs[k + 1]? = some y) (h1 : y ≠ 255) (h0 : y ≠ 0) : SInv bs (k + 2) (ps ++ [cur]) (ms ++ [y]) [] :=
  ⟨by rw [h.eq, drop_one hx, drop_one hy, splitR_mark h1 h0, Option.map_map]; simp [Function.comp_def], by simp [h.few], by have := h.room; simp; omega⟩
theorem SInv.two (h : SInv bs k ps ms cur) (hx : bs[k]? = some 255) (hy : bs[k + 1]? = some 255) : splitR bs [] = none := by rw [h.eq, drop_one hx, drop_one hy, splitR_two]; rfl
theorem SInv.last (h : SInv bs k ps ms cur) (hx : bs[k]? = some 255) (hl : k + 1 = bs.length) : splitR bs [] = none := by rw [h.eq, drop_one hx, hl, List.drop_length, splitR_end]; rfl
theorem SInv.done (h : SInv bs bs.length ps ms cur) : splitR bs [] = some (ps ++ [cur], ms) := by rw [h.eq, List.drop_length]; simp [splitR]
end
/-- Where an undoing stands. -/
structure PlInv (bs : List Int) (k : Nat) (acc : List Int) : Prop where
  eq : plainR bs = (plainR (bs.drop k)).map (acc ++ ·)
  room : acc.length ≤ k
section
variable {bs acc : List Int} {k : Nat} {x y : Int}
theorem PlInv.start (bs : List Int) : PlInv bs 0 [] := ⟨by simp, Nat.le_refl _⟩
theorem PlInv.other (h : PlInv bs k acc) (hx : bs[k]? = some x) (hn : x ≠ 255) : PlInv bs (k + 1) (acc ++ [x]) :=
  ⟨by rw [h.eq, drop_one hx, plainR_other hn, Option.map_map]; simp [Function.comp_def], by have := h.room; simp; omega⟩
theorem PlInv.lead (h : PlInv bs k acc) (hx : bs[k]? = some 255) (hy : bs[k + 1]? = some 0) : PlInv bs (k + 2) (acc ++ [255]) :=
  ⟨by rw [h.eq, drop_one hx, drop_one hy, plainR_lead, Option.map_map]; simp [Function.comp_def], by have := h.room; simp; omega⟩
theorem PlInv.bad (h : PlInv bs k acc) (hx : bs[k]? = some 255) (hy : bs[k + 1]? = some y) (hn : y ≠ 0) : plainR bs = none := by rw [h.eq, drop_one hx, drop_one hy, plainR_bad hn]; rfl
theorem PlInv.last (h : PlInv bs k acc) (hx : bs[k]? = some 255) (hl : k + 1 = bs.length) : plainR bs = none := by rw [h.eq, drop_one hx, hl, List.drop_length, plainR_end]; rfl
theorem PlInv.done (h : PlInv bs bs.length acc) : plainR bs = some acc := by rw [h.eq, List.drop_length]; simp [plainR]
end
theorem splitR_stuffB (bs cur : List Int) : splitR (stuffB bs) cur = some ([cur ++ stuffB bs], []) := by
  induction bs generalizing cur with
  | nil => simp [stuffB, splitR]
  | cons x bs ih =>
    rw [stuffB_cons]
    unfold stuff1
    by_cases h : x = 255
    · subst h; simp [splitR_pad, ih]
    · simp [h, splitR_other h, ih]
/-- The pieces with the markers between them. -/
def joinP : List (List Int) → List Int → List Int
  | [], _ => []
  | p :: ps, ms => p ++ match ps, ms with
    | [], _ => []
    | q :: qs, [] => []
    | q :: qs, m :: ms => [255, m] ++ joinP (q :: qs) ms
theorem plainR_snoc : ∀ (a : List Int) (x : Int), (plainR a).isSome = true → x ≠ 255 → (plainR (a ++ [x])).isSome = true
  | [], x, _, hx => by simp [plainR, hx]
  | [y], x, h, hx => by
    by_cases hy : y = 255
    · simp [plainR, hy] at h
    · simp [plainR, hy, hx]
  | y :: z :: r, x, h, hx => by
    by_cases hy : y = 255
    · by_cases hz : z = 0
      · subst hy hz
        rw [plainR_lead] at h
        rw [List.cons_append, List.cons_append, plainR_lead]
        simp at h ⊢
        exact plainR_snoc r x h hx
      · subst hy; rw [plainR_bad hz] at h; cases h
    · rw [plainR_other hy] at h
      rw [List.cons_append, plainR_other hy]
      simp at h ⊢
      simpa using plainR_snoc (z :: r) x h hx
theorem plainR_pad : ∀ (a : List Int), (plainR a).isSome = true → (plainR (a ++ [255, 0])).isSome = true
  | [], _ => by simp [plainR]
  | [y], h => by
    by_cases hy : y = 255
    · simp [plainR, hy] at h
    · simp [plainR, hy]
  | y :: z :: r, h => by
    by_cases hy : y = 255
    · by_cases hz : z = 0
      · subst hy hz
        rw [plainR_lead] at h
        rw [List.cons_append, List.cons_append, plainR_lead]
        simp at h ⊢
        exact plainR_pad r h
      · subst hy; rw [plainR_bad hz] at h; cases h
    · rw [plainR_other hy] at h
      rw [List.cons_append, plainR_other hy]
      simp at h ⊢
      simpa using plainR_pad (z :: r) h
/-- What a division gives: one piece more than markers, each piece plain, each marker neither 0 nor 255, and all together what there was. -/
theorem splitR_back : ∀ (bs cur : List Int) (q : List (List Int) × List Int), splitR bs cur = some q → (plainR cur).isSome = true → (∀ x ∈ bs, 0 ≤ x ∧ x ≤ 255) →
    q.1.length = q.2.length + 1 ∧ (∀ p ∈ q.1, (plainR p).isSome = true) ∧ (∀ m ∈ q.2, 1 ≤ m ∧ m ≤ 254) ∧ joinP q.1 q.2 = cur ++ bs
  | [], cur, q, h, hc, _ => by
    simp [splitR] at h; subst h
    refine ⟨rfl, by simpa using hc, by simp, by simp [joinP]⟩
  | [x], cur, q, h, hc, _ => by
    by_cases hx : x = 255
    · simp [splitR, hx] at h
    · simp [splitR, hx] at h; subst h
      refine ⟨rfl, by simpa using plainR_snoc cur x hc hx, by simp, by simp [joinP]⟩
  | x :: y :: r, cur, q, h, hc, hb => by
    by_cases hx : x = 255
    · subst hx
      by_cases hy : y = 255
      · subst hy; rw [splitR_two] at h; cases h
      · by_cases h0 : y = 0
        · subst h0
          rw [splitR_pad] at h
          obtain ⟨h1, h2, h3, h4⟩ := splitR_back r _ q h (plainR_pad cur hc) fun z hz => hb z (by simp [hz])
          exact ⟨h1, h2, h3, by rw [h4]; simp⟩
        · rw [splitR_mark hy h0] at h
          cases hr : splitR r [] with
          | none => rw [hr] at h; cases h
          | some q' =>
            rw [hr] at h
            simp at h
            obtain ⟨h1, h2, h3, h4⟩ := splitR_back r [] q' hr rfl fun z hz => hb z (by simp [hz])
            subst h
            have hyb := hb y (by simp)
            refine ⟨by simp [h1], ?_, ?_, ?_⟩
            · intro p hp
              rcases List.mem_cons.1 hp with rfl | hp
              · exact hc
              · exact h2 p hp
            · intro m hm
              rcases List.mem_cons.1 hm with rfl | hm
              · omega
              · exact h3 m hm
            · obtain ⟨ps, ms⟩ := q'
              cases ps with
              | nil => simp at h1
              | cons p ps =>
                simp only [joinP] at h4 ⊢
                rw [h4]; simp
    · rw [splitR_other hx] at h
      obtain ⟨h1, h2, h3, h4⟩ := splitR_back (y :: r) _ q h (plainR_snoc cur x hc hx) fun z hz => hb z (by simp [hz])
      exact ⟨h1, h2, h3, by rw [h4]; simp⟩
end Go.Proofs.Ytbboakdfnjjddaa

/- stuff.Stuff and stuff.Plain: their contracts. -/
namespace Go.Proofs.Ytbboakdfnjjddaa
open Go.RowKit
set_option linter.unusedVariables false
set_option linter.unusedSimpArgs false
set_option maxRecDepth 100000

theorem elem_byte : ElemOf Try.prog 37 5 1 1 := .mk' (z := .int .u8 0) Try.underlying37 (by kernel_rfl) rfl (by omega)
theorem info_byteS : (Try.prog.info? 5).map (fun i => (i.zero, i.size, i.bytes)) = some (some (.int .u8 0), 1, 1) := by kernel_rfl
theorem run_make_bytes (n : Nat) (h : n ≤ 140737488355328) (u : World) : (Instr.makeSlice 37 (.int .i64 0) (.int .i64 (n : Int))).run Try.prog u =
    .ok (.slice (some ⟨u.heap.size, 0, none⟩) 0 n) (u.alloc (.cells (madeCells #[.int .u8 0] n) 5)) := by
  obtain ⟨i0, hi, hz0, hz1, hz2⟩ := info_parts info_byteS
  have h := run_make (P := Try.prog) u 37 5 i0 (.int .u8 0) Try.underlying37 hi hz0 .i64 .i64 0 n (by omega) (by omega) (by rw [hz2]; omega) (by omega)
  simpa [hz1, Value.cells] using h

abbrev byteRow (v : Value) (l : List Int) : Row := intRow 5 .u8 v l

theorem stuff_room {bs : List Int} {k : Nat} {x : Int} (h : bs[k]? = some x) : (stuffB (bs.take k)).length + (stuff1 x).length ≤ (stuffB bs).length := by
  have e : bs = bs.take k ++ [x] ++ bs.drop (k + 1) := by rw [← take_snoc h, List.take_append_drop]
  have h2 := congrArg List.length (congrArg stuffB e)
  rw [stuffB_append, stuffB_append, stuffB_one] at h2
  simp only [List.length_append] at h2
  omega
theorem stuff_snoc {bs : List Int} {k : Nat} {x : Int} (h : bs[k]? = some x) : stuffB (bs.take (k + 1)) = stuffB (bs.take k) ++ stuff1 x := by rw [take_snoc h, stuffB_append, stuffB_one]

set_option maxHeartbeats 1000000 in
theorem stuff_any (A : Option Addr) (c G : Nat) (bs : List Int) (w : World) (hb : Seen w G A (ints .u8 bs)) (hG : G ≤ w.heap.size) (hl : (stuffB bs).length ≤ 140737488355328) :
    Calls Try.prog 31 #[.slice A bs.length c] w fun e w' => ∃ v, e = .returned v ∧ Owns w.heap.size [byteRow v (stuffB bs)] w' ∧ Below w.heap.size w w' := by
  have hl0 : bs.length ≤ 140737488355328 := Nat.le_trans (length_le_stuffB bs) hl
  have hmk := run_make_bytes bs.length (by omega)
  go_enter Try.func31, Try.ntmps31
  go_wp2_with fail
  clear hmk
  go_loopg [3, 5, 11] bs.length (fun gk v x i wr => ∃ k : Nat, gk = bs.length - k ∧ k ≤ bs.length ∧ i = .int .i64 k ∧ Owns w.heap.size [byteRow v (stuffB (bs.take k))] wr ∧ Below w.heap.size w wr)
  case atStart => exact ⟨0, rfl, Nat.zero_le _, rfl, (Owns.start w).made _ _ _ _ (by unfold maxLen; omega) (by rw [size_madeCells, Nat.mul_one]), below1 _ _⟩
  case round =>
    obtain ⟨k, rfl, hk, rfl, HO, hbel⟩ := hrel
    have hB := hbel.size
    by_cases hlt : k < bs.length
    · obtain ⟨g, o, x, rfl, hg, hx, h1⟩ := hb.int hlt
      have hroom := stuff_room hx
      have hsn := stuff_snoc hx
      have Hsn := veil hsn; clear hsn hx
      rw [← hbel.cell (by simp; omega)] at h1
      generalize stuffB (bs.take k) = out at *
      by_cases h255 : x = 255
      · subst h255
        have hs1 : (stuff1 255).length = 2 := rfl
        rw [hs1] at hroom
        go_wp2_with (first
          | (at_builtin; go_loud (refine wpList_ownI _ rfl (.tmp 15) (.tmp 17) _ rfl w.heap.size 5 .u8 1 elem_byte u3 out [] rfl HO [255] rfl (by unfold maxLen; simp; omega) (by simp; omega) ?_); intro v1 w1 HO1 hb1 hz1)
          | (at_builtin; go_loud (refine wpList_ownI _ rfl (.tmp 21) (.tmp 22) _ rfl w.heap.size 5 .u8 1 elem_byte v1 (out ++ [255]) [] rfl HO1 [0] rfl (by unfold maxLen; simp; omega) (by simp; omega) ?_); intro v2 w2 HO2 hb2 hz2))
        go_roundg (bs.length - (k + 1))
        case rel => exact ⟨k + 1, rfl, by omega, by go_num, by rw [Hsn.out]; simpa [stuff1] using HO2, (hbel.trans hb1).trans hb2⟩
        case measure => omega
      · have hb0 : (x == 255) = false := by simpa using h255
        have hs1 : stuff1 x = [x] := by unfold stuff1; rw [if_neg h255]
        have Hs1 := veil hs1
        rw [hs1] at hroom
        simp at hroom
        clear hs1 h255
        go_wp2_with (at_builtin; go_loud (refine wpList_ownI _ rfl (.tmp 15) (.tmp 17) _ rfl w.heap.size 5 .u8 1 elem_byte u3 out [] rfl HO [x] rfl (by unfold maxLen; simp; omega) (by simp; omega) ?_); intro v1 w1 HO1 hb1 hz1)
        go_roundg (bs.length - (k + 1))
        case rel => exact ⟨k + 1, rfl, by omega, by go_num, by rw [Hsn.out, Hs1.out]; exact HO1, hbel.trans hb1⟩
        case measure => omega
    · obtain rfl : k = bs.length := by omega
      rw [List.take_length] at HO
      go_wp2
      go_ret
      exact ⟨_, rfl, HO, hbel⟩

set_option maxHeartbeats 1000000 in
theorem plain_any (A : Option Addr) (c G : Nat) (bs : List Int) (w : World) (hb : Seen w G A (ints .u8 bs)) (hG : G ≤ w.heap.size) (hl : bs.length ≤ 140737488355328) :
    Calls Try.prog 22 #[.slice A bs.length c] w fun e w' => ∃ v, e = .returned (.tuple #[v, .int .i64 (plainErr bs)]) ∧ Owns w.heap.size [byteRow v (plainOut bs)] w' ∧ Below w.heap.size w w' := by
  have hmk := run_make_bytes bs.length (by omega)
  go_enter Try.func22, Try.ntmps22
  go_wp2_with fail
  clear hmk
  go_loopg [4, 5] bs.length (fun gk v i wr => ∃ (k : Nat) (acc : List Int), gk = bs.length - k ∧ k ≤ bs.length ∧ i = .int .i64 k ∧ Hid (PlInv bs k acc) ∧ acc.length ≤ k ∧ Owns w.heap.size [byteRow v acc] wr ∧ Below w.heap.size w wr)
  case atStart => exact ⟨0, [], rfl, Nat.zero_le _, rfl, veil (PlInv.start bs), Nat.zero_le _, (Owns.start w).made _ _ _ _ (by unfold maxLen; omega) (by rw [size_madeCells, Nat.mul_one]), below1 _ _⟩
  case round =>
    obtain ⟨k, acc, rfl, hk, rfl, HI, hacc, HO, hbel⟩ := hrel
    have hB := hbel.size
    by_cases hlt : k < bs.length
    · obtain ⟨g, o, x, rfl, hg, hx, h1⟩ := hb.int hlt
      have Hx := veil hx; clear hx
      rw [← hbel.cell (by simp; omega)] at h1
      by_cases h255 : x = 255
      · subst h255
        by_cases hlast : k + 1 = bs.length
        · have hpn := HI.out.last Hx.out hlast
          have hpo := plain_none hpn
          have Ho := veil hpo.1; have He := veil hpo.2
          have hlast' : (k : Int) + 1 = (bs.length : Int) := by omega
          clear hpn hpo
          go_wp2_with (first
            | (at_builtin; go_loud (refine wpList_ownI _ rfl (.tmp 15) (.tmp 20) _ rfl w.heap.size 5 .u8 1 elem_byte u4 acc [] rfl HO [255] rfl (by unfold maxLen; simp; omega) (by simp; omega) ?_); intro v1 w1 HO1 hb1 hz1; have h1' := h1; rw [← hb1.cell (by simp; omega)] at h1'))
          go_ret2
          exact ⟨_, ret_two rfl (by rw [He.out]; rfl), by rw [Ho.out]; exact (Owns.nil (hbel.trans hb1).size).fresh _ _, hbel.trans hb1⟩
        · obtain ⟨g2, o2, y, e2, hg2, hy, h2⟩ := hb.int (k := k + 1) (by omega)
          injection e2 with e2
          injection e2 with e3 e4
          subst e3 e4
          have Hy := veil hy; clear hy
          rw [← hbel.cell (by simp; omega)] at h2
          have hne : ¬ ((k : Int) + 1 = (bs.length : Int)) := by omega
          have hlt2 : (k : Int) + 1 < (bs.length : Int) := by omega
          by_cases hy0 : y = 0
          · subst hy0
            go_wp2_with (first
              | (at_builtin; go_loud (refine wpList_ownI _ rfl (.tmp 15) (.tmp 20) _ rfl w.heap.size 5 .u8 1 elem_byte u4 acc [] rfl HO [255] rfl (by unfold maxLen; simp; omega) (by simp; omega) ?_); intro v1 w1 HO1 hb1 hz1; have h1' := h1; have h2' := h2; rw [← hb1.cell (by simp; omega)] at h1' h2'))
            go_roundg (bs.length - (k + 2))
            case rel => exact ⟨k + 2, _, rfl, by omega, by go_num, veil (HI.out.lead Hx.out Hy.out), by simp; omega, HO1, hbel.trans hb1⟩
            case measure => omega
          · have hpn := HI.out.bad Hx.out Hy.out hy0
            have hpo := plain_none hpn
            have Ho := veil hpo.1; have He := veil hpo.2
            have hyb : (y != 0) = true := by simpa using hy0
            clear hpn hpo hy0
            go_wp2_with (first
              | (at_builtin; go_loud (refine wpList_ownI _ rfl (.tmp 15) (.tmp 20) _ rfl w.heap.size 5 .u8 1 elem_byte u4 acc [] rfl HO [255] rfl (by unfold maxLen; simp; omega) (by simp; omega) ?_); intro v1 w1 HO1 hb1 hz1; have h1' := h1; have h2' := h2; rw [← hb1.cell (by simp; omega)] at h1' h2'))
            go_ret2
            exact ⟨_, ret_two rfl (by rw [He.out]; rfl), by rw [Ho.out]; exact (Owns.nil (hbel.trans hb1).size).fresh _ _, hbel.trans hb1⟩
      · have hxb : (x != 255) = true := by simpa using h255
        have hxb' : (x == 255) = false := by simpa using h255
        have H255 := veil h255; clear h255
        go_wp2_with (first
          | (at_builtin; go_loud (refine wpList_ownI _ rfl (.tmp 15) (.tmp 20) _ rfl w.heap.size 5 .u8 1 elem_byte u4 acc [] rfl HO [x] rfl (by unfold maxLen; simp; omega) (by simp; omega) ?_); intro v1 w1 HO1 hb1 hz1; have h1' := h1; rw [← hb1.cell (by simp; omega)] at h1'))
        go_roundg (bs.length - (k + 1))
        case rel => exact ⟨k + 1, _, rfl, by omega, by go_num, veil (HI.out.other Hx.out H255.out), by simp; omega, HO1, hbel.trans hb1⟩
        case measure => omega
    · obtain rfl : k = bs.length := by omega
      have hpo := plain_some HI.out.done
      have Ho := veil hpo.1; have He := veil hpo.2
      clear hpo
      go_wp2
      go_ret2
      exact ⟨_, ret_two rfl (by rw [He.out]; rfl), by rw [Ho.out]; exact HO, hbel⟩
end Go.Proofs.Ytbboakdfnjjddaa

/- seg's writer: its state in numbers and in memory. -/
namespace Go.Proofs.Ytbboakdfnjjddaa
open Go.RowKit
set_option linter.unusedVariables false
set_option linter.unusedSimpArgs false
set_option maxRecDepth 100000

abbrev fieldRow (v : Value) (l : List (Int × Int)) : Row := ⟨69, 2, v, l.length, pairCells l⟩
theorem fieldRow_append (v : Value) (l m : List (Int × Int)) : (⟨69, 2, v, l.length + m.length, pairCells l ++ pairCells m⟩ : Row) = fieldRow v (l ++ m) := by simp [fieldRow, pairCells]
/-- Block g is a writer: bytes that are done, fields that are not. -/
structure Wr (B g : Nat) (D : List Int) (P : List (Int × Int)) (vd vp : Value) (w : World) : Prop where
  blk : Blk w g [vd, vp, .int .i64 ((fieldBits P).length : Int)] 67
  own : Owns B [byteRow vd D, fieldRow vp P] w
  low : g < B
  byt : Bytes D
  ok : ∀ f ∈ P, okF f
  few : P.length ≤ 20000
/-- The blocks that it may write. -/
def wrF (g : Nat) (vd vp : Value) (q : Nat) : Prop := q = g ∨ vd.ownBlock = some q ∨ vp.ownBlock = some q
section
variable {B g : Nat} {D : List Int} {P : List (Int × Int)} {vd vp : Value} {w w' : World}
theorem Wr.below (h : Wr B g D P vd vp w) (hb : Below w.heap.size w w') : Wr B g D P vd vp w' := ⟨h.blk.below hb h.blk.lt, h.own.below hb, h.low, h.byt, h.ok, h.few⟩
theorem Wr.only {F : Nat → Prop} (h : Wr B g D P vd vp w) (hb : Only F w w') (hF : ∀ q, wrF g vd vp q → ¬ F q) : Wr B g D P vd vp w' :=
  ⟨hb.blk h.blk (hF g (.inl rfl)), h.own.only hb (fun r hr q hq => hF q (by
    rcases List.mem_cons.1 hr with rfl | hr
    · exact .inr (.inl hq)
    · rw [List.mem_singleton.1 hr] at hq; exact .inr (.inr hq))), h.low, h.byt, h.ok, h.few⟩
theorem Wr.foot (h : Wr B g D P vd vp w) {q : Nat} (hq : wrF g vd vp q) : q < w.heap.size ∧ g ≤ q := by
  rcases hq with rfl | hq | hq
  · exact ⟨h.blk.lt, Nat.le_refl _⟩
  · have := h.own.head.lt q hq; have := h.low; omega
  · have := h.own.tail.head.lt q hq; have := h.low; omega
end
/-- In a walk: append of a field just laid; the new slice written out. -/
theorem wpList_ownF {ops : Array Oper} {rest : List Oper} {o : Oper} {a : Act} {Q : Exit → Act → World → Prop} (w0 : World) (n : Nat) (hn : w0.heap.size = n) (hgd : Region.wanted o (yielded ops a.tmps) = true) (s x : Operand)
    (ho : o.op = .call { callee := .builtin .append, args := #[s, x], argTypes := #[65, 65] })
    (B : Nat) (v : Value) (l : List (Int × Int)) (rs : List Row) (hs : a.eval s = v) (HO : Owns B (fieldRow v l :: rs) w0) (f1 f2 : Int) (hx : a.eval x = .slice (some ⟨n, 0, none⟩) 1 1)
    (h63 : l.length + 1 ≤ 1000000)
    (h : ∀ A' c' w', Owns B (fieldRow (.slice A' (l.length + 1) c') (l ++ [(f1, f2)]) :: rs) w' → (w0.alloc (.cells #[.int .i64 f1, .int .i64 f2] 69)).grownBy w' v.ownBlock → Below B (w0.alloc (.cells #[.int .i64 f1, .int .i64 f2] 69)) w' → ((Value.slice A' (l.length + 1) c').ownBlock = v.ownBlock ∨ (Value.slice A' (l.length + 1) c').ownBlock = some (w0.heap.size + 1)) → wpList Try.prog ops Q rest (a.put o.dst (.slice A' (l.length + 1) c')) w') : wpList Try.prog ops Q (o :: rest) a (w0.alloc (.cells #[.int .i64 f1, .int .i64 f2] 69)) := by
  subst hn
  refine wpList_ownV2 _ hgd s x 65 ho B 69 2 16 elem_field v l.length (pairCells l) rs hs (HO.alloc _) (w0.heap.size + 1) (some ⟨w0.heap.size, 0, none⟩) 1 1 (pairCells [(f1, f2)]) hx (Seen.new w0 (pairCells [(f1, f2)]) _ _ (Nat.lt_succ_self _)) (by simp [pairCells]) (by intro u hu; simp [pairCells] at hu; rcases hu with rfl | rfl <;> rfl) (by unfold maxLen; omega) (by omega) ?_
  intro v' w' h2 hg h4 h5
  obtain ⟨A', c', hv, _, _, _⟩ := h2.seen (List.mem_cons_self ..)
  simp only at hv
  subst hv
  rw [World.size_alloc] at h5
  refine h A' c' w' ?_ hg h4 h5
  rw [← fieldRow_append]
  exact h2
theorem fieldBits_len_le (P : List (Int × Int)) (h : ∀ f ∈ P, okF f) : (fieldBits P).length ≤ 24 * P.length := fieldBits_le P h
theorem bits_take_done {P : List (Int × Int)} {out : List Int} {p : Nat} (h : unpack out = fieldBits P ++ List.replicate p true) (hp : p < 8) :
    8 * ((fieldBits P).length / 8) ≤ (fieldBits P).length ∧ (fieldBits P).length / 8 ≤ out.length ∧ unpack (out.take ((fieldBits P).length / 8)) = (fieldBits P).take (8 * ((fieldBits P).length / 8)) := by
  have hl := congrArg List.length h
  rw [unpack_length, List.length_append, List.length_replicate] at hl
  refine ⟨by omega, by omega, ?_⟩
  rw [unpack_take, h, List.take_append_of_le_length (by omega)]
/-- The bits behind the last full byte. -/
theorem bits_left {P : List (Int × Int)} {out : List Int} {p : Nat} (hby : Bytes out) (h : unpack out = fieldBits P ++ List.replicate p true) (hp : p < 8) (ho : 0 < (fieldBits P).length % 8) :
    ∃ x : Nat, out[(fieldBits P).length / 8]? = some (x : Int) ∧ x < 256 ∧ bitsN ((fieldBits P).length % 8) (x / 2 ^ (8 - (fieldBits P).length % 8)) = (fieldBits P).drop (8 * ((fieldBits P).length / 8)) ∧ x / 2 ^ (8 - (fieldBits P).length % 8) < 2 ^ ((fieldBits P).length % 8) := by
  have hl := congrArg List.length h
  rw [unpack_length, List.length_append, List.length_replicate] at hl
  obtain ⟨n, hn⟩ : ∃ n, n = (fieldBits P).length := ⟨_, rfl⟩
  rw [← hn] at hl ho ⊢
  obtain ⟨y, hy⟩ := some_at (xs := out) (j := n / 8) (by omega)
  have hyb := hby y (List.mem_of_getElem? hy)
  obtain ⟨x, rfl⟩ := Int.eq_ofNat_of_zero_le hyb.1
  have hx : x < 256 := by omega
  have e1 : bitsN 8 x = ((unpack out).drop (8 * (n / 8))).take 8 := by
    have e := unpack_drop out (n / 8)
    rw [← e]
    obtain ⟨hk, hk2⟩ := List.getElem?_eq_some_iff.1 hy
    rw [List.drop_eq_getElem_cons hk, hk2, unpack_cons, List.take_append_of_le_length (by rw [bitsN_length]; exact Nat.le_refl _), List.take_of_length_le (by rw [bitsN_length]; exact Nat.le_refl _), Int.toNat_natCast]
  have hd : 8 = n % 8 + (8 - n % 8) := by omega
  have e2 := bitsN_add (n % 8) (8 - n % 8) x
  rw [← hd, e1] at e2
  have e3 := congrArg (List.take (n % 8)) e2
  rw [List.take_left' (bitsN_length _ _), List.take_take, Nat.min_eq_left (by omega), h, List.drop_append_of_le_length (by omega), List.take_append_of_le_length (by rw [List.length_drop]; omega), List.take_of_length_le (by rw [List.length_drop]; omega)] at e3
  refine ⟨x, hy, hx, e3.symm, ?_⟩
  rw [Nat.div_lt_iff_lt_mul (Nat.two_pow_pos _), ← Nat.pow_add, ← hd]
  exact hx
end Go.Proofs.Ytbboakdfnjjddaa
