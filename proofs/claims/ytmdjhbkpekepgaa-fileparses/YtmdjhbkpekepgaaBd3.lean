/- Texts shared by the claims of this seat, in one. -/
import Derived.Test.YtmdjhbkpekepgaaBd2
import Derived.Laws.MakeOwn
import Derived.Test.YtmdjhbkpekepgaaRows
import Derived.Laws.ResultCell
import Derived.ChangeKeysEq
import Derived.OpenShut
import Derived.Test.YtmdjhbkpekepgaaBd1
import Derived.BigQuiet
import Derived.Deep.LoopGhost
/- zig.Order: its contract. -/
namespace Go.Proofs.Ytmdjhbkpekepgaa
open Go.RowKit
set_option linter.unusedVariables false
set_option linter.unusedSimpArgs false
set_option maxRecDepth 100000

/-- The first s diagonals. -/
def zzTo (s : Nat) : List Int := (List.range s).flatMap diagL
/-- The zigzag order. -/
def zz : List Int := [0, 1, 8, 16, 9, 2, 3, 10, 17, 24, 32, 25, 18, 11, 4, 5, 12, 19, 26, 33, 40, 48, 41, 34, 27, 20, 13, 6, 7, 14, 21, 28, 35, 42, 49, 56, 57, 50, 43, 36, 29, 22, 15, 23, 30, 37, 44, 51, 58, 59, 52, 45, 38, 31, 39, 46, 53, 60, 61, 54, 47, 55, 62, 63]
theorem zzTo_all : zzTo 15 = zz := by decide +kernel
theorem zz_length : zz.length = 64 := rfl
theorem zzTo_succ (s : Nat) : zzTo (s + 1) = zzTo s ++ diagL s := by simp [zzTo, List.range_succ]
theorem diagL_length (s : Nat) : (diagL s).length ≤ 8 := by
  unfold diagL
  split
  · rw [List.length_reverse, ascD_length]; unfold cntD; omega
  · rw [ascD_length]; unfold cntD; omega
theorem zzTo_length (s : Nat) : (zzTo s).length ≤ 8 * s := by
  induction s with
  | zero => simp [zzTo]
  | succ s ih => rw [zzTo_succ, List.length_append]; have := diagL_length s; omega
theorem info_intZ : (Try.prog.info? 3).map (fun i => (i.zero, i.size, i.bytes)) = some (some (.int .i64 0), 1, 8) := by kernel_rfl
theorem run_make64 (u : World) : (Instr.makeSlice 25 (.int .i64 0) (.int .i64 64)).run Try.prog u =
    .ok (.slice (some ⟨u.heap.size, 0, none⟩) 0 64) (u.alloc (.cells (madeCells #[.int .i64 0] 64) 3)) := by
  obtain ⟨i0, hi, hz0, hz1, hz2⟩ := info_parts info_intZ
  have h := run_make (P := Try.prog) u 25 3 i0 (.int .i64 0) Try.underlying25 hi hz0 .i64 .i64 0 64 (by omega) (by omega) (by rw [hz2]; omega) (by omega)
  simpa [hz1, Value.cells] using h
set_option maxHeartbeats 2000000 in
set_option maxRecDepth 100000 in
theorem order_any (w : World) :
    Calls Try.prog 40 #[] w fun e w' => ∃ g c, e = .returned (.slice (some ⟨g, 0, none⟩) 64 c) ∧ Owns w.heap.size [intRow 3 .i64 (.slice (some ⟨g, 0, none⟩) 64 c) zz] w' ∧ Below w.heap.size w w' := by
  have hmk := run_make64
  have hst : Hid (Owns w.heap.size [intRow 3 .i64 (.slice (some ⟨w.heap.size, 0, none⟩) 0 64) (zzTo 0)] (w.alloc (.cells (madeCells #[.int .i64 0] 64) 3))) :=
    (Owns.start w).made 3 1 (madeCells #[.int .i64 0] 64) 64 (by unfold maxLen; omega) (size_madeCells _ _)
  generalize madeCells #[.int .i64 0] 64 = cs at *
  go_enter Try.func40, Try.ntmps40
  go_wp2
  clear hmk
  go_loopg [1, 4] 15 (fun gk v i wr => ∃ k : Nat, gk = 15 - k ∧ k ≤ 15 ∧ i = .int .i64 (k : Int) ∧ Hid (Owns w.heap.size [intRow 3 .i64 v (zzTo k)] wr) ∧ Hid (Below w.heap.size w wr))
  case atStart => exact ⟨0, rfl, by omega, rfl, hst, veil (below1 _ _)⟩
  case round =>
    clear hst
    obtain ⟨k, rfl, hk, rfl, HO, HB⟩ := hrel
    by_cases hlt : k < 15
    · have hltz : (k : Int) < 15 := by omega
      have HD := veil (fun w1 => diag_any k w1 (by omega))
      have hzl := zzTo_length k
      have hdl := diagL_length k
      have HS := veil (zzTo_succ k)
      generalize zzTo k = l at *
      generalize diagL k = d at *
      go_wp2_with fail
      refine (HD.out _).mono ?_
      rintro e w2 ⟨v2, rfl, HO2, hb2⟩
      obtain ⟨A, c, hv2, hsn, _, _⟩ := HO2.seen (List.mem_singleton.2 rfl)
      simp only [intRow] at hv2
      subst hv2
      have HO3 := (HO.out.call hb2 HO2).swap
      simp only [intRow] at hsn
      clear HD HO2
      go_wp2_with (first
        | (at_builtin; go_loud (refine wpList_ownV w2 rfl (.tmp 7) (.tmp 9) _ rfl w.heap.size 3 1 8 elemZ u1 l.length (ints .i64 l) _ rfl HO3 w2.heap.size A d.length c (ints .i64 d) rfl hsn (by rw [ints_length, Nat.mul_one]) ints_one (by unfold maxLen; omega) (by omega) ?_); intro v4 w4 HO4 hb4)
        | fail)
      go_roundg (15 - (k + 1))
      case rel => exact ⟨k + 1, rfl, by omega, by go_num, veil (by rw [HS.out, ← intRow_append]; exact HO4.swap.tail), veil ((HB.out.trans (hb2.mono HB.out.size)).trans hb4)⟩
      case measure => omega
    · obtain rfl : k = 15 := by omega
      rw [zzTo_all] at HO
      obtain ⟨g, c, rfl⟩ := own_some HO.out (by rw [zz_length]; omega)
      rw [zz_length] at HO
      go_wp2
      go_ret
      exact ⟨g, c, rfl, HO.out, HB.out⟩
end Go.Proofs.Ytmdjhbkpekepgaa

/- The order and its inverse, in numbers. -/
namespace Go.Proofs.Ytmdjhbkpekepgaa
open Go.RowKit
set_option linter.unusedVariables false
set_option linter.unusedSimpArgs false
set_option maxRecDepth 100000

/-- The numbers of a block in the order, the first k of them. -/
def toK (cs : List Int) (k : Nat) : List Int := (List.range 64).map fun i => if i < k then cs.getD (zz.getD i 0).toNat 0 else 0
/-- The block of which the first k numbers in the order are told. -/
def fromK (cs : List Int) (k : Nat) : List Int := (List.range 64).map fun (j : Nat) => if zz.idxOf (j : Int) < k then cs.getD (zz.idxOf (j : Int)) 0 else 0
def toL (cs : List Int) : List Int := toK cs 64
def fromL (cs : List Int) : List Int := fromK cs 64
theorem toK_length (cs : List Int) (k : Nat) : (toK cs k).length = 64 := by simp [toK]
theorem fromK_length (cs : List Int) (k : Nat) : (fromK cs k).length = 64 := by simp [fromK]
theorem zero64_map (f : Nat → Int) (h : ∀ i, f i = 0) : (List.range 64).map f = List.replicate 64 0 := by
  apply List.ext_getElem?
  intro i
  by_cases hi : i < 64
  · rw [List.getElem?_map, List.getElem?_range hi, List.getElem?_replicate, if_pos hi]; simp [h]
  · rw [List.getElem?_eq_none (by simp; omega), List.getElem?_eq_none (by simp; omega)]
theorem toK_zero (cs : List Int) : toK cs 0 = List.replicate 64 0 := zero64_map _ fun i => if_neg (by omega)
theorem fromK_zero (cs : List Int) : fromK cs 0 = List.replicate 64 0 := zero64_map _ fun i => if_neg (by omega)
theorem zz_at : ∀ k : Fin 64, ∃ n : Fin 64, zz[k.1]? = some ((n.1 : Nat) : Int) ∧ zz.idxOf ((n.1 : Nat) : Int) = k.1 := by decide +kernel
theorem zz_back : ∀ j : Fin 64, zz.idxOf ((j.1 : Nat) : Int) < 64 ∧ zz[zz.idxOf ((j.1 : Nat) : Int)]? = some ((j.1 : Nat) : Int) := by decide +kernel
theorem toK_next {cs : List Int} {k n : Nat} {x : Int} (hk : k < 64) (hn : zz[k]? = some (n : Int)) (hx : cs[n]? = some x) : toK cs (k + 1) = (toK cs k).set k x := by
  apply List.ext_getElem?
  intro i
  rw [List.getElem?_set]
  by_cases hi : i < 64
  · simp only [toK, List.getElem?_map, List.getElem?_range hi, List.length_map, List.length_range]
    by_cases e : k = i
    · subst e
      rw [if_pos rfl, if_pos hi]
      simp [List.getD_eq_getElem?_getD, hn, hx]
    · rw [if_neg e]
      simp only [Option.map_some, show i < k + 1 ↔ i < k by omega]
  · rw [List.getElem?_eq_none (by rw [toK_length]; omega), if_neg (by omega), List.getElem?_eq_none (by rw [toK_length]; omega)]
theorem fromK_next {cs : List Int} {k n : Nat} {x : Int} (hk : k < 64) (hn : zz[k]? = some (n : Int)) (hx : cs[k]? = some x) : fromK cs (k + 1) = (fromK cs k).set n x := by
  obtain ⟨⟨n', h64⟩, hn', hidx⟩ := zz_at ⟨k, hk⟩
  simp only at hn' hidx
  rw [hn] at hn'
  obtain rfl : n = n' := by injection hn' with hn'; omega
  apply List.ext_getElem?
  intro j
  rw [List.getElem?_set]
  by_cases hj : j < 64
  · simp only [fromK, List.getElem?_map, List.getElem?_range hj, List.length_map, List.length_range]
    by_cases e : n = j
    · subst e
      rw [if_pos rfl, if_pos hj]
      simp [List.getD_eq_getElem?_getD, hidx, hx]
    · rw [if_neg e]
      have hb := zz_back ⟨j, hj⟩
      simp only at hb
      have hne : zz.idxOf (j : Int) ≠ k := by
        intro h
        rw [h, hn] at hb
        have := hb.2
        injection this with this
        omega
      simp only [Option.map_some, show zz.idxOf (j : Int) < k + 1 ↔ zz.idxOf (j : Int) < k by omega]
  · rw [List.getElem?_eq_none (by rw [fromK_length]; omega), if_neg (by omega), List.getElem?_eq_none (by rw [fromK_length]; omega)]
theorem toL_at {cs : List Int} {k n : Nat} (hk : k < 64) (hn : zz[k]? = some (n : Int)) : (toL cs)[k]? = some (cs.getD n 0) := by
  simp only [toL, toK, List.getElem?_map, List.getElem?_range hk, Option.map_some, if_pos hk]
  simp [List.getD_eq_getElem?_getD, hn]
theorem fromL_at {cs : List Int} {j : Nat} (hj : j < 64) : (fromL cs)[j]? = some (cs.getD (zz.idxOf (j : Int)) 0) := by
  have hb := zz_back ⟨j, hj⟩
  simp only [fromL, fromK, List.getElem?_map, List.getElem?_range hj, Option.map_some, if_pos hb.1]
theorem getD_some {cs : List Int} {k : Nat} (hk : k < cs.length) : cs[k]? = some (cs.getD k 0) := by
  rw [List.getD_eq_getElem?_getD, List.getElem?_eq_getElem hk]; rfl
theorem to_from {cs : List Int} (hc : cs.length = 64) : toL (fromL cs) = cs := by
  apply List.ext_getElem?
  intro k
  by_cases hk : k < 64
  · obtain ⟨⟨n, hn⟩, h1, h2⟩ := zz_at ⟨k, hk⟩
    simp only at h1 h2
    rw [toL_at hk h1, List.getD_eq_getElem?_getD, fromL_at hn, h2, getD_some (by omega)]; rfl
  · rw [List.getElem?_eq_none (by rw [toL, toK_length]; omega), List.getElem?_eq_none (by omega)]
end Go.Proofs.Ytmdjhbkpekepgaa

/- A block's value (64 numbers), and whether two are equal. -/
namespace Go.Proofs.Ytmdjhbkpekepgaa
open Go.RowKit
set_option linter.unusedVariables false
set_option linter.unusedSimpArgs false
set_option maxRecDepth 100000

/-- A block's value. -/
abbrev blkV (cs : List Int) : Value := .agg (ints .i64 cs).toArray
theorem info_blk : (Try.prog.info? 23).map (·.size) = some 64 := by kernel_rfl
theorem info_blkn {xs : List Value} (h : xs.length = 64) : (Try.prog.info? 23).map (·.size) = some xs.length := by rw [h]; exact info_blk
theorem run_eqItems_ints {P : Program} (w : World) (d : Nat) {e : TypeId} {k : IntKind} (he : P.underlying e = some (.int k)) (hp : P.plainKey e = true) (cs ds : List Int) : ∀ (is : List Nat), (∀ i ∈ is, i < cs.length ∧ i < ds.length) →
    (Op.eqItems (d + 1) e 1 (ints k cs).toArray (ints k ds).toArray is).run P w = .ok (decide (∀ i ∈ is, cs[i]? = ds[i]?)) w
  | [], _ => by simp [Op.eqItems]
  | i :: is, h => by
    obtain ⟨h1, h2⟩ := h i (by simp)
    obtain ⟨x, hx⟩ := some_at h1
    obtain ⟨y, hy⟩ := some_at h2
    have p1 : (part e (ints k cs).toArray (i * 1)).run P w = .ok (.int k x) w := run_part_plain w hp (by simpa using ints_at (k := k) hx)
    have p2 : (part e (ints k ds).toArray (i * 1)).run P w = .ok (.int k y) w := run_part_plain w hp (by simpa using ints_at (k := k) hy)
    have ih := run_eqItems_ints w d he hp cs ds is fun j hj => h j (by simp [hj])
    simp only [Op.eqItems, Sem.run_bind, p1, p2, Result.andThen_ok, run_equalIn_int w d e k k x y he]
    by_cases hxy : x = y
    · subst hxy
      simp only [beq_self_eq_true, Bool.not_true, Bool.false_eq_true, if_false, ih]
      congr 1
      simp only [decide_eq_decide]
      constructor
      · intro h j hj
        rcases List.mem_cons.1 hj with rfl | hj
        · rw [hx, hy]
        · exact h j hj
      · intro h j hj; exact h j (by simp [hj])
    · have hb : (x == y) = false := by simpa using hxy
      simp only [hb, Bool.not_false, if_true, Sem.run_pure]
      congr 1
      symm
      simp only [decide_eq_false_iff_not]
      intro h3
      have := h3 i (by simp)
      rw [hx, hy] at this
      exact hxy (by injection this)
theorem ext64 {cs ds : List Int} (hc : cs.length = 64) (hd : ds.length = 64) : (∀ i ∈ List.range 64, cs[i]? = ds[i]?) ↔ cs = ds := by
  constructor
  · intro h
    apply List.ext_getElem?
    intro i
    by_cases hi : i < 64
    · exact h i (List.mem_range.2 hi)
    · rw [List.getElem?_eq_none (by omega), List.getElem?_eq_none (by omega)]
  · rintro rfl i _; rfl
/-- Two blocks compared. -/
theorem blk_eql (cs ds : List Int) (hc : cs.length = 64) (hd : ds.length = 64) (u : World) : (binOp .eql 23 (blkV cs) (blkV ds)).run Try.prog u = .ok (.bool (decide (cs = ds))) u := by
  cases hi : Try.prog.info? 3 with
  | none => have : (Try.prog.info? 3).isSome = true := by kernel_rfl
            rw [hi] at this; cases this
  | some inf =>
    have hc1 : Try.prog.cellsOf 3 = 1 := by kernel_rfl
    rw [run_eql_struct u 23, show (10000 : Nat) = 9998 + 1 + 1 from rfl, run_equalIn_array u (9998 + 1) _ _ Try.underlying23 hi, hc1,
      run_eqItems_ints u 9998 Try.underlying3 (by kernel_rfl) cs ds (List.range 64) (fun i hi => by have := List.mem_range.1 hi; omega)]
    simp only [Result.andThen_ok]
    exact congrArg (fun b => Result.ok (Value.bool b) u) (decide_eq_decide.2 (ext64 hc hd))
end Go.Proofs.Ytmdjhbkpekepgaa

/- The zero block, three blocks just laid, a block and a code handed back: what the walks over blocks share. -/
namespace Go.Proofs.Ytmdjhbkpekepgaa
open Go.RowKit
set_option linter.unusedVariables false
set_option linter.unusedSimpArgs false
set_option maxRecDepth 100000

def zeroB : List Value := ints .i64 (List.replicate 64 0)
theorem zeroB_length : zeroB.length = 64 := by simp [zeroB, ints_length]
theorem results_row_tmp {P : Program} {fn : Func} {p u : Tmp} {ty : TypeId} (h : fn.results = #[.cell p ty, .tmp u]) (tmps : Array Value) (w : World) (g : Nat) (t : TypeId) (cs : Array Value) (fr : Nat × Nat) (d : TypeDesc) (x : Value)
    (hp : tmps.getD p undef = .pointer (some ⟨g, 0, none⟩)) (hx : tmps.getD u undef = x) (hg : w.heap[g]? = some (.cells cs t fr))
    (hu : P.underlying ty = some d) (hd : (match d with | .struct _ | .array _ _ => true | _ => false) = true) (hi : (P.info? ty).map (·.size) = some cs.size) :
    (results fn tmps).run P w = .ok (.tuple #[.agg cs, x]) w := by
  rw [results_cell_tmp h, hp, hx]
  simp [asAddr, run_loadVar_row w g t ty cs fr d hg hu hd hi, Result.andThen]
/-- The three blocks that these functions lay. -/
def box3 (cs : List Int) (w : World) : World := ((w.alloc (.cells (ints .i64 cs).toArray 23)).alloc (.cells zeroB.toArray 23)).alloc (.cells zeroB.toArray 23)
theorem box3_is (cs : List Int) (w : World) : Below w.heap.size w (box3 cs w) ∧ Blk (box3 cs w) w.heap.size (ints .i64 cs) 23 ∧ Blk (box3 cs w) (w.heap.size + 1) zeroB 23 ∧ Blk (box3 cs w) (w.heap.size + 1 + 1) zeroB 23 ∧ (box3 cs w).heap.size = w.heap.size + 3 := by
  have e1 := World.size_alloc w (.cells (ints .i64 cs).toArray 23)
  have e2 := World.size_alloc (w.alloc (.cells (ints .i64 cs).toArray 23)) (.cells zeroB.toArray 23)
  have h0 := Blk.new w (ints .i64 cs) 23
  have h1 := Blk.new (w.alloc (.cells (ints .i64 cs).toArray 23)) zeroB 23
  have h2 := Blk.new ((w.alloc (.cells (ints .i64 cs).toArray 23)).alloc (.cells zeroB.toArray 23)) zeroB 23
  have b1 := below1 ((w.alloc (.cells (ints .i64 cs).toArray 23)).alloc (.cells zeroB.toArray 23)) (.cells zeroB.toArray 23)
  have b2 := below2 (w.alloc (.cells (ints .i64 cs).toArray 23)) (.cells zeroB.toArray 23) (.cells zeroB.toArray 23)
  refine ⟨below3 _ _ _ _, h0.below b2 (by omega), ?_, ?_, by simp [box3]⟩
  · have := h1.below b1 (by omega)
    rw [e1] at this; exact this
  · rw [e2, e1] at h2; exact h2
end Go.Proofs.Ytmdjhbkpekepgaa

/- Rounding and clamping in numbers. -/
namespace Go.Proofs.Ytmdjhbkpekepgaa
open Go.RowKit
set_option linter.unusedVariables false
set_option linter.unusedSimpArgs false
set_option maxRecDepth 100000

end Go.Proofs.Ytmdjhbkpekepgaa

/- Rounding and clamping in numbers; blocks made number by number. -/
namespace Go.Proofs.Ytmdjhbkpekepgaa
open Go.RowKit
set_option linter.unusedVariables false
set_option linter.unusedSimpArgs false
set_option maxRecDepth 100000

/-- All numbers within bounds. -/
def inB (lo hi : Int) (cs : List Int) : Bool := cs.all fun x => decide (lo ≤ x) && decide (x ≤ hi)
theorem inB_mem {lo hi : Int} {cs : List Int} : inB lo hi cs = true ↔ ∀ x ∈ cs, lo ≤ x ∧ x ≤ hi := by simp [inB]
theorem inB_at {lo hi : Int} {cs : List Int} (h : inB lo hi cs = true) {i : Nat} {x : Int} (hx : cs[i]? = some x) : lo ≤ x ∧ x ≤ hi := inB_mem.1 h x (List.mem_of_getElem? hx)
def badB (lo hi : Int) (cs : List Int) : Int := if inB lo hi cs = true then 0 else 1
end Go.Proofs.Ytmdjhbkpekepgaa

/- Files as bytes, in numbers: what Check, Pack and Parse answer; there and back; what is cut off. -/
namespace Go.Proofs.Ytmdjhbkpekepgaa
open Go.RowKit
set_option linter.unusedVariables false
set_option linter.unusedSimpArgs false
set_option maxRecDepth 100000

/-- A file's parts. -/
structure FileL where
  wide : Int
  high : Int
  parts : Int
  q : List Int
  cs : List Int
  syms : List Int
  cs2 : List Int
  syms2 : List Int
  every : Int
  data : List Int
/-- Its lists have their lengths. -/
structure FileL.Form (f : FileL) : Prop where
  q : f.q.length = 64
  cs : f.cs.length = 16
  cs2 : f.cs2.length = 16
def badF (f : FileL) : Prop := f.wide < 1 ∨ 64 < f.wide ∨ f.high < 1 ∨ 64 < f.high ∨ (f.parts ≠ 1 ∧ f.parts ≠ 3) ∨ f.every < 0 ∨ 100 < f.every ∨ inB 1 255 f.q = false
instance (f : FileL) : Decidable (badF f) := by unfold badF; infer_instance
/-- What Check says. -/
def eFile (f : FileL) : Int :=
  if badF f then 1 else if eTs f.cs f.syms f.cs2 f.syms2 ≠ 0 then eTs f.cs f.syms f.cs2 f.syms2 else if 90000 < f.data.length then 2 else 0
theorem eFile_zero {f : FileL} (h : eFile f = 0) : ¬ badF f ∧ checkErr f.cs f.syms = 0 ∧ checkErr f.cs2 f.syms2 = 0 ∧ f.data.length ≤ 90000 := by
  unfold eFile at h
  split at h
  · cases h
  · rename_i h1
    split at h
    · rename_i h2; exact absurd h h2
    · rename_i h2
      split at h
      · cases h
      · have h3 : eTs f.cs f.syms f.cs2 f.syms2 = 0 := by simpa using h2
        unfold eTs at h3
        split at h3
        · rename_i h4; exact ⟨h1, h4, h3, by omega⟩
        · rename_i h4; exact absurd h3 h4
/-- A count in two bytes. -/
def w2s : List Int → List Int
  | [] => []
  | n :: cs => n / 256 :: n % 256 :: w2s cs
theorem w2s_length (cs : List Int) : (w2s cs).length = 2 * cs.length := by
  induction cs with
  | nil => rfl
  | cons x l ih => simp only [w2s, List.length_cons, ih]; omega
theorem w2s_app (a b : List Int) : w2s (a ++ b) = w2s a ++ w2s b := by
  induction a with
  | nil => rfl
  | cons x l ih => simp only [List.cons_append, w2s, ih]
/-- Counts out of bytes. -/
def cntN (n : Nat) (bs : List Int) : List Int := (List.range n).map fun k => 256 * bs.getD (2 * k) 0 + bs.getD (2 * k + 1) 0
theorem cntN_length (n : Nat) (bs : List Int) : (cntN n bs).length = n := by simp [cntN]
/-- A table's bytes. -/
def tabB (cs syms : List Int) : List Int := w2s cs ++ syms
theorem tabB_length {cs : List Int} (syms : List Int) (h : cs.length = 16) : (tabB cs syms).length = 32 + syms.length := by rw [tabB, List.length_append, w2s_length, h]
/-- A file's bytes. -/
def headF (f : FileL) : List Int := [77, 90, f.wide, f.high, f.parts, f.every] ++ toL f.q
def packF (f : FileL) : List Int := headF f ++ (tabB f.cs f.syms ++ (tabB f.cs2 f.syms2 ++ f.data))
theorem headF_length (f : FileL) : (headF f).length = 70 := by rw [headF, List.length_append, toL, toK_length]; rfl
def topF (f : FileL) : Nat := 134 + f.syms.length + f.syms2.length
theorem packF_length {f : FileL} (h : f.Form) : (packF f).length = topF f + f.data.length := by
  rw [packF, List.length_append, List.length_append, List.length_append, headF_length, tabB_length _ h.cs, tabB_length _ h.cs2, topF]; omega
def oPack (f : FileL) : List Int := if eFile f = 0 then packF f else []

/-! ### what Parse reads -/
def n1F (bs : List Int) : Nat := (sumW (cntN 16 (bs.drop 70))).toNat
def n2F (bs : List Int) : Nat := (sumW (cntN 16 (bs.drop (102 + n1F bs)))).toNat
def shortF (bs : List Int) : Prop := bs.length < 102 ∨ bs.length < 102 + n1F bs ∨ bs.length < 134 + n1F bs ∨ bs.length < 134 + n1F bs + n2F bs
instance (bs : List Int) : Decidable (shortF bs) := by unfold shortF; infer_instance
def readF (bs : List Int) : FileL :=
  { wide := bs.getD 2 0, high := bs.getD 3 0, parts := bs.getD 4 0, q := fromL ((bs.drop 6).take 64), cs := cntN 16 (bs.drop 70), syms := (bs.drop 102).take (n1F bs),
    cs2 := cntN 16 (bs.drop (102 + n1F bs)), syms2 := (bs.drop (134 + n1F bs)).take (n2F bs), every := bs.getD 5 0, data := bs.drop (134 + n1F bs + n2F bs) }
def eParse (bs : List Int) : Int := if 91000 < bs.length then 2 else if shortF bs then 3 else if eFile (readF bs) = 0 ∧ packF (readF bs) = bs then 0 else 4
/-- No file. -/
def noF : FileL := { wide := 0, high := 0, parts := 0, q := List.replicate 64 0, cs := List.replicate 16 0, syms := [], cs2 := List.replicate 16 0, syms2 := [], every := 0, data := [] }
def oParse (bs : List Int) : FileL := if eParse bs = 0 then readF bs else noF
theorem readF_form (bs : List Int) : (readF bs).Form := ⟨fromK_length _ _, cntN_length _ _, cntN_length _ _⟩
theorem good_counts {cs syms : List Int} (h : checkErr cs syms = 0) : (sumW cs).toNat = syms.length ∧ syms.length ≤ 256 ∧ (∀ x ∈ cs, 0 ≤ x) := by
  obtain ⟨⟨h1, h2, h3⟩, _⟩ := checkErr_zero h
  exact ⟨by omega, by omega, h1⟩
theorem pack_long {f : FileL} (h : f.Form) (h0 : eFile f = 0) : (packF f).length ≤ 90646 := by
  obtain ⟨_, g1, g2, g3⟩ := eFile_zero h0
  have := (good_counts g1).2.1
  have := (good_counts g2).2.1
  rw [packF_length h, topF]; omega
/-- What is packed are bytes. -/
theorem packF_bytes {f : FileL} (h : f.Form) (h0 : eFile f = 0) (hd : Bytes f.data) : Bytes (packF f) := by
  obtain ⟨g0, g1, g2, g3⟩ := eFile_zero h0
  unfold badF at g0
  have hq : inB 1 255 f.q = true := by cases hh : inB 1 255 f.q; · exact absurd (by simp [hh]) g0
                                       · rfl
  have tb : ∀ {cs syms : List Int}, checkErr cs syms = 0 → Bytes (tabB cs syms) := by
    intro cs syms hc
    obtain ⟨⟨h1, h2, h3⟩, h4, _⟩ := checkErr_zero hc
    have hw : ∀ l : List Int, (∀ x ∈ l, 0 ≤ x) → sumW l ≤ 256 → Bytes (w2s l) := by
      intro l
      induction l with
      | nil => intro _ _ x hx; cases hx
      | cons y l ih =>
        intro p1 p2
        have hs : 0 ≤ sumW l := by
          clear ih p2
          induction l with
          | nil => simp [sumW]
          | cons z l ih => have := ih (fun x hx => p1 x (by simp only [List.mem_cons] at hx ⊢; rcases hx with hx | hx <;> simp [hx])); have := p1 z (by simp); simp only [sumW, List.foldr_cons] at this ih ⊢; simp only [sumW] at *; omega
        have hy := p1 y (by simp)
        have e : sumW (y :: l) = y + sumW l := rfl
        intro x hx
        simp only [w2s, List.mem_cons] at hx
        rcases hx with rfl | rfl | hx
        · omega
        · omega
        · exact ih (fun x hx => p1 x (by simp [hx])) (by omega) x hx
    intro x hx
    rcases List.mem_append.1 hx with hx | hx
    · exact hw cs h1 h2 x hx
    · exact h4 x hx
  intro x hx
  rw [packF, headF] at hx
  simp only [List.mem_append, List.mem_cons, List.not_mem_nil, or_false] at hx
  rcases hx with (((rfl | rfl | rfl | rfl | rfl | rfl) | hx) | hx | hx | hx)
  · omega
  · omega
  · omega
  · omega
  · omega
  · omega
  · obtain ⟨k, hk, e⟩ := List.mem_iff_getElem.1 hx
    have h64 : k < 64 := by rw [toL, toK_length] at hk; exact hk
    obtain ⟨⟨n, hn⟩, p1, p2⟩ := zz_at ⟨k, h64⟩
    have p3 := toL_at (cs := f.q) h64 p1
    rw [List.getElem?_eq_getElem hk, e, Option.some.injEq] at p3
    have p4 := inB_mem.1 hq (f.q.getD n 0) (List.mem_of_getElem? (getD_some (by rw [h.q]; exact hn)))
    change x = f.q.getD n 0 at p3
    rw [p3]; omega
  · exact tb g1 x hx
  · exact tb g2 x hx
  · exact hd x hx
end Go.Proofs.Ytmdjhbkpekepgaa

/- A file in one value, and in memory. -/
namespace Go.Proofs.Ytmdjhbkpekepgaa
open Go.RowKit
set_option linter.unusedVariables false
set_option linter.unusedSimpArgs false
set_option maxRecDepth 100000

/-- A file's cells: three numbers, 64, two tables, a number, a slice of bytes. -/
def fileCells (f : FileL) (A : Option Addr) (c : Nat) (A2 : Option Addr) (c2 : Nat) (A3 : Option Addr) (c3 : Nat) : List Value :=
  [.int .i64 f.wide, .int .i64 f.high, .int .i64 f.parts] ++ (ints .i64 f.q ++ (tabsCells f.cs A f.syms.length c f.cs2 A2 f.syms2.length c2 ++ [.int .i64 f.every, .slice A3 f.data.length c3]))
abbrev fileV (f : FileL) (A : Option Addr) (c : Nat) (A2 : Option Addr) (c2 : Nat) (A3 : Option Addr) (c3 : Nat) : Value := .agg (fileCells f A c A2 c2 A3 c3).toArray
/-- A file whose slices lie in memory. -/
structure FileIn (f : FileL) (A : Option Addr) (c : Nat) (A2 : Option Addr) (c2 : Nat) (A3 : Option Addr) (c3 G : Nat) (w : World) : Prop where
  form : f.Form
  max : f.syms.length ≤ maxLen
  cap : f.syms.length ≤ c
  bnd : ∀ x ∈ f.cs, -9223372036854775808 ≤ x ∧ x ≤ 9223372036854775807
  see : Seen w G A (ints .i64 f.syms)
  max2 : f.syms2.length ≤ maxLen
  cap2 : f.syms2.length ≤ c2
  bnd2 : ∀ x ∈ f.cs2, -9223372036854775808 ≤ x ∧ x ≤ 9223372036854775807
  see2 : Seen w G A2 (ints .i64 f.syms2)
  bytes : Bytes f.data
  max3 : f.data.length ≤ maxLen
  cap3 : f.data.length ≤ c3
  see3 : Seen w G A3 (ints .u8 f.data)
theorem FileIn.below {f : FileL} {A : Option Addr} {c : Nat} {A2 : Option Addr} {c2 : Nat} {A3 : Option Addr} {c3 G B : Nat} {w w' : World} (h : FileIn f A c A2 c2 A3 c3 G w) (hb : Below B w w') (hG : G ≤ B) : FileIn f A c A2 c2 A3 c3 G w' :=
  ⟨h.form, h.max, h.cap, h.bnd, h.see.below hb hG, h.max2, h.cap2, h.bnd2, h.see2.below hb hG, h.bytes, h.max3, h.cap3, h.see3.below hb hG⟩
theorem fileCells_length {f : FileL} (h : f.Form) (A : Option Addr) (c : Nat) (A2 : Option Addr) (c2 : Nat) (A3 : Option Addr) (c3 : Nat) : (fileCells f A c A2 c2 A3 c3).length = 103 := by
  unfold fileCells tabsCells
  rw [List.length_append, List.length_append, List.length_append, List.length_append, tabCells_length h.cs, tabCells_length h.cs2, ints_length, h.q]; rfl
/-- Where a file's parts lie. -/
structure FileAt (f : FileL) (A : Option Addr) (c : Nat) (A2 : Option Addr) (c2 : Nat) (A3 : Option Addr) (c3 : Nat) (w : World) (b : Nat) : Prop where
  wide : w.cell? ⟨b, 0, none⟩ = some (.int .i64 f.wide)
  high : w.cell? ⟨b, 1, none⟩ = some (.int .i64 f.high)
  parts : w.cell? ⟨b, 2, none⟩ = some (.int .i64 f.parts)
  q : w.rangeAt b 3 (ints .i64 f.q)
  tabs : w.rangeAt b 67 (tabsCells f.cs A f.syms.length c f.cs2 A2 f.syms2.length c2)
  every : w.cell? ⟨b, 101, none⟩ = some (.int .i64 f.every)
  data : w.cell? ⟨b, 102, none⟩ = some (.slice A3 f.data.length c3)
theorem fileAt_of {f : FileL} (h : f.Form) {A : Option Addr} {c : Nat} {A2 : Option Addr} {c2 : Nat} {A3 : Option Addr} {c3 : Nat} {w : World} {b : Nat} (hr : w.rangeAt b 0 (fileCells f A c A2 c2 A3 c3)) : FileAt f A c A2 c2 A3 c3 w b := by
  have r1 := range_right hr
  have r2 := range_right r1
  have r3 := range_right r2
  have e34 : (tabsCells f.cs A f.syms.length c f.cs2 A2 f.syms2.length c2).length = 34 := by unfold tabsCells; rw [List.length_append, tabCells_length h.cs, tabCells_length h.cs2]
  rw [ints_length, h.q] at r2 r3
  rw [e34] at r3
  exact ⟨hr 0 _ rfl, hr 1 _ rfl, hr 2 _ rfl, range_left r1, range_left r2, r3 0 _ rfl, r3 1 _ rfl⟩
theorem FileAt.below {f : FileL} {A : Option Addr} {c : Nat} {A2 : Option Addr} {c2 : Nat} {A3 : Option Addr} {c3 b B : Nat} {w w' : World} (h : FileAt f A c A2 c2 A3 c3 w b) (hb : Below B w w') (hB : b < B) : FileAt f A c A2 c2 A3 c3 w' b :=
  ⟨(hb.cell hB).trans h.wide, (hb.cell hB).trans h.high, (hb.cell hB).trans h.parts, range_below h.q hb hB, range_below h.tabs hb hB, (hb.cell hB).trans h.every, (hb.cell hB).trans h.data⟩
end Go.Proofs.Ytmdjhbkpekepgaa

/- Cells of a table, written. -/
namespace Go.Proofs.Ytmdjhbkpekepgaa
open Go.RowKit
set_option linter.unusedVariables false
set_option linter.unusedSimpArgs false
set_option maxRecDepth 100000

theorem tab_set_count {cs : List Int} {A : Option Addr} {n c k : Nat} {x : Int} (hk : k < cs.length) : (tabCells cs A n c).set k (.int .i64 x) = tabCells (cs.set k x) A n c := by
  unfold tabCells
  rw [List.set_append_left _ _ (by rw [ints_length]; exact hk)]
  simp [ints, List.map_set]
theorem tab_set_syms {cs : List Int} {A A' : Option Addr} {n n' c c' : Nat} (h : cs.length = 16) : (tabCells cs A n c).set 16 (.slice A' n' c') = tabCells cs A' n' c' := by
  unfold tabCells; rw [List.set_append_right _ _ (by rw [ints_length]; omega), ints_length, h]; rfl
theorem tab_count {cs : List Int} {A : Option Addr} {n c k : Nat} {x : Int} (h : cs[k]? = some x) : (tabCells cs A n c)[k]? = some (.int .i64 x) := by
  unfold tabCells
  rw [List.getElem?_append_left (by rw [ints_length]; exact (List.getElem?_eq_some_iff.1 h).1)]
  exact ints_at h
end Go.Proofs.Ytmdjhbkpekepgaa

/- A file's cells, written one by one; what Parse has read so far, in numbers. -/
namespace Go.Proofs.Ytmdjhbkpekepgaa
open Go.RowKit
set_option linter.unusedVariables false
set_option linter.unusedSimpArgs false
set_option maxRecDepth 100000

/-- One of two. -/
def sel2 {α : Type} (k : Nat) (x y : α) : α := if k = 0 then x else y
theorem sel2_0 {α : Type} (x y : α) : sel2 0 x y = x := rfl
theorem sel2_1 {α : Type} (x y : α) : sel2 1 x y = y := rfl
theorem ints_setF (k : IntKind) (xs : List Int) (i : Nat) (x : Int) : (ints k xs).set i (.int k x) = ints k (xs.set i x) := by simp [ints, List.map_set]
theorem set_mid {a b : List Value} {n : Nat} (i : Nat) (v : Value) (h : a.length = n) : (a ++ b).set (n + i) v = a ++ b.set i v := by
  rw [List.set_append_right _ _ (by omega), show n + i - a.length = i by omega]
theorem set_fst {a b : List Value} {i : Nat} (v : Value) (h : i < a.length) : (a ++ b).set i v = a.set i v ++ b := List.set_append_left _ _ h
/-- One of two is turned. -/
def turnAt {α : Type} (a : Nat → α) (k : Nat) (v : α) : Nat → α := fun i => if i = k then v else a i
theorem turnAt_same {α : Type} (a : Nat → α) (k : Nat) (v : α) : turnAt a k v k = v := if_pos rfl
theorem turnAt_not {α : Type} (a : Nat → α) {k i : Nat} (v : α) (h : i ≠ k) : turnAt a k v i = a i := if_neg h
def FileL.csT (f : FileL) (k : Nat) : List Int := sel2 k f.cs f.cs2
def FileL.syT (f : FileL) (k : Nat) : List Int := sel2 k f.syms f.syms2
def FileL.setC (f : FileL) (k : Nat) (l : List Int) : FileL := if k = 0 then { f with cs := l } else { f with cs2 := l }
def FileL.setS (f : FileL) (k : Nat) (l : List Int) : FileL := if k = 0 then { f with syms := l } else { f with syms2 := l }
/-- A file's cells, its tables' slices by their numbers. -/
def fileK (f : FileL) (a : Nat → Option Addr) (c : Nat → Nat) (A3 : Option Addr) (c3 : Nat) : List Value := fileCells f (a 0) (c 0) (a 1) (c 1) A3 c3
section
variable {f : FileL} {a : Nat → Option Addr} {c : Nat → Nat} {A3 : Option Addr} {c3 : Nat}
theorem fset_high (x : Int) : (fileK f a c A3 c3).set 1 (.int .i64 x) = fileK { f with high := x } a c A3 c3 := rfl
theorem fset_parts (x : Int) : (fileK f a c A3 c3).set 2 (.int .i64 x) = fileK { f with parts := x } a c A3 c3 := rfl
theorem fset_q (h : f.Form) {i : Nat} (hi : i < 64) (x : Int) : (fileK f a c A3 c3).set (3 + i) (.int .i64 x) = fileK { f with q := f.q.set i x } a c A3 c3 := by
  unfold fileK fileCells
  rw [set_mid (n := 3) _ _ rfl, set_fst _ (by rw [ints_length, h.q]; exact hi), ints_setF]
theorem tabs_len (h : f.Form) (A A2 : Option Addr) (n c n2 c2 : Nat) : (tabsCells f.cs A n c f.cs2 A2 n2 c2).length = 34 := by unfold tabsCells; rw [List.length_append, tabCells_length h.cs, tabCells_length h.cs2]
theorem fset_every (h : f.Form) (x : Int) : (fileK f a c A3 c3).set 101 (.int .i64 x) = fileK { f with every := x } a c A3 c3 := by
  unfold fileK fileCells
  rw [show 101 = 3 + (64 + (34 + 0)) from rfl, set_mid (n := 3) _ _ rfl, set_mid (n := 64) _ _ (by rw [ints_length, h.q]), set_mid (n := 34) _ _ (tabs_len h _ _ _ _ _ _)]; rfl
theorem fset_data (h : f.Form) (A' : Option Addr) (d : List Int) (c' : Nat) : (fileK f a c A3 c3).set 102 (.slice A' d.length c') = fileK { f with data := d } a c A' c' := by
  unfold fileK fileCells
  rw [show 102 = 3 + (64 + (34 + 1)) from rfl, set_mid (n := 3) _ _ rfl, set_mid (n := 64) _ _ (by rw [ints_length, h.q]), set_mid (n := 34) _ _ (tabs_len h _ _ _ _ _ _)]; rfl
theorem fset_cnt (h : f.Form) {k j : Nat} (hk : k < 2) (hj : j < 16) (x : Int) : (fileK f a c A3 c3).set (67 + 17 * k + j) (.int .i64 x) = fileK (f.setC k ((f.csT k).set j x)) a c A3 c3 := by
  unfold fileK fileCells FileL.setC FileL.csT
  have : k = 0 ∨ k = 1 := by omega
  rcases this with rfl | rfl
  · rw [show 67 + 17 * 0 + j = 3 + (64 + j) by omega, set_mid (n := 3) _ _ rfl, set_mid (n := 64) _ _ (by rw [ints_length, h.q]), set_fst _ (by rw [tabs_len h]; omega)]
    unfold tabsCells
    rw [set_fst _ (by rw [tabCells_length h.cs]; omega), tab_set_count (by rw [h.cs]; exact hj)]; rfl
  · rw [show 67 + 17 * 1 + j = 3 + (64 + (17 + j)) by omega, set_mid (n := 3) _ _ rfl, set_mid (n := 64) _ _ (by rw [ints_length, h.q]), set_fst _ (by rw [tabs_len h]; omega)]
    unfold tabsCells
    rw [set_mid (n := 17) _ _ (tabCells_length h.cs), tab_set_count (by rw [h.cs2]; exact hj)]; rfl
theorem fset_syms (h : f.Form) {k : Nat} (hk : k < 2) (A' : Option Addr) (s : List Int) (c' : Nat) : (fileK f a c A3 c3).set (67 + 17 * k + 16) (.slice A' s.length c') = fileK (f.setS k s) (turnAt a k A') (turnAt c k c') A3 c3 := by
  unfold fileK fileCells FileL.setS
  have : k = 0 ∨ k = 1 := by omega
  rcases this with rfl | rfl
  · rw [show 67 + 17 * 0 + 16 = 3 + (64 + 16) by omega, set_mid (n := 3) _ _ rfl, set_mid (n := 64) _ _ (by rw [ints_length, h.q]), set_fst _ (by rw [tabs_len h]; omega)]
    unfold tabsCells
    rw [set_fst _ (by rw [tabCells_length h.cs]; omega), tab_set_syms h.cs]; rfl
  · rw [show 67 + 17 * 1 + 16 = 3 + (64 + (17 + 16)) by omega, set_mid (n := 3) _ _ rfl, set_mid (n := 64) _ _ (by rw [ints_length, h.q]), set_fst _ (by rw [tabs_len h]; omega)]
    unfold tabsCells
    rw [set_mid (n := 17) _ _ (tabCells_length h.cs), tab_set_syms h.cs2]; rfl
theorem get_mid {a b : List Value} {n : Nat} (i : Nat) (h : a.length = n) : (a ++ b)[n + i]? = b[i]? := by rw [List.getElem?_append_right (by omega), show n + i - a.length = i by omega]
theorem fget_tab (h : f.Form) {k j : Nat} (hk : k < 2) (hj : j < 17) : (fileK f a c A3 c3)[67 + 17 * k + j]? = (tabCells (f.csT k) (a k) (f.syT k).length (c k))[j]? := by
  unfold fileK fileCells FileL.csT FileL.syT
  have : k = 0 ∨ k = 1 := by omega
  rcases this with rfl | rfl
  · rw [show 67 + 17 * 0 + j = 3 + (64 + j) by omega, get_mid (n := 3) _ rfl, get_mid (n := 64) _ (by rw [ints_length, h.q]), List.getElem?_append_left (by rw [tabs_len h]; omega)]
    unfold tabsCells
    rw [List.getElem?_append_left (by rw [tabCells_length h.cs]; omega)]; rfl
  · rw [show 67 + 17 * 1 + j = 3 + (64 + (17 + j)) by omega, get_mid (n := 3) _ rfl, get_mid (n := 64) _ (by rw [ints_length, h.q]), List.getElem?_append_left (by rw [tabs_len h]; omega)]
    unfold tabsCells
    rw [get_mid (n := 17) _ (tabCells_length h.cs)]; rfl
theorem fget_cnt (h : f.Form) {k j : Nat} {x : Int} (hk : k < 2) (hx : (f.csT k)[j]? = some x) (hl : (f.csT k).length = 16) : (fileK f a c A3 c3)[67 + 17 * k + j]? = some (.int .i64 x) := by
  have hj : j < 16 := by have := (List.getElem?_eq_some_iff.1 hx).1; omega
  rw [fget_tab h hk (by omega)]; exact tab_count hx
theorem fget_syms (h : f.Form) {k : Nat} (hk : k < 2) (hl : (f.csT k).length = 16) : (fileK f a c A3 c3)[67 + 17 * k + 16]? = some (.slice (a k) (f.syT k).length (c k)) := by
  rw [fget_tab h hk (by omega)]; exact tabCells_last hl
theorem fget_every (h : f.Form) : (fileK f a c A3 c3)[101]? = some (.int .i64 f.every) := by
  unfold fileK fileCells
  rw [show 101 = 3 + (64 + (34 + 0)) from rfl, get_mid (n := 3) _ rfl, get_mid (n := 64) _ (by rw [ints_length, h.q]), get_mid (n := 34) _ (tabs_len h _ _ _ _ _ _)]; rfl
theorem fget_data (h : f.Form) : (fileK f a c A3 c3)[102]? = some (.slice A3 f.data.length c3) := by
  unfold fileK fileCells
  rw [show 102 = 3 + (64 + (34 + 1)) from rfl, get_mid (n := 3) _ rfl, get_mid (n := 64) _ (by rw [ints_length, h.q]), get_mid (n := 34) _ (tabs_len h _ _ _ _ _ _)]; rfl
theorem fget_q (h : f.Form) {i : Nat} {x : Int} (hx : f.q[i]? = some x) : (fileK f a c A3 c3)[3 + i]? = some (.int .i64 x) := by
  have hi : i < 64 := by have := (List.getElem?_eq_some_iff.1 hx).1; rw [h.q] at this; exact this
  unfold fileK fileCells
  rw [get_mid (n := 3) _ rfl, List.getElem?_append_left (by rw [ints_length, h.q]; exact hi)]
  exact ints_at hx
end
/-! ### what is read of the tables -/
section
variable (bs : List Int)
/-- Where table k begins. -/
def atK : Nat → Nat
  | 0 => 70
  | k + 1 => atK k + 32 + (sumW (cntN 16 (bs.drop (atK k)))).toNat
def cntK (k : Nat) : List Int := cntN 16 (bs.drop (atK bs k))
def lenK (k : Nat) : Nat := (sumW (cntK bs k)).toNat
def syK (k : Nat) : List Int := (bs.drop (atK bs k + 32)).take (lenK bs k)
/-- With k tables read. -/
def stK (k : Nat) : FileL := { noF with cs := if 0 < k then cntK bs 0 else List.replicate 16 0, syms := if 0 < k then syK bs 0 else [], cs2 := if 1 < k then cntK bs 1 else List.replicate 16 0, syms2 := if 1 < k then syK bs 1 else [] }
end
theorem atK_0 (bs : List Int) : atK bs 0 = 70 := rfl
theorem atK_next (bs : List Int) (k : Nat) : atK bs (k + 1) = atK bs k + 32 + lenK bs k := rfl
theorem cntK_length (bs : List Int) (k : Nat) : (cntK bs k).length = 16 := cntN_length _ _
theorem lenK_0 (bs : List Int) : lenK bs 0 = n1F bs := rfl
theorem atK_1 (bs : List Int) : atK bs 1 = 102 + n1F bs := rfl
theorem lenK_1 (bs : List Int) : lenK bs 1 = n2F bs := by unfold lenK cntK n2F; rw [atK_1]
theorem atK_2 (bs : List Int) : atK bs 2 = 134 + n1F bs + n2F bs := by rw [atK_next, atK_1, lenK_1]; omega
theorem stK_0 (bs : List Int) : stK bs 0 = noF := rfl
theorem stK_form (bs : List Int) (k : Nat) : (stK bs k).Form := by
  refine ⟨by simp [stK, noF], ?_, ?_⟩
  · unfold stK; simp only; split
    · exact cntK_length _ _
    · simp
  · unfold stK; simp only; split
    · exact cntK_length _ _
    · simp
theorem setC_form {f : FileL} {k : Nat} {l : List Int} (h : f.Form) (hl : l.length = 16) : (f.setC k l).Form := by
  unfold FileL.setC; split
  · exact ⟨h.q, hl, h.cs2⟩
  · exact ⟨h.q, h.cs, hl⟩
theorem setS_form {f : FileL} {k : Nat} {l : List Int} (h : f.Form) : (f.setS k l).Form := by
  unfold FileL.setS; split
  · exact ⟨h.q, h.cs, h.cs2⟩
  · exact ⟨h.q, h.cs, h.cs2⟩
theorem csT_setC {f : FileL} {k : Nat} {l : List Int} : (f.setC k l).csT k = l := by
  unfold FileL.setC FileL.csT sel2; split <;> rfl
theorem syT_setC {f : FileL} {k : Nat} {l : List Int} : (f.setC k l).syT k = f.syT k := by
  unfold FileL.setC FileL.syT sel2; split <;> rfl
theorem setC_setC {f : FileL} {k : Nat} {l m : List Int} : (f.setC k l).setC k m = f.setC k m := by
  unfold FileL.setC; split <;> rfl
theorem csT_setS {f : FileL} {k : Nat} {l : List Int} : (f.setS k l).csT k = f.csT k := by
  unfold FileL.setS FileL.csT sel2; split <;> rfl
theorem syT_setS {f : FileL} {k : Nat} {l : List Int} : (f.setS k l).syT k = l := by
  unfold FileL.setS FileL.syT sel2; split <;> rfl
theorem setS_setS {f : FileL} {k : Nat} {l m : List Int} : (f.setS k l).setS k m = f.setS k m := by
  unfold FileL.setS; split <;> rfl
theorem stK_csT (bs : List Int) {k : Nat} (hk : k < 2) : (stK bs k).csT k = List.replicate 16 0 := by
  have : k = 0 ∨ k = 1 := by omega
  rcases this with rfl | rfl <;> rfl
theorem stK_syT (bs : List Int) {k : Nat} (hk : k < 2) : (stK bs k).syT k = [] := by
  have : k = 0 ∨ k = 1 := by omega
  rcases this with rfl | rfl <;> rfl
theorem setC_same {f : FileL} {k : Nat} : f.setC k (f.csT k) = f := by
  unfold FileL.setC FileL.csT sel2; split <;> rfl
theorem setS_same {f : FileL} {k : Nat} : f.setS k (f.syT k) = f := by
  unfold FileL.setS FileL.syT sel2; split <;> rfl
theorem stK_next (bs : List Int) {k : Nat} (hk : k < 2) : ((stK bs k).setC k (cntK bs k)).setS k (syK bs k) = stK bs (k + 1) := by
  have : k = 0 ∨ k = 1 := by omega
  rcases this with rfl | rfl <;> rfl
/-- Counts read so far. -/
def partC (l : List Int) (j : Nat) : List Int := l.take j ++ List.replicate (16 - j) 0
theorem partC_length {l : List Int} {j : Nat} (h : l.length = 16) (hj : j ≤ 16) : (partC l j).length = 16 := by unfold partC; rw [List.length_append, List.length_take, List.length_replicate]; omega
theorem partC_0 (l : List Int) : partC l 0 = List.replicate 16 0 := by simp [partC]
theorem partC_16 {l : List Int} (h : l.length = 16) : partC l 16 = l := by unfold partC; rw [List.take_of_length_le (by omega)]; simp
theorem partC_next {l : List Int} {j : Nat} {x : Int} (h : l[j]? = some x) (hl : l.length = 16) : (partC l j).set j x = partC l (j + 1) := by
  have hj : j < 16 := by have := (List.getElem?_eq_some_iff.1 h).1; omega
  unfold partC
  rw [List.set_append_right _ _ (by rw [List.length_take]; omega), List.length_take, Nat.min_eq_left (by omega), Nat.sub_self, take_snoc h, List.append_assoc]
  congr 1
  rw [show 16 - j = (16 - (j + 1)) + 1 by omega, List.replicate_succ]; rfl
theorem partC_at {l : List Int} {j : Nat} (hl : l.length = 16) (hj : j < 16) : (partC l j)[j]? = some 0 := by
  unfold partC
  rw [List.getElem?_append_right (by rw [List.length_take]; omega), List.length_take, Nat.min_eq_left (by omega), Nat.sub_self, List.getElem?_replicate, if_pos (by omega)]
theorem cntK_at {bs : List Int} {k j : Nat} {x y : Int} (hj : j < 16) (hx : bs[atK bs k + 2 * j]? = some x) (hy : bs[atK bs k + 2 * j + 1]? = some y) : (cntK bs k)[j]? = some (256 * x + y) := by
  unfold cntK cntN
  rw [List.getElem?_map, List.getElem?_range hj]
  simp only [Option.map_some, Option.some.injEq]
  rw [List.getD_eq_getElem?_getD, List.getD_eq_getElem?_getD, List.getElem?_drop, List.getElem?_drop, hx, ← Nat.add_assoc, hy]; rfl
theorem shortF_iff (bs : List Int) : shortF bs ↔ bs.length < atK bs 0 + 32 ∨ bs.length < atK bs 0 + 32 + lenK bs 0 ∨ bs.length < atK bs 1 + 32 ∨ bs.length < atK bs 1 + 32 + lenK bs 1 := by
  unfold shortF
  rw [lenK_0, lenK_1, atK_0, atK_1]
  omega
/-- What Parse has when all is read. -/
theorem readF_is (bs : List Int) : readF bs = { stK bs 2 with wide := bs.getD 2 0, high := bs.getD 3 0, parts := bs.getD 4 0, every := bs.getD 5 0, q := fromK ((bs.drop 6).take 64) 64, data := bs.drop (atK bs 2) } := by
  unfold readF
  rw [atK_2]
  unfold stK syK
  rw [lenK_0, lenK_1, atK_1, atK_0]
  unfold cntK
  rw [atK_1, atK_0]
  simp only [fromL]
  rw [show 102 + n1F bs + 32 = 134 + n1F bs by omega]
  rfl
end Go.Proofs.Ytmdjhbkpekepgaa

/- Small laws for two appends in one statement (a region that draws its order): where each source lies, in whatever order. No program is named here. -/
namespace Go.Proofs.Ytmdjhbkpekepgaa
open Go.RowKit
set_option linter.unusedVariables false
set_option linter.unusedSimpArgs false
set_option maxRecDepth 100000

/-- A part of a slice, as the model cuts it. -/
def cutV (A : Option Addr) (f h c : Nat) : Value := .slice (if c = f then A else A.map (·.add f)) (h - f) (c - f)
theorem cutV_seen {w : World} {G c f h : Nat} {A : Option Addr} {k : IntKind} {bs : List Int} (hs : Seen w G A (ints k bs)) (hf : f ≤ h) (hh : h ≤ bs.length) (hc : h ≤ c) :
    ∃ A', cutV A f h c = .slice A' (h - f) (c - f) ∧ Seen w G A' (ints k ((bs.drop f).take (h - f))) := by
  refine ⟨_, rfl, ?_⟩
  by_cases hcf : c = f
  · have : h - f = 0 := by omega
    rw [this]; exact .inl rfl
  · rw [if_neg hcf]
    rcases hs with hs | ⟨g, o, rfl, hg, hcell⟩
    · have : bs = [] := by simpa [ints] using hs
      subst this
      exact .inl (by simp [ints])
    · refine .inr ⟨g, o + f, by simp [addr_add], hg, fun j u hu => ?_⟩
      have hj := (List.getElem?_eq_some_iff.1 hu).1
      rw [ints_length, List.length_take, List.length_drop] at hj
      have e : (ints k bs)[f + j]? = some u := by
        rw [← hu]; simp only [ints, List.getElem?_map, List.getElem?_take, List.getElem?_drop]
        rw [if_pos (by omega)]
      have := hcell _ _ e
      rw [← this]; congr 2; omega
end Go.Proofs.Ytmdjhbkpekepgaa

/- Parts of a slice of bytes. -/
namespace Go.Proofs.Ytmdjhbkpekepgaa
open Go.RowKit
set_option linter.unusedVariables false
set_option linter.unusedSimpArgs false
set_option maxRecDepth 100000

theorem run_cutB_to (A : Option Addr) (n c h : Nat) (h2 : h ≤ c) (u : World) : (Instr.sliceAt 30 (.slice A n c) none (some (.int .i64 (h : Int))) none).run Try.prog u = .ok (.slice A h c) u := by
  have he : Try.prog.underlying 30 = some (.slice (Try.prog.elem 30)) := by kernel_rfl
  have hz : (sizeOf (Try.prog.elem 30)).run Try.prog u = .ok 1 u := by kernel_rfl
  rw [run_sliceAt_slice _ _ _ _ _ _ he, run_slice_h _ _ _ _ _ he _ _ (by omega) (by omega), hz]
  simp [Result.andThen, sliced]
  intro _
  cases A with
  | none => rfl
  | some a => simp [Addr.add]
theorem run_cutB_end (A : Option Addr) (n c f : Nat) (h1 : f ≤ n) (u : World) : (Instr.sliceAt 30 (.slice A n c) (some (.int .i64 (f : Int))) none none).run Try.prog u = .ok (cutV A f n c) u := by
  have he : Try.prog.underlying 30 = some (.slice (Try.prog.elem 30)) := by kernel_rfl
  have hz : (sizeOf (Try.prog.elem 30)).run Try.prog u = .ok 1 u := by kernel_rfl
  rw [run_sliceAt_slice _ _ _ _ _ _ he, run_slice_l _ _ _ _ _ he _ _ (by omega) (by omega), hz]
  simp [Result.andThen, sliced, cutV]
theorem cutB_drop {w : World} {G c f : Nat} {A : Option Addr} {bs : List Int} (hs : Seen w G A (ints .u8 bs)) (hf : f ≤ bs.length) (hc : bs.length ≤ c) :
    ∃ A', cutV A f bs.length c = .slice A' (bs.drop f).length (c - f) ∧ Seen w G A' (ints .u8 (bs.drop f)) := by
  obtain ⟨A', h1, h2⟩ := cutV_seen hs hf (Nat.le_refl _) hc
  refine ⟨A', by rw [h1, List.length_drop], ?_⟩
  rwa [List.take_of_length_le (by simp)] at h2
theorem cutB_take {w : World} {G h : Nat} {A : Option Addr} {bs : List Int} (hs : Seen w G A (ints .u8 bs)) : Seen w G A (ints .u8 (bs.take h)) := hs.takeInts h
end Go.Proofs.Ytmdjhbkpekepgaa

/- Rows of bytes. -/
namespace Go.Proofs.Ytmdjhbkpekepgaa
open Go.RowKit
set_option linter.unusedVariables false
set_option linter.unusedSimpArgs false
set_option maxRecDepth 100000

theorem elem_byte : ElemOf Try.prog 30 5 1 1 := .mk' (z := .int .u8 0) Try.underlying30 (by kernel_rfl) rfl (by omega)
abbrev byteRow (v : Value) (l : List Int) : Row := intRow 5 .u8 v l
end Go.Proofs.Ytmdjhbkpekepgaa

/- No file; what Parse hands back; what is read, in memory. -/
namespace Go.Proofs.Ytmdjhbkpekepgaa
open Go.RowKit
set_option linter.unusedVariables false
set_option linter.unusedSimpArgs false
set_option maxRecDepth 100000

/-- No file's cells. -/
def noCells : List Value := fileK noF (fun _ => none) (fun _ => 0) none 0
theorem info_file {xs : List Value} (h : xs.length = 103) : (Try.prog.info? 32).map (·.size) = some xs.length := by rw [h]; kernel_rfl
theorem run_zero_file (u : World) : Sem.run Try.prog (zeroValue 32) u = .ok (.agg noCells.toArray) u := by kernel_rfl
theorem FileIn.up {f : FileL} {A : Option Addr} {c : Nat} {A2 : Option Addr} {c2 : Nat} {A3 : Option Addr} {c3 G G' : Nat} {w : World} (h : FileIn f A c A2 c2 A3 c3 G w) (hG : G ≤ G') : FileIn f A c A2 c2 A3 c3 G' w :=
  ⟨h.form, h.max, h.cap, h.bnd, h.see.up hG, h.max2, h.cap2, h.bnd2, h.see2.up hG, h.bytes, h.max3, h.cap3, h.see3.up hG⟩
theorem fileCells_one {f : FileL} {A : Option Addr} {c : Nat} {A2 : Option Addr} {c2 : Nat} {A3 : Option Addr} {c3 : Nat} : ∀ u ∈ fileCells f A c A2 c2 A3 c3, u.oneCell' = true := by
  intro u hu
  unfold fileCells tabsCells at hu
  simp only [List.mem_append, List.mem_cons, List.not_mem_nil, or_false] at hu
  rcases hu with (rfl | rfl | rfl) | hu | (hu | hu) | rfl | rfl
  · rfl
  · rfl
  · rfl
  · exact ints_one u hu
  · exact tabCells_one u hu
  · exact tabCells_one u hu
  · rfl
  · rfl
theorem noF_in (w : World) (G : Nat) : FileIn noF none 0 none 0 none 0 G w where
  form := ⟨rfl, rfl, rfl⟩
  max := Nat.zero_le _
  cap := Nat.le_refl _
  bnd := by intro x hx; rw [(List.mem_replicate.1 (show x ∈ List.replicate 16 (0 : Int) from hx)).2]; omega
  see := .inl rfl
  max2 := Nat.zero_le _
  cap2 := Nat.le_refl _
  bnd2 := by intro x hx; rw [(List.mem_replicate.1 (show x ∈ List.replicate 16 (0 : Int) from hx)).2]; omega
  see2 := .inl rfl
  bytes := fun x hx => by cases hx
  max3 := Nat.zero_le _
  cap3 := Nat.le_refl _
  see3 := .inl rfl
theorem noCells_length : noCells.length = 103 := fileCells_length ⟨rfl, rfl, rfl⟩ _ _ _ _ _ _
theorem noCells_one : ∀ u ∈ noCells, u.oneCell' = true := by
  intro u hu
  have h : noCells.all (fun u => u.oneCell') = true := by kernel_rfl
  exact List.all_eq_true.1 h u hu
/-- A slice of one's own. -/
def freshA (B : Nat) (A : Option Addr) : Prop := ∀ a, A = some a → B ≤ a.block
theorem fresh_none (B : Nat) : freshA B none := fun a h => by cases h
theorem fresh_down {B B' : Nat} {A : Option Addr} (h : freshA B A) (hB : B' ≤ B) : freshA B' A := fun a ha => Nat.le_trans hB (h a ha)
theorem row_fresh {w : World} {B : Nat} {rs : List Row} {e : TypeId} {k : IntKind} {A : Option Addr} {c : Nat} {l : List Int} (h : Owns B rs w) (hr : intRow e k (.slice A l.length c) l ∈ rs) : freshA B A := by
  obtain ⟨_, h2⟩ := h.each _ hr
  rcases h2 with h2 | ⟨g, cap, cells, hv, hB, _⟩
  · intro a ha
    have h3 : (Value.slice A l.length c) = .slice none 0 0 := h2.1
    injection h3 with h4
    rw [h4] at ha; cases ha
  · intro a ha
    have h3 : (Value.slice A l.length c) = .slice (some ⟨g, 0, none⟩) l.length cap := hv
    injection h3 with h4
    rw [h4] at ha
    injection ha with ha
    rw [← ha]; exact hB
/-- What Parse is to hand back. -/
def ParseRes (bs : List Int) (w : World) (e : Ending) (w' : World) : Prop := ∃ A1 c1 A2 c2 A3 c3, e = .returned (.tuple #[fileV (oParse bs) A1 c1 A2 c2 A3 c3, .int .i64 (eParse bs)]) ∧ FileIn (oParse bs) A1 c1 A2 c2 A3 c3 w'.heap.size w' ∧ Below w.heap.size w w' ∧ freshA w.heap.size A1 ∧ freshA w.heap.size A2 ∧ freshA w.heap.size A3
theorem parse_bad {bs : List Int} {w w' : World} {er : Int} (he : eParse bs = er) (hn : er ≠ 0) (hb : Below w.heap.size w w') : ParseRes bs w (.returned (.tuple #[.agg noCells.toArray, .int .i64 er])) w' := by
  have ho : oParse bs = noF := by unfold oParse; rw [if_neg (by rw [he]; exact hn)]
  unfold ParseRes
  rw [ho, he]
  exact ⟨none, 0, none, 0, none, 0, rfl, noF_in _ _, hb, fresh_none _, fresh_none _, fresh_none _⟩
theorem run_cutB_mid (A : Option Addr) (n c f h : Nat) (h1 : f ≤ h) (h2 : h ≤ c) (u : World) : (Instr.sliceAt 30 (.slice A n c) (some (.int .i64 (f : Int))) (some (.int .i64 (h : Int))) none).run Try.prog u = .ok (cutV A f h c) u := by
  have he : Try.prog.underlying 30 = some (.slice (Try.prog.elem 30)) := by kernel_rfl
  have hz : (sizeOf (Try.prog.elem 30)).run Try.prog u = .ok 1 u := by kernel_rfl
  rw [run_sliceAt_slice _ _ _ _ _ _ he, run_slice_lh _ _ _ _ _ he _ _ _ _ (by omega) (by omega) (by omega), hz]
  simp [Result.andThen, sliced, cutV]
theorem byteAt {w : World} {G gs os k : Nat} {bs : List Int} (h : Seen w G (some ⟨gs, os, none⟩) (ints .u8 bs)) (hk : k < bs.length) : ∃ x, bs[k]? = some x ∧ w.cell? ⟨gs, os + k, none⟩ = some (.int .u8 x) := by
  obtain ⟨x, hx⟩ := some_at hk
  obtain ⟨g2, o2, e4, _, hc⟩ := h.cell (ints_at hx)
  obtain ⟨rfl, rfl⟩ : gs = g2 ∧ os = o2 := by simpa using e4
  exact ⟨x, hx, hc⟩
/-- The rows of the tables read. -/
def prevR (a : Nat → Option Addr) (cc : Nat → Nat) (s : Nat → List Int) : Nat → List Row
  | 0 => []
  | k + 1 => intRow 3 .i64 (.slice (a k) (s k).length (cc k)) (s k) :: prevR a cc s k
theorem prevR_turn (a : Nat → Option Addr) (cc : Nat → Nat) (s : Nat → List Int) (A' : Option Addr) (c' n : Nat) : ∀ k, k ≤ n → prevR (turnAt a n A') (turnAt cc n c') s k = prevR a cc s k
  | 0, _ => rfl
  | k + 1, h => by rw [prevR, prevR, prevR_turn a cc s A' c' n k (by omega), turnAt_not _ _ (by omega), turnAt_not _ _ (by omega)]
theorem turnAt_self {α : Type} (a : Nat → α) (k : Nat) {v : α} (h : a k = v) : turnAt a k v = a := by
  funext i; unfold turnAt; split
  · rename_i h2; rw [h2, h]
  · rfl
theorem turnAt_twice {α : Type} (a : Nat → α) (k : Nat) (u v : α) : turnAt (turnAt a k u) k v = turnAt a k v := by
  funext i; unfold turnAt; split <;> rfl
theorem syK_length {bs : List Int} {k : Nat} (h : atK bs k + 32 + lenK bs k ≤ bs.length) : (syK bs k).length = lenK bs k := by
  unfold syK; rw [List.length_take, List.length_drop]; omega
/-- The tables so far are not cut off. -/
def goodTo (bs : List Int) (k : Nat) : Prop := ∀ i, i < k → atK bs i + 32 + lenK bs i ≤ bs.length
theorem parse_short {bs : List Int} (h : ¬ 91000 < bs.length) {k : Nat} (hk : k < 2) (hs : bs.length < atK bs k + 32 + lenK bs k) : eParse bs = 3 := by
  unfold eParse
  rw [if_neg h, if_pos ((shortF_iff bs).2 ?_)]
  have : k = 0 ∨ k = 1 := by omega
  rcases this with rfl | rfl
  · exact .inr (.inl hs)
  · exact .inr (.inr (.inr hs))
theorem not_short {bs : List Int} (h : goodTo bs 2) : ¬ shortF bs := by
  rw [shortF_iff]
  have h0 := h 0 (by omega)
  have h1 := h 1 (by omega)
  omega
theorem row_in {w : World} {B : Nat} {rs : List Row} {e : TypeId} {k : IntKind} {A : Option Addr} {c : Nat} {l : List Int} (h : Owns B rs w) (hr : intRow e k (.slice A l.length c) l ∈ rs) : Seen w w.heap.size A (ints k l) ∧ l.length ≤ c ∧ c ≤ maxLen := by
  obtain ⟨A2, c2, e2, hs, h1, h2⟩ := h.seen hr
  have e' : (Value.slice A l.length c) = .slice A2 l.length c2 := e2
  obtain ⟨rfl, rfl⟩ : A = A2 ∧ c = c2 := by simpa using e'
  exact ⟨hs, h1, h2⟩
theorem fresh_read {bs D : List Int} {a : Nat → Option Addr} {cc : Nat → Nat} {Ad : Option Addr} {cd B : Nat} {W : World} (h : Owns B ([byteRow (.slice Ad D.length cd) D] ++ prevR a cc (syK bs) 2) W) : freshA B (a 0) ∧ freshA B (a 1) ∧ freshA B Ad :=
  ⟨row_fresh h (show intRow 3 .i64 (.slice (a 0) (syK bs 0).length (cc 0)) (syK bs 0) ∈ _ from by simp [prevR]), row_fresh h (show intRow 3 .i64 (.slice (a 1) (syK bs 1).length (cc 1)) (syK bs 1) ∈ _ from by simp [prevR]), row_fresh h (show intRow 5 .u8 (.slice Ad D.length cd) D ∈ _ from by simp [byteRow])⟩
theorem getD_byte {l : List Int} (h : Bytes l) (i : Nat) : 0 ≤ l.getD i 0 ∧ l.getD i 0 ≤ 255 := by
  rw [List.getD_eq_getElem?_getD]
  cases hq : l[i]? with
  | none => simp
  | some x => exact h x (List.mem_of_getElem? hq)
theorem cntN_bnd {bs : List Int} (h : Bytes bs) (n m : Nat) : ∀ x ∈ cntN n (bs.drop m), 0 ≤ x ∧ x ≤ 65535 := by
  intro x hx
  obtain ⟨k, _, rfl⟩ := List.mem_map.1 hx
  have hb : Bytes (bs.drop m) := fun y hy => h y (List.mem_of_mem_drop hy)
  have h1 := getD_byte hb (2 * k)
  have h2 := getD_byte hb (2 * k + 1)
  omega
theorem read_parts (bs : List Int) : (readF bs).syms = syK bs 0 ∧ (readF bs).syms2 = syK bs 1 ∧ (readF bs).cs = cntK bs 0 ∧ (readF bs).cs2 = cntK bs 1 ∧ (readF bs).data = bs.drop (atK bs 2) := by
  rw [readF_is]; exact ⟨rfl, rfl, rfl, rfl, rfl⟩
theorem fileIn_read {bs D : List Int} {a : Nat → Option Addr} {cc : Nat → Nat} {Ad : Option Addr} {cd B : Nat} {W : World} (hby : Bytes bs) (hD : D = bs.drop (atK bs 2)) (h : Owns B ([byteRow (.slice Ad D.length cd) D] ++ prevR a cc (syK bs) 2) W) :
    FileIn (readF bs) (a 0) (cc 0) (a 1) (cc 1) Ad cd W.heap.size W := by
  obtain ⟨p1, p2, p3, p4, p5⟩ := read_parts bs
  have r0 := row_in h (show intRow 3 .i64 (.slice (a 0) (syK bs 0).length (cc 0)) (syK bs 0) ∈ _ from by simp [prevR])
  have r1 := row_in h (show intRow 3 .i64 (.slice (a 1) (syK bs 1).length (cc 1)) (syK bs 1) ∈ _ from by simp [prevR])
  have rd := row_in h (show intRow 5 .u8 (.slice Ad D.length cd) D ∈ _ from by simp [byteRow])
  have hbnd : ∀ k, ∀ x ∈ cntK bs k, -9223372036854775808 ≤ x ∧ x ≤ 9223372036854775807 := fun k x hx => by have := cntN_bnd hby 16 _ x hx; omega
  rw [← p1] at r0
  rw [← p2] at r1
  rw [hD, ← p5] at rd
  refine ⟨readF_form bs, Nat.le_trans r0.2.1 r0.2.2, r0.2.1, by rw [p3]; exact hbnd 0, r0.1, Nat.le_trans r1.2.1 r1.2.2, r1.2.1, by rw [p4]; exact hbnd 1, r1.1, ?_, Nat.le_trans rd.2.1 rd.2.2, rd.2.1, rd.1⟩
  rw [p5]; exact fun x hx => hby x (List.mem_of_mem_drop hx)
theorem parse_form {bs : List Int} (h : ¬ 91000 < bs.length) (h2 : ¬ shortF bs) (h3 : ¬ (eFile (readF bs) = 0 ∧ packF (readF bs) = bs)) : eParse bs = 4 := by
  unfold eParse; rw [if_neg h, if_neg h2, if_neg h3]
theorem parse_good {bs : List Int} (h : ¬ 91000 < bs.length) (h2 : ¬ shortF bs) (h3 : eFile (readF bs) = 0 ∧ packF (readF bs) = bs) : eParse bs = 0 := by
  unfold eParse; rw [if_neg h, if_neg h2, if_pos h3]
theorem parse_done {bs : List Int} {w w' : World} {a : Nat → Option Addr} {cc : Nat → Nat} {Ad : Option Addr} {cd : Nat} (he : eParse bs = 0) (hf : FileIn (readF bs) (a 0) (cc 0) (a 1) (cc 1) Ad cd w'.heap.size w') (hb : Below w.heap.size w w') (hf1 : freshA w.heap.size (a 0)) (hf2 : freshA w.heap.size (a 1)) (hf3 : freshA w.heap.size Ad) : ParseRes bs w (.returned (.tuple #[.agg (fileK (readF bs) a cc Ad cd).toArray, .int .i64 0])) w' := by
  have ho : oParse bs = readF bs := by unfold oParse; rw [if_pos he]
  unfold ParseRes
  rw [ho, he]
  exact ⟨a 0, cc 0, a 1, cc 1, Ad, cd, rfl, hf, hb, hf1, hf2, hf3⟩
theorem fileK_one {f : FileL} {a : Nat → Option Addr} {c : Nat → Nat} {A3 : Option Addr} {c3 : Nat} : ∀ u ∈ fileK f a c A3 c3, u.oneCell' = true := fileCells_one
end Go.Proofs.Ytmdjhbkpekepgaa

/- What file's Check, Pack and Parse are to do, as the laws use it. -/
namespace Go.Proofs.Ytmdjhbkpekepgaa
open Go.RowKit
set_option linter.unusedVariables false
set_option linter.unusedSimpArgs false
set_option maxRecDepth 100000

/-- file.Check's contract. -/
def FCheckSpec : Prop := ∀ (f : FileL) (A : Option Addr) (c : Nat) (A2 : Option Addr) (c2 : Nat) (A3 : Option Addr) (c3 G : Nat) (w : World), FileIn f A c A2 c2 A3 c3 G w → G ≤ w.heap.size →
    Calls Try.prog 9 #[fileV f A c A2 c2 A3 c3] w fun e w' => e = .returned (.int .i64 (eFile f)) ∧ Below w.heap.size w w'
/-- file.Parse's contract. -/
def FParseSpec : Prop := ∀ (bs : List Int) (A : Option Addr) (c G : Nat) (w : World), Seen w G A (ints .u8 bs) → Bytes bs → bs.length ≤ maxLen → bs.length ≤ c → G ≤ w.heap.size →
    Calls Try.prog 14 #[.slice A bs.length c] w (ParseRes bs w)
/-- Check of no file. -/
theorem noCheck_any (HK : FCheckSpec) (w : World) : Calls Try.prog 9 #[.agg noCells.toArray] w fun e w' => e = .returned (.int .i64 1) ∧ Below w.heap.size w w' := by
  have h := HK noF none 0 none 0 none 0 w.heap.size w (noF_in w _) (Nat.le_refl _)
  have e : eFile noF = 1 := if_pos (.inl (by decide))
  rw [e] at h
  exact h
end Go.Proofs.Ytmdjhbkpekepgaa

/- The reference's outside, in a text of its own. -/
namespace Go.Proofs.Ytmdjhbkpekepgaa
open Go.RowKit
set_option linter.unusedVariables false
set_option linter.unusedSimpArgs false
set_option maxRecDepth 100000

theorem out_yes (n lo hi : Int) (h : n < lo ∨ hi < n) (w : World) : Calls Try.prog 22 #[.int .i64 n, .int .i64 lo, .int .i64 hi] w fun e w' => e = .returned (.bool true) ∧ w' = w := by
  go_enter Try.func22, Try.ntmps22
  go_wp2
  all_goals (go_ret; exact ⟨ret_bool (by simp <;> omega), rfl⟩)
theorem out_no (n lo hi : Int) (h : lo ≤ n ∧ n ≤ hi) (w : World) : Calls Try.prog 22 #[.int .i64 n, .int .i64 lo, .int .i64 hi] w fun e w' => e = .returned (.bool false) ∧ w' = w := by
  go_enter Try.func22, Try.ntmps22
  go_wp2
  all_goals (go_ret; exact ⟨ret_bool (by simp <;> omega), rfl⟩)
end Go.Proofs.Ytmdjhbkpekepgaa

/- quant.Round, clamp, within, Check, checkBoth: their contracts. -/
namespace Go.Proofs.Ytmdjhbkpekepgaa
open Go.RowKit
set_option linter.unusedVariables false
set_option linter.unusedSimpArgs false
set_option maxRecDepth 100000

/-- A long load, also behind a guard that lets it run. -/
theorem wpList_load_long {P : Program} {ops : Array Oper} {rest : List Oper} {op : Oper} {a : Act} {w : World} {Q : Exit → Act → World → Prop} (hgd : Region.wanted op (yielded ops a.tmps) = true) (ty : TypeId) (x : Operand) (ho : op.op = .load ty x)
    (b o : Nat) (hx : a.eval x = .pointer (some ⟨b, o, none⟩)) (cs : List Value) (d : TypeDesc) (hc : w.rangeAt b o cs)
    (hu : P.underlying ty = some d) (hd : d.isRow = true) (hi : (P.info? ty).map (·.size) = some cs.length)
    (h : wpList P ops Q rest (a.put op.dst (.agg cs.toArray)) w) : wpList P ops Q (op :: rest) a w :=
  wpList_step fun K hK => by
    rw [if_pos hgd]
    exact wp_load_mid ty x ho b o hx cs d hc hu hd hi (hK _ _ h)
theorem inB_take {lo hi : Int} {cs : List Int} {k : Nat} {x : Int} (hx : cs[k]? = some x) (h : inB lo hi (cs.take k) = true) (h1 : lo ≤ x) (h2 : x ≤ hi) : inB lo hi (cs.take (k + 1)) = true := by
  rw [take_snoc hx]; unfold inB at *; rw [List.all_append, h]; simp [h1, h2]
theorem inB_not {lo hi : Int} {cs : List Int} {k : Nat} {x : Int} (hx : cs[k]? = some x) (h : ¬ (lo ≤ x ∧ x ≤ hi)) : badB lo hi cs = 1 := by
  unfold badB; rw [if_neg]; intro h1; exact h (inB_at h1 hx)
theorem inB_all {lo hi : Int} {cs : List Int} (hc : cs.length = 64) (h : inB lo hi (cs.take 64) = true) : badB lo hi cs = 0 := by
  rw [List.take_of_length_le (by omega)] at h; unfold badB; rw [if_pos h]
set_option maxHeartbeats 1000000 in
set_option maxRecDepth 100000 in
theorem within_any (cs : List Int) (lo hi : Int) (w : World) (hc : cs.length = 64) :
    Calls Try.prog 35 #[blkV cs, .int .i64 lo, .int .i64 hi] w fun e w' => e = .returned (.int .i64 (badB lo hi cs)) ∧ Below w.heap.size w w' := by
  have hb0 := below1 w (.cells (ints .i64 cs).toArray 23)
  have hr := range_new w (ints .i64 cs) 23
  have Hl : Hid ((ints .i64 cs).length = 64) := by show _ = _; rw [ints_length, hc]
  have Hat : Hid (∀ (k : Nat) (x : Int), cs[k]? = some x → (ints .i64 cs)[k]? = some (.int .i64 x)) := fun _ _ h => ints_at h
  obtain ⟨E, hE⟩ : ∃ E, E = badB lo hi cs := ⟨_, rfl⟩
  rw [← hE]
  have HE := veil hE; clear hE
  unfold blkV
  generalize ints .i64 cs = xs at *
  go_enter Try.func35, Try.ntmps35
  go_wp2_with (first
    | (refine wpList_load_mid rfl 23 (.tmp 3) rfl w.heap.size 0 rfl xs _ hr Try.underlying23 rfl (info_blkn Hl.out) ?_)
    | fail)
  go_loopg [10] 64 (fun gk i wr => ∃ k : Nat, gk = 64 - k ∧ k ≤ 64 ∧ i = .int .i64 (k : Int) ∧ Hid (inB lo hi (cs.take k) = true) ∧ Below w.heap.size w wr)
  case atStart => exact ⟨0, rfl, by omega, rfl, by simp [inB, Hid], hb0⟩
  case round =>
    clear hr hb0
    obtain ⟨k, rfl, hk, rfl, HI, hb⟩ := hrel
    by_cases hlt : k < 64
    · have hltz : (k : Int) < 64 := by omega
      obtain ⟨x, hx⟩ := some_at (xs := cs) (j := k) (by omega)
      have hxs := Hat.out _ _ hx
      by_cases h1 : lo ≤ x ∧ x ≤ hi
      · have h1a := h1.1
        have h1b := h1.2
        have HI2 := veil (inB_take hx HI.out h1.1 h1.2)
        clear HI hx
        go_wp2_with (first
          | (refine wpList_index_arr rfl 23 (.tmp 9) (.tmp 10) rfl 64 3 .i64 Try.underlying23 Try.underlying3 (by kernel_rfl) xs rfl .i64 k rfl (.int .i64 x) hlt hxs ?_)
          | fail)
        go_roundg (64 - (k + 1))
        case rel => exact ⟨k + 1, rfl, by omega, by go_num, HI2, hb⟩
        case measure => omega
      · have h2 := inB_not hx h1
        rw [← HE.out] at h2
        subst h2
        clear HI hx
        go_wp2_with (first
          | (refine wpList_index_arr rfl 23 (.tmp 9) (.tmp 10) rfl 64 3 .i64 Try.underlying23 Try.underlying3 (by kernel_rfl) xs rfl .i64 k rfl (.int .i64 x) hlt hxs ?_)
          | fail)
        all_goals first
          | (exfalso; omega)
          | (go_ret; exact ⟨rfl, hb⟩)
    · obtain rfl : k = 64 := by omega
      have h2 := inB_all hc HI.out
      rw [← HE.out] at h2
      subst h2
      go_wp2
      go_ret
      exact ⟨rfl, hb⟩
set_option maxHeartbeats 1000000 in
set_option maxRecDepth 100000 in
theorem qcheck_any (cs : List Int) (w : World) (hc : cs.length = 64) :
    Calls Try.prog 20 #[blkV cs] w fun e w' => e = .returned (.int .i64 (badB 1 255 cs)) ∧ Below w.heap.size w w' := by
  have hb0 := below1 w (.cells (ints .i64 cs).toArray 23)
  have hr := range_new w (ints .i64 cs) 23
  have Hl : Hid ((ints .i64 cs).length = 64) := by show _ = _; rw [ints_length, hc]
  have HC := veil (fun W => within_any cs 1 255 W hc)
  unfold blkV at *
  generalize ints .i64 cs = xs at *
  go_enter Try.func20, Try.ntmps20
  go_wp2_with (first
    | (refine wpList_load_mid rfl 23 (.tmp 1) rfl w.heap.size 0 rfl xs _ hr Try.underlying23 rfl (info_blkn Hl.out) ?_)
    | fail)
  refine (HC.out _).mono ?_
  rintro e w1 ⟨rfl, hb1⟩
  go_wp2
  go_ret
  exact ⟨rfl, hb0.trans (hb1.mono (by simp))⟩
end Go.Proofs.Ytmdjhbkpekepgaa

/- The reference's clamp and Round: their contracts. -/
namespace Go.Proofs.Ytmdjhbkpekepgaa
open Go.RowKit
set_option linter.unusedVariables false
set_option linter.unusedSimpArgs false
set_option maxRecDepth 100000

end Go.Proofs.Ytmdjhbkpekepgaa

/- The reference's BlockWithin: its contract. -/
namespace Go.Proofs.Ytmdjhbkpekepgaa
open Go.RowKit
set_option linter.unusedVariables false
set_option linter.unusedSimpArgs false
set_option maxRecDepth 100000

theorem inB_bad {lo hi : Int} {cs : List Int} {k : Nat} {x : Int} (hx : cs[k]? = some x) (h : ¬ (lo ≤ x ∧ x ≤ hi)) : inB lo hi cs = false := by
  cases e : inB lo hi cs with
  | false => rfl
  | true => exact absurd (inB_at e hx) h
set_option maxHeartbeats 1000000 in
set_option maxRecDepth 100000 in
theorem bwithin_any (cs : List Int) (lo hi : Int) (w : World) (hc : cs.length = 64) :
    Calls Try.prog 23 #[blkV cs, .int .i64 lo, .int .i64 hi] w fun e w' => e = .returned (.bool (inB lo hi cs)) ∧ Below w.heap.size w w' := by
  have hb0 := below1 w (.cells (ints .i64 cs).toArray 23)
  have hr := range_new w (ints .i64 cs) 23
  have Hl : Hid ((ints .i64 cs).length = 64) := by show _ = _; rw [ints_length, hc]
  have Hat : Hid (∀ (k : Nat) (x : Int), cs[k]? = some x → (ints .i64 cs)[k]? = some (.int .i64 x)) := fun _ _ h => ints_at h
  obtain ⟨E, hE⟩ : ∃ E, E = inB lo hi cs := ⟨_, rfl⟩
  rw [← hE]
  have HE := veil hE; clear hE
  unfold blkV
  generalize ints .i64 cs = xs at *
  go_enter Try.func23, Try.ntmps23
  go_wp2_with (first
    | (refine wpList_load_mid rfl 23 (.tmp 3) rfl w.heap.size 0 rfl xs _ hr Try.underlying23 rfl (info_blkn Hl.out) ?_)
    | fail)
  go_loopg [10] 64 (fun gk i wr => ∃ k : Nat, gk = 64 - k ∧ k ≤ 64 ∧ i = .int .i64 (k : Int) ∧ Hid (inB lo hi (cs.take k) = true) ∧ Below w.heap.size w wr)
  case atStart => exact ⟨0, rfl, by omega, rfl, by simp [inB, Hid], hb0⟩
  case round =>
    clear hr hb0
    obtain ⟨k, rfl, hk, rfl, HI, hb⟩ := hrel
    by_cases hlt : k < 64
    · have hltz : (k : Int) < 64 := by omega
      obtain ⟨x, hx⟩ := some_at (xs := cs) (j := k) (by omega)
      have hxs := Hat.out _ _ hx
      by_cases h1 : lo ≤ x ∧ x ≤ hi
      · have HI2 := veil (inB_take hx HI.out h1.1 h1.2)
        have HO := veil (out_no x lo hi h1 wr)
        clear HI hx
        go_wp2_with (first
          | (refine wpList_index_arr rfl 23 (.tmp 9) (.tmp 10) rfl 64 3 .i64 Try.underlying23 Try.underlying3 (by kernel_rfl) xs rfl .i64 k rfl (.int .i64 x) hlt hxs ?_)
          | fail)
        refine HO.out.mono ?_
        rintro e w1 ⟨rfl, rfl⟩
        go_wp2_with fail
        go_roundg (64 - (k + 1))
        case rel => exact ⟨k + 1, rfl, by omega, by go_num, HI2, hb⟩
        case measure => omega
      · have h2 := inB_bad hx h1
        have HO := veil (out_yes x lo hi (by omega) wr)
        rw [← HE.out] at h2
        subst h2
        clear HI hx
        go_wp2_with (first
          | (refine wpList_index_arr rfl 23 (.tmp 9) (.tmp 10) rfl 64 3 .i64 Try.underlying23 Try.underlying3 (by kernel_rfl) xs rfl .i64 k rfl (.int .i64 x) hlt hxs ?_)
          | fail)
        refine HO.out.mono ?_
        rintro e w1 ⟨rfl, rfl⟩
        go_wp2
        go_ret
        exact ⟨rfl, hb⟩
    · obtain rfl : k = 64 := by omega
      have h2 : inB lo hi cs = true := by have := HI.out; rw [List.take_of_length_le (by omega)] at this; exact this
      rw [← HE.out] at h2
      subst h2
      go_wp2
      go_ret
      exact ⟨rfl, hb⟩
end Go.Proofs.Ytmdjhbkpekepgaa
