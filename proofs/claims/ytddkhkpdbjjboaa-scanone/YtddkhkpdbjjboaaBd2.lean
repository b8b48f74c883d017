/- Texts shared by the claims of this seat, in one. -/
import Derived.Test.YtddkhkpdbjjboaaBd1
import Derived.Laws.MakeOwn
import Derived.Test.YtddkhkpdbjjboaaRows
import Derived.Laws.ResultCell
import Derived.ChangeKeysEq
import Derived.OpenShut
import Derived.Test.YtddkhkpdbjjboaaChecked
/- zig.Order: its contract. -/
namespace Go.Proofs.Ytddkhkpdbjjboaa
open Go.RowKit
set_option linter.unusedVariables false
set_option linter.unusedSimpArgs false
set_option maxRecDepth 100000

/-- The first s diagonals. -/
def zzTo (s : Nat) : List Int := (List.range s).flatMap diagL
/-- The zigzag order. -/
def zz : List Int := [0, 1, 8, 16, 9, 2, 3, 10, 17, 24, 32, 25, 18, 11, 4, 5, 12, 19, 26, 33, 40, 48, 41, 34, 27, 20, 13, 6, 7, 14, 21, 28, 35, 42, 49, 56, 57, 50, 43, 36, 29, 22, 15, 23, 30, 37, 44, 51, 58, 59, 52, 45, 38, 31, 39, 46, 53, 60, 61, 54, 47, 55, 62, 63]
theorem zzTo_all : zzTo 15 = zz := by decide +kernel
theorem zz_length : zz.length = 64 := rfl
theorem zzTo_succ (s : Nat) : zzTo (s + 1) = zzTo s ++ diagL s := by simp [zzTo, List.range_succ]
theorem diagL_length (s : Nat) : (diagL s).length ≤ 8 := by
  unfold diagL
  split
  · rw [List.length_reverse, ascD_length]; unfold cntD; omega
  · rw [ascD_length]; unfold cntD; omega
theorem zzTo_length (s : Nat) : (zzTo s).length ≤ 8 * s := by
  induction s with
  | zero => simp [zzTo]
  | succ s ih => rw [zzTo_succ, List.length_append]; have := diagL_length s; omega
theorem info_intZ : (Try.prog.info? 3).map (fun i => (i.zero, i.size, i.bytes)) = some (some (.int .i64 0), 1, 8) := by kernel_rfl
theorem run_make64 (u : World) : (Instr.makeSlice 23 (.int .i64 0) (.int .i64 64)).run Try.prog u =
    .ok (.slice (some ⟨u.heap.size, 0, none⟩) 0 64) (u.alloc (.cells (madeCells #[.int .i64 0] 64) 3)) := by
  obtain ⟨i0, hi, hz0, hz1, hz2⟩ := info_parts info_intZ
  have h := run_make (P := Try.prog) u 23 3 i0 (.int .i64 0) Try.underlying23 hi hz0 .i64 .i64 0 64 (by omega) (by omega) (by rw [hz2]; omega) (by omega)
  simpa [hz1, Value.cells] using h
set_option maxHeartbeats 2000000 in
set_option maxRecDepth 100000 in
theorem order_any (w : World) :
    Calls Try.prog 104 #[] w fun e w' => ∃ g c, e = .returned (.slice (some ⟨g, 0, none⟩) 64 c) ∧ Owns w.heap.size [intRow 3 .i64 (.slice (some ⟨g, 0, none⟩) 64 c) zz] w' ∧ Below w.heap.size w w' := by
  have hmk := run_make64
  have hst : Hid (Owns w.heap.size [intRow 3 .i64 (.slice (some ⟨w.heap.size, 0, none⟩) 0 64) (zzTo 0)] (w.alloc (.cells (madeCells #[.int .i64 0] 64) 3))) :=
    (Owns.start w).made 3 1 (madeCells #[.int .i64 0] 64) 64 (by unfold maxLen; omega) (size_madeCells _ _)
  generalize madeCells #[.int .i64 0] 64 = cs at *
  go_enter Try.func104, Try.ntmps104
  go_wp2
  clear hmk
  go_loopg [1, 4] 15 (fun gk v i wr => ∃ k : Nat, gk = 15 - k ∧ k ≤ 15 ∧ i = .int .i64 (k : Int) ∧ Hid (Owns w.heap.size [intRow 3 .i64 v (zzTo k)] wr) ∧ Hid (Below w.heap.size w wr))
  case atStart => exact ⟨0, rfl, by omega, rfl, hst, veil (below1 _ _)⟩
  case round =>
    clear hst
    obtain ⟨k, rfl, hk, rfl, HO, HB⟩ := hrel
    by_cases hlt : k < 15
    · have hltz : (k : Int) < 15 := by omega
      have HD := veil (fun w1 => diag_any k w1 (by omega))
      have hzl := zzTo_length k
      have hdl := diagL_length k
      have HS := veil (zzTo_succ k)
      generalize zzTo k = l at *
      generalize diagL k = d at *
      go_wp2_with fail
      refine (HD.out _).mono ?_
      rintro e w2 ⟨v2, rfl, HO2, hb2⟩
      obtain ⟨A, c, hv2, hsn, _, _⟩ := HO2.seen (List.mem_singleton.2 rfl)
      simp only [intRow] at hv2
      subst hv2
      have HO3 := (HO.out.call hb2 HO2).swap
      simp only [intRow] at hsn
      clear HD HO2
      go_wp2_with (first
        | (at_builtin; go_loud (refine wpList_ownV w2 rfl (.tmp 7) (.tmp 9) _ rfl w.heap.size 3 1 8 elemZ u1 l.length (ints .i64 l) _ rfl HO3 w2.heap.size A d.length c (ints .i64 d) rfl hsn (by rw [ints_length, Nat.mul_one]) ints_one (by unfold maxLen; omega) (by omega) ?_); intro v4 w4 HO4 hb4)
        | fail)
      go_roundg (15 - (k + 1))
      case rel => exact ⟨k + 1, rfl, by omega, by go_num, veil (by rw [HS.out, ← intRow_append]; exact HO4.swap.tail), veil ((HB.out.trans (hb2.mono HB.out.size)).trans hb4)⟩
      case measure => omega
    · obtain rfl : k = 15 := by omega
      rw [zzTo_all] at HO
      obtain ⟨g, c, rfl⟩ := own_some HO.out (by rw [zz_length]; omega)
      rw [zz_length] at HO
      go_wp2
      go_ret
      exact ⟨g, c, rfl, HO.out, HB.out⟩
end Go.Proofs.Ytddkhkpdbjjboaa

/- The order and its inverse, in numbers. -/
namespace Go.Proofs.Ytddkhkpdbjjboaa
open Go.RowKit
set_option linter.unusedVariables false
set_option linter.unusedSimpArgs false
set_option maxRecDepth 100000

/-- The numbers of a block in the order, the first k of them. -/
def toK (cs : List Int) (k : Nat) : List Int := (List.range 64).map fun i => if i < k then cs.getD (zz.getD i 0).toNat 0 else 0
/-- The block of which the first k numbers in the order are told. -/
def fromK (cs : List Int) (k : Nat) : List Int := (List.range 64).map fun (j : Nat) => if zz.idxOf (j : Int) < k then cs.getD (zz.idxOf (j : Int)) 0 else 0
def toL (cs : List Int) : List Int := toK cs 64
def fromL (cs : List Int) : List Int := fromK cs 64
theorem toK_length (cs : List Int) (k : Nat) : (toK cs k).length = 64 := by simp [toK]
theorem fromK_length (cs : List Int) (k : Nat) : (fromK cs k).length = 64 := by simp [fromK]
theorem zero64_map (f : Nat → Int) (h : ∀ i, f i = 0) : (List.range 64).map f = List.replicate 64 0 := by
  apply List.ext_getElem?
  intro i
  by_cases hi : i < 64
  · rw [List.getElem?_map, List.getElem?_range hi, List.getElem?_replicate, if_pos hi]; simp [h]
  · rw [List.getElem?_eq_none (by simp; omega), List.getElem?_eq_none (by simp; omega)]
theorem toK_zero (cs : List Int) : toK cs 0 = List.replicate 64 0 := zero64_map _ fun i => if_neg (by omega)
theorem fromK_zero (cs : List Int) : fromK cs 0 = List.replicate 64 0 := zero64_map _ fun i => if_neg (by omega)
theorem zz_at : ∀ k : Fin 64, ∃ n : Fin 64, zz[k.1]? = some ((n.1 : Nat) : Int) ∧ zz.idxOf ((n.1 : Nat) : Int) = k.1 := by decide +kernel
theorem zz_back : ∀ j : Fin 64, zz.idxOf ((j.1 : Nat) : Int) < 64 ∧ zz[zz.idxOf ((j.1 : Nat) : Int)]? = some ((j.1 : Nat) : Int) := by decide +kernel
theorem toK_next {cs : List Int} {k n : Nat} {x : Int} (hk : k < 64) (hn : zz[k]? = some (n : Int)) (hx : cs[n]? = some x) : toK cs (k + 1) = (toK cs k).set k x := by
  apply List.ext_getElem?
  intro i
  rw [List.getElem?_set]
  by_cases hi : i < 64
  · simp only [toK, List.getElem?_map, List.getElem?_range hi, List.length_map, List.length_range]
    by_cases e : k = i
    · subst e
      rw [if_pos rfl, if_pos hi]
      simp [List.getD_eq_getElem?_getD, hn, hx]
    · rw [if_neg e]
      simp only [Option.map_some, show i < k + 1 ↔ i < k by omega]
  · rw [List.getElem?_eq_none (by rw [toK_length]; omega), if_neg (by omega), List.getElem?_eq_none (by rw [toK_length]; omega)]
theorem fromK_next {cs : List Int} {k n : Nat} {x : Int} (hk : k < 64) (hn : zz[k]? = some (n : Int)) (hx : cs[k]? = some x) : fromK cs (k + 1) = (fromK cs k).set n x := by
  obtain ⟨⟨n', h64⟩, hn', hidx⟩ := zz_at ⟨k, hk⟩
  simp only at hn' hidx
  rw [hn] at hn'
  obtain rfl : n = n' := by injection hn' with hn'; omega
  apply List.ext_getElem?
  intro j
  rw [List.getElem?_set]
  by_cases hj : j < 64
  · simp only [fromK, List.getElem?_map, List.getElem?_range hj, List.length_map, List.length_range]
    by_cases e : n = j
    · subst e
      rw [if_pos rfl, if_pos hj]
      simp [List.getD_eq_getElem?_getD, hidx, hx]
    · rw [if_neg e]
      have hb := zz_back ⟨j, hj⟩
      simp only at hb
      have hne : zz.idxOf (j : Int) ≠ k := by
        intro h
        rw [h, hn] at hb
        have := hb.2
        injection this with this
        omega
      simp only [Option.map_some, show zz.idxOf (j : Int) < k + 1 ↔ zz.idxOf (j : Int) < k by omega]
  · rw [List.getElem?_eq_none (by rw [fromK_length]; omega), if_neg (by omega), List.getElem?_eq_none (by rw [fromK_length]; omega)]
theorem toL_at {cs : List Int} {k n : Nat} (hk : k < 64) (hn : zz[k]? = some (n : Int)) : (toL cs)[k]? = some (cs.getD n 0) := by
  simp only [toL, toK, List.getElem?_map, List.getElem?_range hk, Option.map_some, if_pos hk]
  simp [List.getD_eq_getElem?_getD, hn]
theorem fromL_at {cs : List Int} {j : Nat} (hj : j < 64) : (fromL cs)[j]? = some (cs.getD (zz.idxOf (j : Int)) 0) := by
  have hb := zz_back ⟨j, hj⟩
  simp only [fromL, fromK, List.getElem?_map, List.getElem?_range hj, Option.map_some, if_pos hb.1]
theorem getD_some {cs : List Int} {k : Nat} (hk : k < cs.length) : cs[k]? = some (cs.getD k 0) := by
  rw [List.getD_eq_getElem?_getD, List.getElem?_eq_getElem hk]; rfl
theorem from_to {cs : List Int} (hc : cs.length = 64) : fromL (toL cs) = cs := by
  apply List.ext_getElem?
  intro j
  by_cases hj : j < 64
  · obtain ⟨h1, h2⟩ := zz_back ⟨j, hj⟩
    simp only at h1 h2
    rw [fromL_at hj, List.getD_eq_getElem?_getD, toL_at h1 h2, getD_some (by omega)]; rfl
  · rw [List.getElem?_eq_none (by rw [fromL, fromK_length]; omega), List.getElem?_eq_none (by omega)]
theorem to_from {cs : List Int} (hc : cs.length = 64) : toL (fromL cs) = cs := by
  apply List.ext_getElem?
  intro k
  by_cases hk : k < 64
  · obtain ⟨⟨n, hn⟩, h1, h2⟩ := zz_at ⟨k, hk⟩
    simp only at h1 h2
    rw [toL_at hk h1, List.getD_eq_getElem?_getD, fromL_at hn, h2, getD_some (by omega)]; rfl
  · rw [List.getElem?_eq_none (by rw [toL, toK_length]; omega), List.getElem?_eq_none (by omega)]
end Go.Proofs.Ytddkhkpdbjjboaa

/- A block's value (64 numbers), and whether two are equal. -/
namespace Go.Proofs.Ytddkhkpdbjjboaa
open Go.RowKit
set_option linter.unusedVariables false
set_option linter.unusedSimpArgs false
set_option maxRecDepth 100000

/-- A block's value. -/
abbrev blkV (cs : List Int) : Value := .agg (ints .i64 cs).toArray
theorem info_blk : (Try.prog.info? 42).map (·.size) = some 64 := by kernel_rfl
theorem info_blkn {xs : List Value} (h : xs.length = 64) : (Try.prog.info? 42).map (·.size) = some xs.length := by rw [h]; exact info_blk
end Go.Proofs.Ytddkhkpdbjjboaa

/- The zero block, three blocks just laid, a block and a code handed back: what the walks over blocks share. -/
namespace Go.Proofs.Ytddkhkpdbjjboaa
open Go.RowKit
set_option linter.unusedVariables false
set_option linter.unusedSimpArgs false
set_option maxRecDepth 100000

def zeroB : List Value := ints .i64 (List.replicate 64 0)
theorem zeroB_length : zeroB.length = 64 := by simp [zeroB, ints_length]
def zero64 : List Int := List.replicate 64 0
theorem zero64_length : zero64.length = 64 := by simp [zero64]
theorem results_row_tmp {P : Program} {fn : Func} {p u : Tmp} {ty : TypeId} (h : fn.results = #[.cell p ty, .tmp u]) (tmps : Array Value) (w : World) (g : Nat) (t : TypeId) (cs : Array Value) (fr : Nat × Nat) (d : TypeDesc) (x : Value)
    (hp : tmps.getD p undef = .pointer (some ⟨g, 0, none⟩)) (hx : tmps.getD u undef = x) (hg : w.heap[g]? = some (.cells cs t fr))
    (hu : P.underlying ty = some d) (hd : (match d with | .struct _ | .array _ _ => true | _ => false) = true) (hi : (P.info? ty).map (·.size) = some cs.size) :
    (results fn tmps).run P w = .ok (.tuple #[.agg cs, x]) w := by
  rw [results_cell_tmp h, hp, hx]
  simp [asAddr, run_loadVar_row w g t ty cs fr d hg hu hd hi, Result.andThen]
/-- The three blocks that these functions lay. -/
def box3 (cs : List Int) (w : World) : World := ((w.alloc (.cells (ints .i64 cs).toArray 42)).alloc (.cells zeroB.toArray 42)).alloc (.cells zeroB.toArray 42)
theorem box3_is (cs : List Int) (w : World) : Below w.heap.size w (box3 cs w) ∧ Blk (box3 cs w) w.heap.size (ints .i64 cs) 42 ∧ Blk (box3 cs w) (w.heap.size + 1) zeroB 42 ∧ Blk (box3 cs w) (w.heap.size + 1 + 1) zeroB 42 ∧ (box3 cs w).heap.size = w.heap.size + 3 := by
  have e1 := World.size_alloc w (.cells (ints .i64 cs).toArray 42)
  have e2 := World.size_alloc (w.alloc (.cells (ints .i64 cs).toArray 42)) (.cells zeroB.toArray 42)
  have h0 := Blk.new w (ints .i64 cs) 42
  have h1 := Blk.new (w.alloc (.cells (ints .i64 cs).toArray 42)) zeroB 42
  have h2 := Blk.new ((w.alloc (.cells (ints .i64 cs).toArray 42)).alloc (.cells zeroB.toArray 42)) zeroB 42
  have b1 := below1 ((w.alloc (.cells (ints .i64 cs).toArray 42)).alloc (.cells zeroB.toArray 42)) (.cells zeroB.toArray 42)
  have b2 := below2 (w.alloc (.cells (ints .i64 cs).toArray 42)) (.cells zeroB.toArray 42) (.cells zeroB.toArray 42)
  refine ⟨below3 _ _ _ _, h0.below b2 (by omega), ?_, ?_, by simp [box3]⟩
  · have := h1.below b1 (by omega)
    rw [e1] at this; exact this
  · rw [e2, e1] at h2; exact h2
end Go.Proofs.Ytddkhkpdbjjboaa

/- Rounding and clamping in numbers; blocks made number by number. -/
namespace Go.Proofs.Ytddkhkpdbjjboaa
open Go.RowKit
set_option linter.unusedVariables false
set_option linter.unusedSimpArgs false
set_option maxRecDepth 100000

/-- All numbers within bounds. -/
def inB (lo hi : Int) (cs : List Int) : Bool := cs.all fun x => decide (lo ≤ x) && decide (x ≤ hi)
theorem inB_mem {lo hi : Int} {cs : List Int} : inB lo hi cs = true ↔ ∀ x ∈ cs, lo ≤ x ∧ x ≤ hi := by simp [inB]
theorem inB_at {lo hi : Int} {cs : List Int} (h : inB lo hi cs = true) {i : Nat} {x : Int} (hx : cs[i]? = some x) : lo ≤ x ∧ x ≤ hi := inB_mem.1 h x (List.mem_of_getElem? hx)
end Go.Proofs.Ytddkhkpdbjjboaa

/- What Tokens and Block answer, in numbers. No program is named here. -/
namespace Go.Proofs.Ytddkhkpdbjjboaa
set_option linter.unusedVariables false
set_option linter.unusedSimpArgs false
set_option maxRecDepth 100000

/-- A token's value. -/
def tokV (t : Int × Int × Int) : Value := .agg #[.int .i64 t.1, .int .i64 t.2.1, .int .i64 t.2.2]
def eT (b : Int) (cs : List Int) : Int := if -2047 ≤ b ∧ b ≤ 2047 ∧ inB (-2047) 2047 cs = true then 0 else 1
def oT (b : Int) (cs : List Int) : List (Int × Int × Int) := if eT b cs = 0 then toksZ b (toL cs) else []
theorem eT_ok {b : Int} {cs : List Int} (h1 : -2047 ≤ b) (h2 : b ≤ 2047) (h3 : inB (-2047) 2047 cs = true) : eT b cs = 0 := if_pos ⟨h1, h2, h3⟩
theorem eT_bad {b : Int} {cs : List Int} (h : ¬ (-2047 ≤ b ∧ b ≤ 2047 ∧ inB (-2047) 2047 cs = true)) : eT b cs = 1 := if_neg h
theorem oT_ok {b : Int} {cs : List Int} (h : eT b cs = 0) : oT b cs = toksZ b (toL cs) := if_pos h
theorem oT_bad {b : Int} {cs : List Int} (h : eT b cs ≠ 0) : oT b cs = [] := if_neg h
theorem toL_length (cs : List Int) : (toL cs).length = 64 := toK_length _ _
theorem fromL_length (cs : List Int) : (fromL cs).length = 64 := fromK_length _ _
theorem toL_mem {cs : List Int} (hc : cs.length = 64) {z : Int} (h : z ∈ toL cs) : z ∈ cs := by
  obtain ⟨k, hk⟩ := List.getElem?_of_mem h
  have h64 : k < 64 := by have := (List.getElem?_eq_some_iff.1 hk).1; rw [toL_length] at this; exact this
  obtain ⟨⟨n, hn⟩, h1, _⟩ := zz_at ⟨k, h64⟩
  rw [toL_at h64 h1] at hk
  injection hk with hk
  have := getD_some (cs := cs) (k := n) (by omega)
  rw [hk] at this
  exact List.mem_of_getElem? this
theorem fromL_mem {cs : List Int} (hc : cs.length = 64) {z : Int} (h : z ∈ fromL cs) : z ∈ cs := by
  obtain ⟨k, hk⟩ := List.getElem?_of_mem h
  have h64 : k < 64 := by have := (List.getElem?_eq_some_iff.1 hk).1; rw [fromL_length] at this; exact this
  rw [fromL_at h64] at hk
  injection hk with hk
  have := getD_some (cs := cs) (k := zz.idxOf (k : Int)) (by have := (zz_back ⟨k, h64⟩).1; simp only at this; omega)
  rw [hk] at this
  exact List.mem_of_getElem? this
theorem toL_in {cs : List Int} (hc : cs.length = 64) (h : inB (-2047) 2047 cs = true) : ∀ z ∈ toL cs, -2047 ≤ z ∧ z ≤ 2047 := fun z hz => inB_mem.1 h z (toL_mem hc hz)
theorem toks_len (b : Int) {zs : List Int} (h : zs.length = 64) : (toksZ b zs).length ≤ 64 := by
  match zs, h with
  | z :: zs, h =>
    have := len_rest zs 0
    rw [List.length_cons] at h
    rw [toksZ, List.length_cons]; omega
end Go.Proofs.Ytddkhkpdbjjboaa

/- The reader of a block's tokens out of any source. No program is named here. -/
namespace Go.Proofs.Ytddkhkpdbjjboaa
set_option linter.unusedVariables false
set_option linter.unusedSimpArgs false
set_option maxRecDepth 100000
section
variable {σ : Type} (step : Bool → σ → Int ⊕ ((Int × Int × Int) × σ))
/-- k numbers out of a source: an error's code, the numbers, the tokens, what is left. -/
def gR : Nat → σ → Int × List Int × List (Int × Int × Int) × Option σ
  | 0, s => (0, [], [], some s)
  | k + 1, s =>
    match step false s with
    | .inl e => (e, [], [], none)
    | .inr (t, s2) =>
      if okT t = true then
        if t.1 = 0 then (0, List.replicate (k + 1) 0, [t], some s2)
        else if k + 1 < farT t then (4, [], [], none)
        else
          let d := gR (k + 1 - farT t) s2
          if d.1 = 0 then (0, List.replicate (farT t - 1) 0 ++ numT t :: d.2.1, t :: d.2.2.1, d.2.2.2) else (d.1, [], [], none)
      else (4, [], [], none)
termination_by k => k
decreasing_by unfold farT; omega
/-- Numbers read so far, and what is still to read. -/
def joinG (pre : List Int) (all : List (Int × Int × Int)) (d : Int × List Int × List (Int × Int × Int) × Option σ) : Int × List Int × List (Int × Int × Int) × Option σ :=
  if d.1 = 0 then (0, pre ++ d.2.1, all ++ d.2.2.1, d.2.2.2) else (d.1, [], [], none)
/-- Are they the tokens of the block? -/
def finG (before : Int) (d : Int × List Int × List (Int × Int × Int) × Option σ) : Int × List Int × List (Int × Int × Int) × Option σ :=
  if d.1 = 0 then (if toksZ before d.2.1 = d.2.2.1 then d else (4, [], [], none)) else d
def firstT (before : Int) (t : Int × Int × Int) : Prop := fitT t = true ∧ t.1 = t.2.1 ∧ -2047 ≤ before + numT t ∧ before + numT t ≤ 2047
instance (before : Int) (t : Int × Int × Int) : Decidable (firstT before t) := by unfold firstT; infer_instance
/-- A block out of a source. -/
def gB (before : Int) (s : σ) : Int × List Int × List (Int × Int × Int) × Option σ :=
  match step true s with
  | .inl e => (e, [], [], none)
  | .inr (t, s2) => if firstT before t then finG before (joinG [before + numT t] [t] (gR step 63 s2)) else (4, [], [], none)
variable {step}
theorem gB_none {before e : Int} {s : σ} (h : step true s = .inl e) : gB step before s = (e, [], [], none) := by unfold gB; rw [h]
theorem gB_bad {before : Int} {t : Int × Int × Int} {s s2 : σ} (h : step true s = .inr (t, s2)) (hf : ¬ firstT before t) : gB step before s = (4, [], [], none) := by unfold gB; rw [h]; simp only []; rw [if_neg hf]
theorem gB_go {before : Int} {t : Int × Int × Int} {s s2 : σ} (h : step true s = .inr (t, s2)) (hf : firstT before t) : gB step before s = finG before (joinG [before + numT t] [t] (gR step 63 s2)) := by unfold gB; rw [h]; simp only []; rw [if_pos hf]
theorem joinG_all (pre : List Int) (all : List (Int × Int × Int)) (s : σ) : joinG pre all (gR step 0 s) = (0, pre, all, some s) := by
  rw [gR]; unfold joinG; simp
theorem joinG_none (pre : List Int) (all : List (Int × Int × Int)) {k : Nat} {s : σ} {e : Int} (hk : 0 < k) (he : e ≠ 0) (h : step false s = .inl e) : joinG pre all (gR step k s) = (e, [], [], none) := by
  obtain ⟨k, rfl⟩ : ∃ j, k = j + 1 := ⟨k - 1, by omega⟩
  rw [gR, h]; unfold joinG; simp [he]
theorem joinG_bad (pre : List Int) (all : List (Int × Int × Int)) {k : Nat} {s s2 : σ} {t : Int × Int × Int} (hk : 0 < k) (h : step false s = .inr (t, s2)) (ht : okT t = false) : joinG pre all (gR step k s) = (4, [], [], none) := by
  obtain ⟨k, rfl⟩ : ∃ j, k = j + 1 := ⟨k - 1, by omega⟩
  rw [gR, h]; simp only []; rw [if_neg (by rw [ht]; decide)]; rfl
theorem joinG_end (pre : List Int) (all : List (Int × Int × Int)) {k : Nat} {s s2 : σ} {t : Int × Int × Int} (hk : 0 < k) (h : step false s = .inr (t, s2)) (ht : okT t = true) (h0 : t.1 = 0) : joinG pre all (gR step k s) = (0, pre ++ List.replicate k 0, all ++ [t], some s2) := by
  obtain ⟨k, rfl⟩ : ∃ j, k = j + 1 := ⟨k - 1, by omega⟩
  rw [gR, h]; simp only []; rw [if_pos ht, if_pos h0]; rfl
theorem joinG_far (pre : List Int) (all : List (Int × Int × Int)) {k : Nat} {s s2 : σ} {t : Int × Int × Int} (hk : 0 < k) (h : step false s = .inr (t, s2)) (ht : okT t = true) (h0 : t.1 ≠ 0) (hf : k < farT t) : joinG pre all (gR step k s) = (4, [], [], none) := by
  obtain ⟨k, rfl⟩ : ∃ j, k = j + 1 := ⟨k - 1, by omega⟩
  rw [gR, h]; simp only []; rw [if_pos ht, if_neg h0, if_pos hf]; rfl
theorem joinG_next (pre : List Int) (all : List (Int × Int × Int)) {k : Nat} {s s2 : σ} {t : Int × Int × Int} (h : step false s = .inr (t, s2)) (ht : okT t = true) (h0 : t.1 ≠ 0) (hf : farT t ≤ k) : joinG pre all (gR step k s) = joinG (pre ++ (List.replicate (farT t - 1) 0 ++ [numT t])) (all ++ [t]) (gR step (k - farT t) s2) := by
  have hp : 0 < farT t := by unfold farT; omega
  obtain ⟨k, rfl⟩ : ∃ j, k = j + 1 := ⟨k - 1, by omega⟩
  rw [gR, h]; simp only []
  rw [if_pos ht, if_neg h0, if_neg (by omega)]
  unfold joinG
  by_cases e : (gR step (k + 1 - farT t) s2).1 = 0
  · simp only [if_pos e, if_true]
    congr 2
    · simp
    · simp
  · simp only [if_neg e]
end
/-- Tokens out of a list. -/
def stepL (_ : Bool) (l : List (Int × Int × Int)) : Int ⊕ ((Int × Int × Int) × List (Int × Int × Int)) :=
  match l with
  | [] => .inl 3
  | t :: l => .inr (t, l)
theorem gR_list : ∀ (l : List (Int × Int × Int)) (k : Nat), gR stepL k l = if (decR k l).1 = 0 then (0, (decR k l).2.1, l.take (decR k l).2.2, some (l.drop (decR k l).2.2)) else ((decR k l).1, [], [], none)
  | l, 0 => by rw [decR_zero, gR]; simp
  | [], k + 1 => by rw [decR_none, gR]; simp [stepL]
  | t :: l, k + 1 => by
    rw [gR, decR]
    simp only [stepL]
    by_cases h : okT t = true
    · rw [if_pos h, if_pos h]
      by_cases h0 : t.1 = 0
      · rw [if_pos h0, if_pos h0]; simp
      · rw [if_neg h0, if_neg h0]
        by_cases hf : k + 1 < farT t
        · rw [if_pos hf, if_pos hf]; simp
        · rw [if_neg hf, if_neg hf, gR_list l (k + 1 - farT t)]
          by_cases e : (decR (k + 1 - farT t) l).1 = 0
          · simp [e]
          · simp [e]
    · rw [if_neg h, if_neg h]; simp
end Go.Proofs.Ytddkhkpdbjjboaa

/- What run.Block answers, in numbers: as RunMath's reader, but that a symbol above 255 is no fault of its own. No program is named here. -/
namespace Go.Proofs.Ytddkhkpdbjjboaa
set_option linter.unusedVariables false
set_option linter.unusedSimpArgs false
set_option maxRecDepth 100000

/-- May a token come behind the first one? -/
def okQ (t : Int × Int × Int) : Bool := fitT t && decide (0 ≤ t.1 ∧ t.1 % 16 = t.2.1 ∧ t.2.1 ≤ 11 ∧ (t.2.1 = 0 → t.1 = 0 ∨ t.1 = 240))
/-- k numbers out of tokens: an error's code, the numbers, how many tokens were taken. -/
def decQ : Nat → List (Int × Int × Int) → Int × List Int × Nat
  | 0, _ => (0, [], 0)
  | _ + 1, [] => (3, [], 0)
  | k + 1, t :: l =>
    if okQ t = true then
      if t.1 = 0 then (0, List.replicate (k + 1) 0, 1)
      else if k + 1 < farT t then (4, [], 0)
      else
        let d := decQ (k + 1 - farT t) l
        if d.1 = 0 then (0, List.replicate (farT t - 1) 0 ++ numT t :: d.2.1, d.2.2 + 1) else (d.1, [], 0)
    else (4, [], 0)
theorem decQ_zero (l : List (Int × Int × Int)) : decQ 0 l = (0, [], 0) := by cases l <;> rfl
theorem okT_okQ {t : Int × Int × Int} (h : okT t = true) : okQ t = true := by
  unfold okT at h
  unfold okQ
  rw [Bool.and_eq_true] at h ⊢
  have h2 := of_decide_eq_true h.2
  exact ⟨h.1, decide_eq_true ⟨h2.1, h2.2.2⟩⟩
theorem okQ_fit {t : Int × Int × Int} (h : okQ t = true) : (0 ≤ t.2.1 ∧ t.2.1 ≤ 12 ∧ 0 ≤ t.2.2 ∧ t.2.2 < pw t.2.1.toNat) ∧ 0 ≤ t.1 ∧ t.1 % 16 = t.2.1 ∧ t.2.1 ≤ 11 ∧ (t.2.1 = 0 → t.1 = 0 ∨ t.1 = 240) := by
  unfold okQ at h
  rw [Bool.and_eq_true] at h
  have h1 := h.1
  unfold fitT at h1
  exact ⟨of_decide_eq_true h1, of_decide_eq_true h.2⟩
/-- The numbers of a block out of tokens. -/
def decP (before : Int) (l : List (Int × Int × Int)) : Int × List Int × Nat :=
  if before < -2047 ∨ 2047 < before then (1, [], 0) else
  match l with
  | [] => (3, [], 0)
  | t :: l =>
    if firstT before t then
      if (decQ 63 l).1 = 0 then
        if toksZ before ((before + numT t) :: (decQ 63 l).2.1) = t :: l.take (decQ 63 l).2.2 then (0, (before + numT t) :: (decQ 63 l).2.1, (decQ 63 l).2.2 + 1) else (4, [], 0)
      else ((decQ 63 l).1, [], 0)
    else (4, [], 0)
theorem decQ_used : ∀ (l : List (Int × Int × Int)) (k : Nat), (decQ k l).2.2 ≤ l.length
  | l, 0 => by rw [decQ_zero]; simp
  | [], k + 1 => by simp [decQ]
  | t :: l, k + 1 => by
    rw [decQ]
    split
    · split
      · simp
      · split
        · simp
        · simp only []
          split
          · have := decQ_used l (k + 1 - farT t); simp only [List.length_cons]; omega
          · simp
    · simp
theorem okQ_num {t : Int × Int × Int} (h : okQ t = true) : -2047 ≤ numT t ∧ numT t ≤ 2047 := by
  obtain ⟨h5, h6⟩ := okQ_fit h
  have h7 := bk_in h5.2.2.1 h5.2.2.2
  have h8 := pw_mono (a := t.2.1.toNat) (b := 11) (by omega)
  have h9 : pw 11 = 2048 := by decide
  unfold numT; omega
/-- What was read lies within its bounds. -/
theorem decQ_in : ∀ (l : List (Int × Int × Int)) (k : Nat), (decQ k l).1 = 0 → (decQ k l).2.1.length = k ∧ ∀ z ∈ (decQ k l).2.1, -2047 ≤ z ∧ z ≤ 2047
  | l, 0, h => by rw [decQ_zero]; exact ⟨rfl, by simp⟩
  | [], k + 1, h => by simp [decQ] at h
  | t :: l, k + 1, h => by
    rw [decQ] at h ⊢
    by_cases h1 : okQ t = true
    · rw [if_pos h1] at h ⊢
      by_cases h2 : t.1 = 0
      · rw [if_pos h2]
        refine ⟨by simp, fun z hz => ?_⟩
        rw [(List.mem_replicate.1 hz).2]; omega
      · rw [if_neg h2] at h ⊢
        by_cases h3 : k + 1 < farT t
        · rw [if_pos h3] at h; simp at h
        · rw [if_neg h3] at h ⊢
          simp only [] at h ⊢
          by_cases h4 : (decQ (k + 1 - farT t) l).1 = 0
          · obtain ⟨g1, g2⟩ := decQ_in l (k + 1 - farT t) h4
            rw [if_pos h4]
            have hp : 0 < farT t := by unfold farT; omega
            refine ⟨by simp only [List.length_append, List.length_replicate, List.length_cons, g1]; omega, fun z hz => ?_⟩
            rcases List.mem_append.1 hz with hz | hz
            · rw [(List.mem_replicate.1 hz).2]; omega
            · rcases List.mem_cons.1 hz with rfl | hz
              · exact okQ_num h1
              · exact g2 z hz
          · rw [if_neg h4] at h; exact absurd h h4
    · rw [if_neg h1] at h; simp at h
/-- Numbers read so far, and what is still to read: an error's code, all numbers, how many tokens. -/
def joinQ (pre : List Int) (n : Nat) (d : Int × List Int × Nat) : Int × List Int × Nat :=
  if d.1 = 0 then (0, pre ++ d.2.1, n + d.2.2) else (d.1, [], 0)
theorem joinQ_all (pre : List Int) (n : Nat) (l : List (Int × Int × Int)) : joinQ pre n (decQ 0 l) = (0, pre, n) := by
  rw [decQ_zero]; simp [joinQ]
theorem joinQ_none (pre : List Int) (n : Nat) {k : Nat} (hk : 0 < k) : joinQ pre n (decQ k []) = (3, [], 0) := by
  obtain ⟨k, rfl⟩ : ∃ j, k = j + 1 := ⟨k - 1, by omega⟩
  rfl
theorem joinQ_bad (pre : List Int) (n : Nat) {k : Nat} {t : Int × Int × Int} {l : List (Int × Int × Int)} (hk : 0 < k) (ht : okQ t = false) : joinQ pre n (decQ k (t :: l)) = (4, [], 0) := by
  obtain ⟨k, rfl⟩ : ∃ j, k = j + 1 := ⟨k - 1, by omega⟩
  rw [decQ, if_neg (by rw [ht]; decide)]; rfl
theorem joinQ_end (pre : List Int) (n : Nat) {k : Nat} {t : Int × Int × Int} {l : List (Int × Int × Int)} (hk : 0 < k) (ht : okQ t = true) (h0 : t.1 = 0) : joinQ pre n (decQ k (t :: l)) = (0, pre ++ List.replicate k 0, n + 1) := by
  obtain ⟨k, rfl⟩ : ∃ j, k = j + 1 := ⟨k - 1, by omega⟩
  rw [decQ, if_pos ht, if_pos h0]; rfl
theorem joinQ_far (pre : List Int) (n : Nat) {k : Nat} {t : Int × Int × Int} {l : List (Int × Int × Int)} (hk : 0 < k) (ht : okQ t = true) (h0 : t.1 ≠ 0) (hf : k < farT t) : joinQ pre n (decQ k (t :: l)) = (4, [], 0) := by
  obtain ⟨k, rfl⟩ : ∃ j, k = j + 1 := ⟨k - 1, by omega⟩
  rw [decQ, if_pos ht, if_neg h0, if_pos hf]; rfl
theorem joinQ_next (pre : List Int) (n : Nat) {k : Nat} {t : Int × Int × Int} {l : List (Int × Int × Int)} (ht : okQ t = true) (h0 : t.1 ≠ 0) (hf : farT t ≤ k) : joinQ pre n (decQ k (t :: l)) = joinQ (pre ++ (List.replicate (farT t - 1) 0 ++ [numT t])) (n + 1) (decQ (k - farT t) l) := by
  have hp : 0 < farT t := by unfold farT; omega
  obtain ⟨k, rfl⟩ : ∃ j, k = j + 1 := ⟨k - 1, by omega⟩
  rw [decQ, if_pos ht, if_neg h0, if_neg (by omega)]
  unfold joinQ
  by_cases e : (decQ (k + 1 - farT t) l).1 = 0
  · simp only [if_pos e, if_true]
    simp only [Prod.mk.injEq, true_and]
    exact ⟨by simp, by omega⟩
  · simp only [if_neg e]
end Go.Proofs.Ytddkhkpdbjjboaa

/- Bits of numbers, the highest first, and bytes: plain mathematics. -/
namespace Go.Proofs.Ytddkhkpdbjjboaa
set_option linter.unusedVariables false
set_option linter.unusedSimpArgs false
set_option maxRecDepth 100000

def bitsN : Nat → Nat → List Bool
  | 0, _ => []
  | w + 1, v => bitsN w (v / 2) ++ [decide (v % 2 = 1)]
def valB (l : List Bool) : Nat := l.foldl (fun n b => 2 * n + b.toNat) 0

theorem bitsN_length (w v : Nat) : (bitsN w v).length = w := by
  induction w generalizing v with
  | zero => rfl
  | succ w ih => simp [bitsN, ih]
theorem valB_snoc (l : List Bool) (b : Bool) : valB (l ++ [b]) = 2 * valB l + b.toNat := by simp [valB]
theorem valB_bitsN (w v : Nat) (h : v < 2 ^ w) : valB (bitsN w v) = v := by
  induction w generalizing v with
  | zero => simp at h; subst h; rfl
  | succ w ih =>
    rw [bitsN, valB_snoc, ih _ (by rw [Nat.pow_succ] at h; omega)]
    rcases Nat.mod_two_eq_zero_or_one v with hv | hv <;> simp [hv] <;> omega
theorem list_snoc {α : Type} (l : List α) (h : l ≠ []) : ∃ a b, l = a ++ [b] := ⟨l.dropLast, l.getLast h, (List.dropLast_concat_getLast h).symm⟩
theorem valB_lt (l : List Bool) : valB l < 2 ^ l.length := by
  suffices H : ∀ n (l : List Bool), l.length = n → valB l < 2 ^ n from H _ l rfl
  intro n
  induction n with
  | zero => intro l hl; have := List.eq_nil_of_length_eq_zero hl; subst this; decide
  | succ n ih =>
    intro l hl
    obtain ⟨a, b, rfl⟩ := list_snoc l (by intro e; subst e; simp at hl)
    have := ih a (by simpa using hl)
    rw [valB_snoc, Nat.pow_succ]
    cases b <;> simp <;> omega
theorem bitsN_valB (l : List Bool) : bitsN l.length (valB l) = l := by
  suffices H : ∀ n (l : List Bool), l.length = n → bitsN n (valB l) = l from H _ l rfl
  intro n
  induction n with
  | zero => intro l hl; have := List.eq_nil_of_length_eq_zero hl; subst this; rfl
  | succ n ih =>
    intro l hl
    obtain ⟨a, b, rfl⟩ := list_snoc l (by intro e; subst e; simp at hl)
    rw [bitsN, valB_snoc]
    have h1 : (2 * valB a + b.toNat) / 2 = valB a := by cases b <;> simp <;> omega
    have h2 : decide ((2 * valB a + b.toNat) % 2 = 1) = b := by cases b <;> simp <;> omega
    rw [h1, h2, ih a (by simpa using hl)]
theorem bitsN_inj {w a b : Nat} (ha : a < 2 ^ w) (hb : b < 2 ^ w) (h : bitsN w a = bitsN w b) : a = b := by
  rw [← valB_bitsN w a ha, ← valB_bitsN w b hb, h]
theorem bitsN_add (a b v : Nat) : bitsN (a + b) v = bitsN a (v / 2 ^ b) ++ bitsN b v := by
  induction b generalizing v with
  | zero => simp [bitsN]
  | succ b ih =>
    rw [← Nat.add_assoc, bitsN, ih, bitsN, List.append_assoc]
    congr 1
    rw [Nat.div_div_eq_div_mul, ← Nat.pow_succ', ]
theorem bitsN_mod (b v : Nat) : bitsN b (v % 2 ^ b) = bitsN b v := by
  induction b generalizing v with
  | zero => rfl
  | succ b ih =>
    rw [bitsN, bitsN]
    have h1 : v % 2 ^ (b + 1) / 2 = (v / 2) % 2 ^ b := by
      rw [Nat.pow_succ', Nat.mod_mul_right_div_self]
    have h2 : v % 2 ^ (b + 1) % 2 = v % 2 := Nat.mod_mod_of_dvd _ ⟨2 ^ b, by rw [Nat.pow_succ']⟩
    rw [h1, h2, ih]
/-- Two fields one behind the other. -/
theorem bitsN_join (a b p v : Nat) (hv : v < 2 ^ b) : bitsN (a + b) (p * 2 ^ b + v) = bitsN a p ++ bitsN b v := by
  have h1 : (p * 2 ^ b + v) / 2 ^ b = p := by
    rw [Nat.add_comm, Nat.add_mul_div_right _ _ (Nat.two_pow_pos b), Nat.div_eq_of_lt hv, Nat.zero_add]
  have h2 : (p * 2 ^ b + v) % 2 ^ b = v := by
    rw [Nat.add_comm, Nat.add_mul_mod_self_right, Nat.mod_eq_of_lt hv]
  rw [bitsN_add, h1, ← bitsN_mod b (p * 2 ^ b + v), h2]
theorem bitsN_ones (b : Nat) : bitsN b (2 ^ b - 1) = List.replicate b true := by
  induction b with
  | zero => rfl
  | succ b ih =>
    have hp := Nat.two_pow_pos b
    rw [bitsN, List.replicate_succ', Nat.pow_succ]
    have h1 : (2 ^ b * 2 - 1) / 2 = 2 ^ b - 1 := by omega
    have h2 : (2 ^ b * 2 - 1) % 2 = 1 := by omega
    rw [h1, h2, ih]; rfl

def unpack (bs : List Int) : List Bool := bs.flatMap fun x => bitsN 8 x.toNat
def Bytes (bs : List Int) : Prop := ∀ x ∈ bs, 0 ≤ x ∧ x ≤ 255
def fieldBits (l : List (Int × Int)) : List Bool := l.flatMap fun f => bitsN f.1.toNat f.2.toNat
def okF (f : Int × Int) : Prop := (0 ≤ f.1 ∧ f.1 ≤ 24) ∧ 0 ≤ f.2 ∧ f.2 < 2 ^ f.1.toNat
instance (f : Int × Int) : Decidable (okF f) := by unfold okF; infer_instance

theorem unpack_nil : unpack [] = [] := rfl
theorem unpack_append (a b : List Int) : unpack (a ++ b) = unpack a ++ unpack b := by simp [unpack]
theorem unpack_snoc (a : List Int) (x : Int) : unpack (a ++ [x]) = unpack a ++ bitsN 8 x.toNat := by simp [unpack]
theorem unpack_cons (x : Int) (a : List Int) : unpack (x :: a) = bitsN 8 x.toNat ++ unpack a := by simp [unpack]
theorem unpack_length (a : List Int) : (unpack a).length = 8 * a.length := by
  induction a with
  | nil => rfl
  | cons x a ih => rw [unpack_cons, List.length_append, bitsN_length, ih, List.length_cons]; omega
theorem Bytes.snoc {a : List Int} {x : Int} (h : Bytes a) (hx : 0 ≤ x ∧ x ≤ 255) : Bytes (a ++ [x]) := by
  intro y hy
  rcases List.mem_append.1 hy with hy | hy
  · exact h y hy
  · simp at hy; subst hy; exact hx
theorem unpack_inj : ∀ {a b : List Int}, Bytes a → Bytes b → unpack a = unpack b → a = b
  | [], [], _, _, _ => rfl
  | [], y :: b, _, _, h => by have := congrArg List.length h; simp [unpack_length] at this
  | x :: a, [], _, _, h => by have := congrArg List.length h; simp [unpack_length] at this
  | x :: a, y :: b, ha, hb, h => by
    rw [unpack_cons, unpack_cons] at h
    obtain ⟨h1, h2⟩ := List.append_inj h (by rw [bitsN_length, bitsN_length])
    have hx := ha x (by simp)
    have hy := hb y (by simp)
    have e := bitsN_inj (w := 8) (by omega) (by omega) h1
    have := unpack_inj (fun z hz => ha z (by simp [hz])) (fun z hz => hb z (by simp [hz])) h2
    rw [this]; congr 1; omega
theorem fieldBits_snoc (a : List (Int × Int)) (f : Int × Int) : fieldBits (a ++ [f]) = fieldBits a ++ bitsN f.1.toNat f.2.toNat := by simp [fieldBits]
theorem fieldBits_cons (f : Int × Int) (a : List (Int × Int)) : fieldBits (f :: a) = bitsN f.1.toNat f.2.toNat ++ fieldBits a := by simp [fieldBits]

/-- What Write answers: the error's number. -/
def writeErr (l : List (Int × Int)) : Int := if 20000 < l.length then 2 else if ∀ f ∈ l, okF f then 0 else 1
/-- What Write makes: whole bytes, the fields' bits, then ones. -/
def Written (l : List (Int × Int)) (out : List Int) : Prop :=
  (writeErr l ≠ 0 → out = []) ∧ (writeErr l = 0 → Bytes out ∧ ∃ p, p < 8 ∧ unpack out = fieldBits l ++ List.replicate p true)
theorem Written.same {l : List (Int × Int)} {a b : List Int} (ha : Written l a) (hb : Written l b) : a = b := by
  by_cases h : writeErr l = 0
  · obtain ⟨ba, p, hp, ea⟩ := ha.2 h
    obtain ⟨bb, q, hq, eb⟩ := hb.2 h
    have h1 := congrArg List.length ea
    have h2 := congrArg List.length eb
    simp [unpack_length] at h1 h2
    have : p = q := by omega
    subst this
    exact unpack_inj ba bb (ea.trans eb.symm)
  · rw [ha.1 h, hb.1 h]

/-- Numbers of given widths off a row of bits. -/
def readB : List Bool → List Int → List Int
  | _, [] => []
  | bs, w :: ws => (valB (bs.take w.toNat) : Int) :: readB (bs.drop w.toNat) ws
def sumW (ws : List Int) : Int := ws.foldr (· + ·) 0
end Go.Proofs.Ytddkhkpdbjjboaa

/- Canonical prefix codes in numbers: which counts have codewords, what these are, that none begins another. No program is named here. -/
namespace Go.Proofs.Ytddkhkpdbjjboaa
set_option linter.unusedVariables false
set_option linter.unusedSimpArgs false
set_option maxRecDepth 100000

/-- From words of k + 1 bits on, c being the next code: the lengths and codes. -/
def codesFrom : Nat → Nat → List Nat → Option (List (Nat × Nat))
  | _, _, [] => some []
  | k, c, n :: ns => if c + n ≤ 2 ^ (k + 1) - 1 then (codesFrom (k + 1) (2 * (c + n)) ns).map ((List.range n).map (fun i => (k + 1, c + i)) ++ ·) else none
def codes (ns : List Nat) : Option (List (Nat × Nat)) := codesFrom 0 0 ns

/-- What has been handed out, and what is to come. -/
def CInv (ns : List Nat) (k c : Nat) (acc : List (Nat × Nat)) : Prop := codes ns = (codesFrom k c (ns.drop k)).map (acc ++ ·) ∧ c < 2 ^ (k + 1) - 1 ∧ acc.length = (ns.take k).sum
theorem CInv.start (ns : List Nat) : CInv ns 0 0 [] := ⟨by show codesFrom 0 0 ns = _; rw [List.drop_zero]; cases h : codesFrom 0 0 ns <;> simp, by decide, rfl⟩
def wordsTo (k c i : Nat) : List (Nat × Nat) := (List.range i).map fun j => (k + 1, c + j)
theorem wordsTo_length (k c i : Nat) : (wordsTo k c i).length = i := by simp [wordsTo]
theorem wordsTo_snoc (k c i : Nat) : wordsTo k c (i + 1) = wordsTo k c i ++ [(k + 1, c + i)] := by simp [wordsTo, List.range_succ]
theorem drop_nat {ns : List Nat} {k n : Nat} (h : ns[k]? = some n) : ns.drop k = n :: ns.drop (k + 1) := by
  obtain ⟨hk, e⟩ := List.getElem?_eq_some_iff.1 h
  rw [List.drop_eq_getElem_cons hk, e]
theorem CInv.fail {ns : List Nat} {k c n : Nat} {acc : List (Nat × Nat)} (h : CInv ns k c acc) (hn : ns[k]? = some n) {i : Nat} (hi : i < n) (hc : 2 ^ (k + 1) - 1 ≤ c + i) : codes ns = none := by
  rw [h.1, drop_nat hn]
  unfold codesFrom
  rw [if_neg (by omega)]
  rfl
theorem take_sum {ns : List Nat} {k n : Nat} (h : ns[k]? = some n) : (ns.take (k + 1)).sum = (ns.take k).sum + n := by
  rw [List.take_add_one, h]; simp [List.sum_append]
theorem CInv.next {ns : List Nat} {k c n : Nat} {acc : List (Nat × Nat)} (h : CInv ns k c acc) (hn : ns[k]? = some n) (hc : c + n ≤ 2 ^ (k + 1) - 1) : CInv ns (k + 1) (2 * (c + n)) (acc ++ wordsTo k c n) := by
  refine ⟨?_, ?_, ?_⟩
  · rw [h.1, drop_nat hn]
    conv => lhs; unfold codesFrom
    rw [if_pos hc]
    cases codesFrom (k + 1) (2 * (c + n)) (ns.drop (k + 1)) <;> simp [wordsTo]
  · have : 2 ^ (k + 1 + 1) = 2 * 2 ^ (k + 1) := by rw [Nat.pow_succ]; omega
    have h2 : 0 < 2 ^ (k + 1) := Nat.pow_pos (by omega)
    omega
  · rw [List.length_append, h.2.2, wordsTo_length, take_sum hn]
theorem CInv.done {ns : List Nat} {c : Nat} {acc : List (Nat × Nat)} (h : CInv ns ns.length c acc) : codes ns = some acc := by
  rw [h.1, List.drop_length]
  simp [codesFrom]
theorem codes_length {ns : List Nat} {l : List (Nat × Nat)} (h : codes ns = some l) : l.length = ns.sum := by
  have key : ∀ (ns : List Nat) (k c : Nat) (l : List (Nat × Nat)), codesFrom k c ns = some l → l.length = ns.sum := by
    intro ns
    induction ns with
    | nil => intro k c l h; simp [codesFrom] at h; subst h; rfl
    | cons n ns ih =>
      intro k c l h
      unfold codesFrom at h
      split at h
      · cases hq : codesFrom (k + 1) (2 * (c + n)) ns with
        | none => simp [hq] at h
        | some m => simp [hq] at h; subst h; simp [ih _ _ _ hq]
      · cases h
  exact key ns 0 0 l h

/-- Each word lies right behind the one ahead; all of them leave room. -/
def Kr : Nat → List (Nat × Nat) → Prop
  | R, [] => R < 65536
  | R, p :: l => 1 ≤ p.1 ∧ p.1 ≤ 16 ∧ p.2 * 2 ^ (16 - p.1) = R ∧ (∀ q ∈ l, p.1 ≤ q.1) ∧ Kr (R + 2 ^ (16 - p.1)) l
theorem Kr.level {k : Nat} (hk : k < 16) (rest : List (Nat × Nat)) (hlong : ∀ q ∈ rest, k + 1 ≤ q.1) : ∀ (n c : Nat), Kr ((c + n) * 2 ^ (15 - k)) rest → Kr (c * 2 ^ (15 - k)) (wordsTo k c n ++ rest) := by
  intro n
  induction n with
  | zero => intro c h; simpa [wordsTo] using h
  | succ n ih =>
    intro c h
    have e : wordsTo k c (n + 1) = (k + 1, c) :: wordsTo k (c + 1) n := by
      simp only [wordsTo, List.range_succ_eq_map, List.map_cons, List.map_map, Nat.add_zero]
      congr 1
      apply List.map_congr_left
      intro j _
      simp only [Function.comp_apply, Prod.mk.injEq, true_and]
      omega
    rw [e, List.cons_append]
    refine ⟨by simp, by simp; omega, by show c * 2 ^ (16 - (k + 1)) = _; rw [show 16 - (k + 1) = 15 - k by omega], ?_, ?_⟩
    · intro q hq
      rcases List.mem_append.1 hq with hq | hq
      · simp [wordsTo] at hq
        obtain ⟨_, _, rfl⟩ := hq
        simp
      · exact hlong q hq
    · have h2 := ih (c + 1) (by rw [show c + 1 + n = c + (n + 1) by omega]; exact h)
      have e2 : c * 2 ^ (15 - k) + 2 ^ (16 - (k + 1)) = (c + 1) * 2 ^ (15 - k) := by rw [Nat.add_mul, Nat.one_mul, show 16 - (k + 1) = 15 - k by omega]
      simp only
      rw [e2]
      exact h2
def roomOf : Nat → List Nat → Nat
  | _, [] => 0
  | k, n :: ns => n * 2 ^ (15 - k) + roomOf (k + 1) ns
theorem codesFrom_kr : ∀ (ns : List Nat) (k c : Nat) (l : List (Nat × Nat)), k + ns.length = 16 → c < 2 ^ (k + 1) - 1 → codesFrom k c ns = some l → Kr (if k < 16 then c * 2 ^ (15 - k) else c / 2) l ∧ (∀ q ∈ l, k + 1 ≤ q.1) := by
  intro ns
  induction ns with
  | nil =>
    intro k c l hk hc h
    simp at hk
    subst hk
    simp [codesFrom] at h
    subst h
    refine ⟨?_, by simp⟩
    show _ < 65536
    simp only [Nat.lt_irrefl, if_false]
    have : 2 ^ (16 + 1) = 131072 := by decide
    omega
  | cons n ns ih =>
    intro k c l hk hc h
    simp at hk
    have hk16 : k < 16 := by omega
    unfold codesFrom at h
    split at h
    · rename_i hcn
      cases hq : codesFrom (k + 1) (2 * (c + n)) ns with
      | none => simp [hq] at h
      | some m =>
        simp [hq] at h
        subst h
        have hp : 2 ^ (k + 1 + 1) = 2 * 2 ^ (k + 1) := by rw [Nat.pow_succ]; omega
        have h0 : 0 < 2 ^ (k + 1) := Nat.pow_pos (by omega)
        obtain ⟨h1, h2⟩ := ih (k + 1) (2 * (c + n)) m (by omega) (by omega) hq
        have hR : (if k + 1 < 16 then 2 * (c + n) * 2 ^ (15 - (k + 1)) else 2 * (c + n) / 2) = (c + n) * 2 ^ (15 - k) := by
          split
          · rename_i h15
            rw [show 15 - k = (15 - (k + 1)) + 1 by omega, Nat.pow_succ]
            rw [Nat.mul_comm 2, Nat.mul_assoc, Nat.mul_comm 2]
          · have : k = 15 := by omega
            subst this
            simp
        rw [hR] at h1
        rw [if_pos hk16]
        refine ⟨Kr.level hk16 m (fun q hq' => by have := h2 q hq'; omega) n c h1, ?_⟩
        intro q hq'
        rcases List.mem_append.1 hq' with hq' | hq'
        · simp at hq'
          obtain ⟨_, _, rfl⟩ := hq'
          simp
        · have := h2 q hq'; omega
    · cases h
theorem codes_kr {ns : List Nat} {l : List (Nat × Nat)} (hn : ns.length = 16) (h : codes ns = some l) : Kr 0 l := by
  have := (codesFrom_kr ns 0 0 l (by omega) (by decide) h).1
  simpa using this
/-- Lengths may be just where they leave room. -/
theorem codesFrom_room : ∀ (ns : List Nat) (k c : Nat), k + ns.length = 16 → c < 2 ^ (k + 1) - 1 → ((codesFrom k c ns).isSome = true ↔ (if k < 16 then c * 2 ^ (15 - k) else c / 2) + roomOf k ns < 65536) := by
  intro ns
  induction ns with
  | nil =>
    intro k c hk hc
    simp at hk
    subst hk
    have : 2 ^ (16 + 1) = 131072 := by decide
    simp [codesFrom, roomOf]
    omega
  | cons n ns ih =>
    intro k c hk hc
    simp at hk
    have hk16 : k < 16 := by omega
    have hpp : 2 ^ (k + 1) * 2 ^ (15 - k) = 65536 := by rw [← Nat.pow_add, show k + 1 + (15 - k) = 16 by omega]
    have h0 : 0 < 2 ^ (k + 1) := Nat.pow_pos (by omega)
    rw [if_pos hk16]
    unfold codesFrom roomOf
    by_cases hcn : c + n ≤ 2 ^ (k + 1) - 1
    · rw [if_pos hcn, Option.isSome_map]
      have hp : 2 ^ (k + 1 + 1) = 2 * 2 ^ (k + 1) := by rw [Nat.pow_succ]; omega
      rw [ih (k + 1) (2 * (c + n)) (by omega) (by omega)]
      have hR : (if k + 1 < 16 then 2 * (c + n) * 2 ^ (15 - (k + 1)) else 2 * (c + n) / 2) = (c + n) * 2 ^ (15 - k) := by
        split
        · rename_i h15
          rw [show 15 - k = (15 - (k + 1)) + 1 by omega, Nat.pow_succ]
          rw [Nat.mul_comm 2, Nat.mul_assoc, Nat.mul_comm 2]
        · have : k = 15 := by omega
          subst this
          simp
      rw [hR, Nat.add_mul, Nat.add_assoc]
    · rw [if_neg hcn]
      have h1 : 2 ^ (k + 1) * 2 ^ (15 - k) ≤ (c + n) * 2 ^ (15 - k) := Nat.mul_le_mul_right _ (by omega)
      rw [Nat.add_mul] at h1
      simp
      omega
theorem codes_room {ns : List Nat} (hn : ns.length = 16) : (codes ns).isSome = true ↔ roomOf 0 ns < 65536 := by
  have := codesFrom_room ns 0 0 (by omega) (by decide)
  simpa [codes] using this

/-! ### no word begins another one -/
theorem Kr.lt {R : Nat} {l : List (Nat × Nat)} (h : Kr R l) : R < 65536 := by
  induction l generalizing R with
  | nil => exact h
  | cons p l ih => exact Nat.lt_of_le_of_lt (Nat.le_add_right _ _) (ih h.2.2.2.2)
theorem Kr.ge {R : Nat} {l : List (Nat × Nat)} (h : Kr R l) : ∀ p ∈ l, 1 ≤ p.1 ∧ p.1 ≤ 16 ∧ R ≤ p.2 * 2 ^ (16 - p.1) ∧ p.2 * 2 ^ (16 - p.1) + 2 ^ (16 - p.1) < 65536 := by
  induction l generalizing R with
  | nil => simp
  | cons q l ih =>
    obtain ⟨h1, h2, h3, h4, h5⟩ := h
    intro p hp
    rcases List.mem_cons.1 hp with rfl | hp
    · exact ⟨h1, h2, by omega, by have := h5.lt; omega⟩
    · have := ih h5 p hp
      exact ⟨this.1, this.2.1, Nat.le_trans (Nat.le_add_right _ _) this.2.2.1, this.2.2.2⟩
theorem Kr.small {R : Nat} {l : List (Nat × Nat)} (h : Kr R l) {p : Nat × Nat} (hp : p ∈ l) : p.2 + 1 < 2 ^ p.1 := by
  obtain ⟨h1, h2, h3, h4⟩ := h.ge p hp
  have e : 2 ^ p.1 * 2 ^ (16 - p.1) = 65536 := by rw [← Nat.pow_add, show p.1 + (16 - p.1) = 16 by omega]
  rcases Nat.lt_or_ge (p.2 + 1) (2 ^ p.1) with h5 | h5
  · exact h5
  · have := Nat.mul_le_mul_right (2 ^ (16 - p.1)) h5
    rw [Nat.add_mul, e] at this
    omega
/-- Of two words the later one lies behind the earlier one. -/
theorem Kr.apart {R : Nat} {l : List (Nat × Nat)} (h : Kr R l) : l.Pairwise fun p q => p.1 ≤ q.1 ∧ p.2 * 2 ^ (16 - p.1) + 2 ^ (16 - p.1) ≤ q.2 * 2 ^ (16 - q.1) := by
  induction l generalizing R with
  | nil => exact .nil
  | cons p l ih =>
    obtain ⟨h1, h2, h3, h4, h5⟩ := h
    refine List.pairwise_cons.2 ⟨fun q hq => ⟨h4 q hq, ?_⟩, ih h5⟩
    have := (h5.ge q hq).2.2.1
    omega
theorem shift_ne {a b c d : Nat} (hab : a ≤ b) (hb : b ≤ 16) (h : c * 2 ^ (16 - a) + 2 ^ (16 - a) ≤ d * 2 ^ (16 - b)) : c < d / 2 ^ (b - a) := by
  have e : 2 ^ (16 - a) = 2 ^ (b - a) * 2 ^ (16 - b) := by rw [← Nat.pow_add]; congr 1; omega
  have h0 : 0 < 2 ^ (16 - b) := Nat.pow_pos (by omega)
  have h1 : 0 < 2 ^ (b - a) := Nat.pow_pos (by omega)
  rw [e] at h
  have h2 : (c + 1) * 2 ^ (b - a) * 2 ^ (16 - b) ≤ d * 2 ^ (16 - b) := by
    rw [Nat.add_mul, Nat.add_mul, Nat.one_mul, Nat.mul_assoc]; exact h
  have h3 := Nat.le_of_mul_le_mul_right h2 h0
  have := (Nat.le_div_iff_mul_le h1).2 h3
  omega
/-- No word begins another one. -/
theorem Kr.noFront {R : Nat} {l : List (Nat × Nat)} (h : Kr R l) {i k : Nat} {p q : Nat × Nat} (hp : l[i]? = some p) (hq : l[k]? = some q) (hne : i ≠ k) (hle : p.1 ≤ q.1) : q.2 / 2 ^ (q.1 - p.1) ≠ p.2 := by
  have ha := List.pairwise_iff_getElem.1 h.apart
  obtain ⟨hi, rfl⟩ := List.getElem?_eq_some_iff.1 hp
  obtain ⟨hk, rfl⟩ := List.getElem?_eq_some_iff.1 hq
  rcases Nat.lt_or_gt_of_ne hne with hlt | hlt
  · have h1 := ha i k hi hk hlt
    have h2 := (h.ge _ (List.getElem_mem hk)).2.1
    have := shift_ne h1.1 h2 h1.2
    omega
  · have h1 := ha k i hk hi hlt
    have h2 := (h.ge _ (List.getElem_mem hi)).2.1
    have h3 : (l[i]).1 = (l[k]).1 := by omega
    have := shift_ne h1.1 h2 h1.2
    rw [h3] at this ⊢
    simp at this ⊢
    omega
/-- The bits of one begin those of another: they are one. -/
theorem Kr.bits {R : Nat} {l : List (Nat × Nat)} (h : Kr R l) {i k : Nat} {p q : Nat × Nat} (hp : l[i]? = some p) (hq : l[k]? = some q) {b : List Bool} (h1 : bitsN p.1 p.2 <+: b) (h2 : bitsN q.1 q.2 <+: b) : i = k := by
  have key : ∀ {i k : Nat} {p q : Nat × Nat}, l[i]? = some p → l[k]? = some q → bitsN p.1 p.2 <+: b → bitsN q.1 q.2 <+: b → p.1 ≤ q.1 → i = k := by
    intro i k p q hp hq h1 h2 hle
    refine Classical.byContradiction fun hne => h.noFront hp hq hne hle ?_
    have h3 : bitsN p.1 p.2 <+: bitsN q.1 q.2 := List.prefix_of_prefix_length_le h1 h2 (by rw [bitsN_length, bitsN_length]; exact hle)
    have e : bitsN q.1 q.2 = bitsN p.1 (q.2 / 2 ^ (q.1 - p.1)) ++ bitsN (q.1 - p.1) q.2 := by
      rw [← bitsN_add]; congr 1; omega
    rw [e] at h3
    have h4 := List.prefix_iff_eq_take.1 h3
    rw [List.take_left' (by rw [bitsN_length, bitsN_length])] at h4
    have hpm := h.small (List.mem_of_getElem? hp)
    have hqm := h.small (List.mem_of_getElem? hq)
    refine (bitsN_inj (by omega) ?_ h4).symm
    have h0 : 0 < 2 ^ (q.1 - p.1) := Nat.pow_pos (by omega)
    rw [Nat.div_lt_iff_lt_mul h0, ← Nat.pow_add, show p.1 + (q.1 - p.1) = q.1 by omega]
    omega
  rcases Nat.le_total p.1 q.1 with hle | hle
  · exact key hp hq h1 h2 hle
  · exact (key hq hp h2 h1 hle).symm
end Go.Proofs.Ytddkhkpdbjjboaa

/- A table's value, and whether its counts fit: the contract of table.countsMatch. -/
namespace Go.Proofs.Ytddkhkpdbjjboaa
open Go.RowKit
set_option linter.unusedVariables false
set_option linter.unusedSimpArgs false
set_option maxRecDepth 100000

/-- The cells of a table. -/
def tabCells (cs : List Int) (A : Option Addr) (n c : Nat) : List Value := ints .i64 cs ++ [.slice A n c]
/-- A table's value. -/
abbrev tabV (cs : List Int) (A : Option Addr) (n c : Nat) : Value := .agg (tabCells cs A n c).toArray
theorem tabCells_last {cs : List Int} {A : Option Addr} {n c : Nat} (h : cs.length = 16) : (tabCells cs A n c)[16]? = some (.slice A n c) := by
  unfold tabCells
  rw [List.getElem?_append_right (by rw [ints_length]; omega), ints_length, h]; rfl
theorem tabCells_length {cs : List Int} {A : Option Addr} {n c : Nat} (h : cs.length = 16) : (tabCells cs A n c).length = 17 := by
  simp [tabCells, ints_length, h]
theorem tabCells_one {cs : List Int} {A : Option Addr} {n c : Nat} : ∀ u ∈ tabCells cs A n c, u.oneCell' = true := by
  intro u hu
  rcases List.mem_append.1 hu with hu | hu
  · exact ints_one u hu
  · simp at hu; subst hu; rfl

theorem info_tab : (Try.prog.info? 25).map (·.size) = some 17 := by kernel_rfl
theorem info_arr : (Try.prog.info? 22).map (·.size) = some 16 := by kernel_rfl
theorem info_int1 : (Try.prog.info? 3).map (·.size) = some 1 := by kernel_rfl

/-- The counts are numbers whose sum fits the symbols. -/
def Good (cs : List Int) (n : Nat) : Prop := (∀ x ∈ cs, 0 ≤ x) ∧ sumW cs ≤ 256 ∧ sumW cs = n
instance (cs : List Int) (n : Nat) : Decidable (Good cs n) := by unfold Good; infer_instance
def goodB (cs : List Int) (n : Nat) : Bool := decide (Good cs n)
theorem goodB_no {cs : List Int} {n : Nat} (h : ¬ Good cs n) : goodB cs n = false := decide_eq_false h
theorem goodB_iff {cs : List Int} {n : Nat} : goodB cs n = true ↔ Good cs n := decide_eq_true_iff
theorem sumW_app (a b : List Int) : sumW (a ++ b) = sumW a + sumW b := by
  induction a with
  | nil => simp [sumW]
  | cons x a ih => simp [sumW] at ih ⊢; omega
theorem sumW_pos (ws : List Int) (h : ∀ x ∈ ws, 0 ≤ x) : 0 ≤ sumW ws := by
  induction ws with
  | nil => simp [sumW]
  | cons x a ih => have h1 := h x (by simp); have h2 := ih fun y hy => h y (by simp [hy]); simp [sumW] at h2 ⊢; omega
theorem good_stop {cs : List Int} {n k : Nat} {x : Int} (hx : cs[k]? = some x) (h : x < 0 ∨ 256 - sumW (cs.take k) < x) : ¬ Good cs n := by
  rintro ⟨h1, h2, h3⟩
  have h4 := h1 x (List.mem_of_getElem? hx)
  have e : sumW cs = sumW (cs.take k) + x + sumW (cs.drop (k + 1)) := by
    conv => lhs; rw [← List.take_append_drop (k + 1) cs, sumW_app, take_snoc hx, sumW_app]
    simp [sumW]
  have h5 := sumW_pos (cs.drop (k + 1)) fun y hy => h1 y (List.mem_of_mem_drop hy)
  omega
theorem sumW_take {cs : List Int} {k : Nat} {x : Int} (hx : cs[k]? = some x) : sumW (cs.take (k + 1)) = sumW (cs.take k) + x := by
  rw [take_snoc hx, sumW_app]; simp [sumW]

theorem mem_snoc {α : Type} {p : α → Prop} {l : List α} {k : Nat} {x : α} (hx : l[k]? = some x) (h : ∀ y ∈ l.take k, p y) (h2 : p x) : ∀ y ∈ l.take (k + 1), p y := by
  intro y hy
  rw [take_snoc hx] at hy
  rcases List.mem_append.1 hy with hy | hy
  · exact h y hy
  · simp at hy; subst hy; exact h2
set_option maxHeartbeats 1000000 in
theorem countsMatch_any (cs : List Int) (A : Option Addr) (n c : Nat) (w : World) (hcs : cs.length = 16) (hn : n ≤ maxLen) (hb : ∀ x ∈ cs, -9223372036854775808 ≤ x ∧ x ≤ 9223372036854775807) :
    Calls Try.prog 64 #[tabV cs A n c] w fun e w' => e = .returned (.bool (goodB cs n)) ∧ Below w.heap.size w w' := by
  have h16 : (tabCells cs A n c)[16]? = some (.slice A n c) := tabCells_last hcs
  have hlt : w.heap.size < (w.alloc (.cells (tabCells cs A n c).toArray 25)).heap.size := by simp
  have hr : Hid (∀ xs, xs = tabCells cs A n c → (w.alloc (.cells xs.toArray 25)).rangeAt w.heap.size 0 (ints .i64 cs)) := by
    show ∀ xs, _
    intro xs e
    subst e
    exact range_left (range_new w _ _)
  unfold maxLen at hn
  have Hb := veil hb
  have Hcs := veil hcs
  have he : Hid (∀ xs, xs = tabCells cs A n c → xs = tabCells cs A n c) := fun _ h => h
  clear hb hcs
  obtain ⟨xs, hxs⟩ : ∃ xs, xs = tabCells cs A n c := ⟨_, rfl⟩
  have Hr := veil (hr.out xs hxs)
  unfold tabV
  rw [← hxs] at h16 ⊢
  clear hr hxs he hlt
  go_enter Try.func64, Try.ntmps64
  go_wp2_with (first
    | (refine wpList_load_mid rfl 22 (.tmp 6) rfl w.heap.size 0 rfl (ints .i64 cs) _ Hr.out Try.underlying22 rfl (by rw [ints_length, Hcs.out]; exact info_arr) ?_)
    | fail)
  go_loopg [3, 5, 8] 16 (fun gk s x i wr => ∃ k : Nat, gk = 16 - k ∧ k ≤ 16 ∧ i = .int .i64 k ∧ (∃ z : Int, s = .int .i64 z ∧ Hid (z = sumW (cs.take k)) ∧ 0 ≤ z ∧ z ≤ 256) ∧ Hid (∀ x ∈ cs.take k, 0 ≤ x) ∧ wr.cell? ⟨w.heap.size, 16, none⟩ = some (.slice A n c) ∧ Below w.heap.size w wr)
  case atStart => exact ⟨0, rfl, by omega, rfl, ⟨0, rfl, veil rfl, by omega, by omega⟩, veil (by simp), by rw [World.cell?_alloc_at _ _ _ _ rfl]; simpa using h16, below1 _ _⟩
  case round =>
    obtain ⟨k, rfl, hk, rfl, ⟨z, rfl, Hz, hz0, hz1⟩, Hp, h17, hbel⟩ := hrel
    by_cases hlt : k < 16
    · obtain ⟨x, hx⟩ := some_at (xs := cs) (j := k) (by rw [Hcs.out]; omega)
      have hxb := Hb.out x (List.mem_of_getElem? hx)
      have Hx := veil hx; clear hx
      by_cases h0 : x < 0
      · go_wp2_with (first
          | (refine wpList_index_arr rfl 22 (.tmp 7) (.tmp 8) rfl 16 3 .i64 Try.underlying22 Try.underlying3 info_int1 (ints .i64 cs) rfl .i64 k rfl (.int .i64 x) hlt (ints_at Hx.out) ?_)
          | fail)
        go_ret
        exact ⟨ret_bool (goodB_no (good_stop (n := n) Hx.out (.inl h0))).symm, hbel⟩
      · by_cases h1 : 256 - z < x
        · go_wp2_with (first
            | (refine wpList_index_arr rfl 22 (.tmp 7) (.tmp 8) rfl 16 3 .i64 Try.underlying22 Try.underlying3 info_int1 (ints .i64 cs) rfl .i64 k rfl (.int .i64 x) hlt (ints_at Hx.out) ?_)
            | fail)
          go_ret
          exact ⟨ret_bool (goodB_no (good_stop (n := n) Hx.out (.inr (by rw [← Hz.out]; exact h1)))).symm, hbel⟩
        · have hw : IntKind.i64.wrap (z + x) = z + x := by rw [IntKind.wrap_i64]; omega
          go_wp2_with (first
            | (refine wpList_index_arr rfl 22 (.tmp 7) (.tmp 8) rfl 16 3 .i64 Try.underlying22 Try.underlying3 info_int1 (ints .i64 cs) rfl .i64 k rfl (.int .i64 x) hlt (ints_at Hx.out) ?_)
            | fail)
          go_roundg (16 - (k + 1))
          case rel => exact ⟨k + 1, rfl, by omega, by go_num, ⟨z + x, by go_num, veil (by rw [sumW_take Hx.out, ← Hz.out]), by omega, by omega⟩, veil (mem_snoc Hx.out Hp.out (by omega)), h17, hbel⟩
          case measure => omega
    · obtain rfl : k = 16 := by omega
      go_wp2
      go_ret
      refine ⟨ret_bool ?_, hbel⟩
      rw [Bool.eq_iff_iff, goodB_iff]
      have e : cs.take 16 = cs := by rw [List.take_of_length_le]; rw [Hcs.out]; omega
      have h3 := Hp.out
      have h4 := Hz.out
      rw [e] at h3 h4
      simp only [beq_iff_eq]
      constructor
      · intro h5; exact ⟨h3, by omega, by omega⟩
      · intro h5; have := h5.2.2; omega
end Go.Proofs.Ytddkhkpdbjjboaa
