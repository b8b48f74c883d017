/- Texts shared by the claims of this seat, in one. -/
import Derived.Test.YtbboakdfnjjddaaBd4
import Derived.Test.YtbboakdfnjjddaaRows
import Derived.Laws.ResultCell
import Derived.ChangeKeysEq
import Derived.OpenShut
import Derived.Test.YtbboakdfnjjddaaBd3
import Derived.Test.YtbboakdfnjjddaaBd1
import Derived.Laws.StructEq
import Derived.Deep.Cut
/- The order and its inverse, in numbers. -/
namespace Go.Proofs.Ytbboakdfnjjddaa
open Go.RowKit
set_option linter.unusedVariables false
set_option linter.unusedSimpArgs false
set_option maxRecDepth 100000

/-- The numbers of a block in the order, the first k of them. -/
def toK (cs : List Int) (k : Nat) : List Int := (List.range 64).map fun i => if i < k then cs.getD (zz.getD i 0).toNat 0 else 0
/-- The block of which the first k numbers in the order are told. -/
def fromK (cs : List Int) (k : Nat) : List Int := (List.range 64).map fun (j : Nat) => if zz.idxOf (j : Int) < k then cs.getD (zz.idxOf (j : Int)) 0 else 0
def toL (cs : List Int) : List Int := toK cs 64
def fromL (cs : List Int) : List Int := fromK cs 64
theorem toK_length (cs : List Int) (k : Nat) : (toK cs k).length = 64 := by simp [toK]
theorem fromK_length (cs : List Int) (k : Nat) : (fromK cs k).length = 64 := by simp [fromK]
theorem zero64_map (f : Nat → Int) (h : ∀ i, f i = 0) : (List.range 64).map f = List.replicate 64 0 := by
  apply List.ext_getElem?
  intro i
  by_cases hi : i < 64
  · rw [List.getElem?_map, List.getElem?_range hi, List.getElem?_replicate, if_pos hi]; simp [h]
  · rw [List.getElem?_eq_none (by simp; omega), List.getElem?_eq_none (by simp; omega)]
theorem toK_zero (cs : List Int) : toK cs 0 = List.replicate 64 0 := zero64_map _ fun i => if_neg (by omega)
theorem fromK_zero (cs : List Int) : fromK cs 0 = List.replicate 64 0 := zero64_map _ fun i => if_neg (by omega)
theorem zz_at : ∀ k : Fin 64, ∃ n : Fin 64, zz[k.1]? = some ((n.1 : Nat) : Int) ∧ zz.idxOf ((n.1 : Nat) : Int) = k.1 := by decide +kernel
theorem zz_back : ∀ j : Fin 64, zz.idxOf ((j.1 : Nat) : Int) < 64 ∧ zz[zz.idxOf ((j.1 : Nat) : Int)]? = some ((j.1 : Nat) : Int) := by decide +kernel
theorem toK_next {cs : List Int} {k n : Nat} {x : Int} (hk : k < 64) (hn : zz[k]? = some (n : Int)) (hx : cs[n]? = some x) : toK cs (k + 1) = (toK cs k).set k x := by
  apply List.ext_getElem?
  intro i
  rw [List.getElem?_set]
  by_cases hi : i < 64
  · simp only [toK, List.getElem?_map, List.getElem?_range hi, List.length_map, List.length_range]
    by_cases e : k = i
    · subst e
      rw [if_pos rfl, if_pos hi]
      simp [List.getD_eq_getElem?_getD, hn, hx]
    · rw [if_neg e]
      simp only [Option.map_some, show i < k + 1 ↔ i < k by omega]
  · rw [List.getElem?_eq_none (by rw [toK_length]; omega), if_neg (by omega), List.getElem?_eq_none (by rw [toK_length]; omega)]
theorem fromK_next {cs : List Int} {k n : Nat} {x : Int} (hk : k < 64) (hn : zz[k]? = some (n : Int)) (hx : cs[k]? = some x) : fromK cs (k + 1) = (fromK cs k).set n x := by
  obtain ⟨⟨n', h64⟩, hn', hidx⟩ := zz_at ⟨k, hk⟩
  simp only at hn' hidx
  rw [hn] at hn'
  obtain rfl : n = n' := by injection hn' with hn'; omega
  apply List.ext_getElem?
  intro j
  rw [List.getElem?_set]
  by_cases hj : j < 64
  · simp only [fromK, List.getElem?_map, List.getElem?_range hj, List.length_map, List.length_range]
    by_cases e : n = j
    · subst e
      rw [if_pos rfl, if_pos hj]
      simp [List.getD_eq_getElem?_getD, hidx, hx]
    · rw [if_neg e]
      have hb := zz_back ⟨j, hj⟩
      simp only at hb
      have hne : zz.idxOf (j : Int) ≠ k := by
        intro h
        rw [h, hn] at hb
        have := hb.2
        injection this with this
        omega
      simp only [Option.map_some, show zz.idxOf (j : Int) < k + 1 ↔ zz.idxOf (j : Int) < k by omega]
  · rw [List.getElem?_eq_none (by rw [fromK_length]; omega), if_neg (by omega), List.getElem?_eq_none (by rw [fromK_length]; omega)]
theorem toL_at {cs : List Int} {k n : Nat} (hk : k < 64) (hn : zz[k]? = some (n : Int)) : (toL cs)[k]? = some (cs.getD n 0) := by
  simp only [toL, toK, List.getElem?_map, List.getElem?_range hk, Option.map_some, if_pos hk]
  simp [List.getD_eq_getElem?_getD, hn]
theorem fromL_at {cs : List Int} {j : Nat} (hj : j < 64) : (fromL cs)[j]? = some (cs.getD (zz.idxOf (j : Int)) 0) := by
  have hb := zz_back ⟨j, hj⟩
  simp only [fromL, fromK, List.getElem?_map, List.getElem?_range hj, Option.map_some, if_pos hb.1]
theorem getD_some {cs : List Int} {k : Nat} (hk : k < cs.length) : cs[k]? = some (cs.getD k 0) := by
  rw [List.getD_eq_getElem?_getD, List.getElem?_eq_getElem hk]; rfl
theorem to_from {cs : List Int} (hc : cs.length = 64) : toL (fromL cs) = cs := by
  apply List.ext_getElem?
  intro k
  by_cases hk : k < 64
  · obtain ⟨⟨n, hn⟩, h1, h2⟩ := zz_at ⟨k, hk⟩
    simp only at h1 h2
    rw [toL_at hk h1, List.getD_eq_getElem?_getD, fromL_at hn, h2, getD_some (by omega)]; rfl
  · rw [List.getElem?_eq_none (by rw [toL, toK_length]; omega), List.getElem?_eq_none (by omega)]
end Go.Proofs.Ytbboakdfnjjddaa

/- A block's value (64 numbers), and whether two are equal. -/
namespace Go.Proofs.Ytbboakdfnjjddaa
open Go.RowKit
set_option linter.unusedVariables false
set_option linter.unusedSimpArgs false
set_option maxRecDepth 100000

/-- A block's value. -/
abbrev blkV (cs : List Int) : Value := .agg (ints .i64 cs).toArray
theorem info_blk : (Try.prog.info? 47).map (·.size) = some 64 := by kernel_rfl
theorem info_blkn {xs : List Value} (h : xs.length = 64) : (Try.prog.info? 47).map (·.size) = some xs.length := by rw [h]; exact info_blk
theorem run_eqItems_ints {P : Program} (w : World) (d : Nat) {e : TypeId} {k : IntKind} (he : P.underlying e = some (.int k)) (hp : P.plainKey e = true) (cs ds : List Int) : ∀ (is : List Nat), (∀ i ∈ is, i < cs.length ∧ i < ds.length) →
    (Op.eqItems (d + 1) e 1 (ints k cs).toArray (ints k ds).toArray is).run P w = .ok (decide (∀ i ∈ is, cs[i]? = ds[i]?)) w
  | [], _ => by simp [Op.eqItems]
  | i :: is, h => by
    obtain ⟨h1, h2⟩ := h i (by simp)
    obtain ⟨x, hx⟩ := some_at h1
    obtain ⟨y, hy⟩ := some_at h2
    have p1 : (part e (ints k cs).toArray (i * 1)).run P w = .ok (.int k x) w := run_part_plain w hp (by simpa using ints_at (k := k) hx)
    have p2 : (part e (ints k ds).toArray (i * 1)).run P w = .ok (.int k y) w := run_part_plain w hp (by simpa using ints_at (k := k) hy)
    have ih := run_eqItems_ints w d he hp cs ds is fun j hj => h j (by simp [hj])
    simp only [Op.eqItems, Sem.run_bind, p1, p2, Result.andThen_ok, run_equalIn_int w d e k k x y he]
    by_cases hxy : x = y
    · subst hxy
      simp only [beq_self_eq_true, Bool.not_true, Bool.false_eq_true, if_false, ih]
      congr 1
      simp only [decide_eq_decide]
      constructor
      · intro h j hj
        rcases List.mem_cons.1 hj with rfl | hj
        · rw [hx, hy]
        · exact h j hj
      · intro h j hj; exact h j (by simp [hj])
    · have hb : (x == y) = false := by simpa using hxy
      simp only [hb, Bool.not_false, if_true, Sem.run_pure]
      congr 1
      symm
      simp only [decide_eq_false_iff_not]
      intro h3
      have := h3 i (by simp)
      rw [hx, hy] at this
      exact hxy (by injection this)
theorem ext64 {cs ds : List Int} (hc : cs.length = 64) (hd : ds.length = 64) : (∀ i ∈ List.range 64, cs[i]? = ds[i]?) ↔ cs = ds := by
  constructor
  · intro h
    apply List.ext_getElem?
    intro i
    by_cases hi : i < 64
    · exact h i (List.mem_range.2 hi)
    · rw [List.getElem?_eq_none (by omega), List.getElem?_eq_none (by omega)]
  · rintro rfl i _; rfl
/-- Two blocks compared. -/
theorem blk_eql (cs ds : List Int) (hc : cs.length = 64) (hd : ds.length = 64) (u : World) : (binOp .eql 47 (blkV cs) (blkV ds)).run Try.prog u = .ok (.bool (decide (cs = ds))) u := by
  cases hi : Try.prog.info? 3 with
  | none => have : (Try.prog.info? 3).isSome = true := by kernel_rfl
            rw [hi] at this; cases this
  | some inf =>
    have hc1 : Try.prog.cellsOf 3 = 1 := by kernel_rfl
    rw [run_eql_struct u 47, show (10000 : Nat) = 9998 + 1 + 1 from rfl, run_equalIn_array u (9998 + 1) _ _ Try.underlying47 hi, hc1,
      run_eqItems_ints u 9998 Try.underlying3 (by kernel_rfl) cs ds (List.range 64) (fun i hi => by have := List.mem_range.1 hi; omega)]
    simp only [Result.andThen_ok]
    exact congrArg (fun b => Result.ok (Value.bool b) u) (decide_eq_decide.2 (ext64 hc hd))
end Go.Proofs.Ytbboakdfnjjddaa

/- The zero block, three blocks just laid, a block and a code handed back: what the walks over blocks share. -/
namespace Go.Proofs.Ytbboakdfnjjddaa
open Go.RowKit
set_option linter.unusedVariables false
set_option linter.unusedSimpArgs false
set_option maxRecDepth 100000

def zeroB : List Value := ints .i64 (List.replicate 64 0)
theorem zeroB_length : zeroB.length = 64 := by simp [zeroB, ints_length]
def zero64 : List Int := List.replicate 64 0
theorem zero64_length : zero64.length = 64 := by simp [zero64]
theorem results_row_tmp {P : Program} {fn : Func} {p u : Tmp} {ty : TypeId} (h : fn.results = #[.cell p ty, .tmp u]) (tmps : Array Value) (w : World) (g : Nat) (t : TypeId) (cs : Array Value) (fr : Nat × Nat) (d : TypeDesc) (x : Value)
    (hp : tmps.getD p undef = .pointer (some ⟨g, 0, none⟩)) (hx : tmps.getD u undef = x) (hg : w.heap[g]? = some (.cells cs t fr))
    (hu : P.underlying ty = some d) (hd : (match d with | .struct _ | .array _ _ => true | _ => false) = true) (hi : (P.info? ty).map (·.size) = some cs.size) :
    (results fn tmps).run P w = .ok (.tuple #[.agg cs, x]) w := by
  rw [results_cell_tmp h, hp, hx]
  simp [asAddr, run_loadVar_row w g t ty cs fr d hg hu hd hi, Result.andThen]
/-- The three blocks that these functions lay. -/
def box3 (cs : List Int) (w : World) : World := ((w.alloc (.cells (ints .i64 cs).toArray 47)).alloc (.cells zeroB.toArray 47)).alloc (.cells zeroB.toArray 47)
theorem box3_is (cs : List Int) (w : World) : Below w.heap.size w (box3 cs w) ∧ Blk (box3 cs w) w.heap.size (ints .i64 cs) 47 ∧ Blk (box3 cs w) (w.heap.size + 1) zeroB 47 ∧ Blk (box3 cs w) (w.heap.size + 1 + 1) zeroB 47 ∧ (box3 cs w).heap.size = w.heap.size + 3 := by
  have e1 := World.size_alloc w (.cells (ints .i64 cs).toArray 47)
  have e2 := World.size_alloc (w.alloc (.cells (ints .i64 cs).toArray 47)) (.cells zeroB.toArray 47)
  have h0 := Blk.new w (ints .i64 cs) 47
  have h1 := Blk.new (w.alloc (.cells (ints .i64 cs).toArray 47)) zeroB 47
  have h2 := Blk.new ((w.alloc (.cells (ints .i64 cs).toArray 47)).alloc (.cells zeroB.toArray 47)) zeroB 47
  have b1 := below1 ((w.alloc (.cells (ints .i64 cs).toArray 47)).alloc (.cells zeroB.toArray 47)) (.cells zeroB.toArray 47)
  have b2 := below2 (w.alloc (.cells (ints .i64 cs).toArray 47)) (.cells zeroB.toArray 47) (.cells zeroB.toArray 47)
  refine ⟨below3 _ _ _ _, h0.below b2 (by omega), ?_, ?_, by simp [box3]⟩
  · have := h1.below b1 (by omega)
    rw [e1] at this; exact this
  · rw [e2, e1] at h2; exact h2
end Go.Proofs.Ytbboakdfnjjddaa

/- Rounding and clamping in numbers; blocks made number by number. -/
namespace Go.Proofs.Ytbboakdfnjjddaa
open Go.RowKit
set_option linter.unusedVariables false
set_option linter.unusedSimpArgs false
set_option maxRecDepth 100000

/-- All numbers within bounds. -/
def inB (lo hi : Int) (cs : List Int) : Bool := cs.all fun x => decide (lo ≤ x) && decide (x ≤ hi)
theorem inB_mem {lo hi : Int} {cs : List Int} : inB lo hi cs = true ↔ ∀ x ∈ cs, lo ≤ x ∧ x ≤ hi := by simp [inB]
theorem inB_at {lo hi : Int} {cs : List Int} (h : inB lo hi cs = true) {i : Nat} {x : Int} (hx : cs[i]? = some x) : lo ≤ x ∧ x ≤ hi := inB_mem.1 h x (List.mem_of_getElem? hx)
end Go.Proofs.Ytbboakdfnjjddaa

/- What Tokens and Block answer, in numbers. No program is named here. -/
namespace Go.Proofs.Ytbboakdfnjjddaa
set_option linter.unusedVariables false
set_option linter.unusedSimpArgs false
set_option maxRecDepth 100000

/-- A token's value. -/
def tokV (t : Int × Int × Int) : Value := .agg #[.int .i64 t.1, .int .i64 t.2.1, .int .i64 t.2.2]
def eT (b : Int) (cs : List Int) : Int := if -2047 ≤ b ∧ b ≤ 2047 ∧ inB (-2047) 2047 cs = true then 0 else 1
def oT (b : Int) (cs : List Int) : List (Int × Int × Int) := if eT b cs = 0 then toksZ b (toL cs) else []
theorem eT_ok {b : Int} {cs : List Int} (h1 : -2047 ≤ b) (h2 : b ≤ 2047) (h3 : inB (-2047) 2047 cs = true) : eT b cs = 0 := if_pos ⟨h1, h2, h3⟩
theorem eT_bad {b : Int} {cs : List Int} (h : ¬ (-2047 ≤ b ∧ b ≤ 2047 ∧ inB (-2047) 2047 cs = true)) : eT b cs = 1 := if_neg h
theorem oT_ok {b : Int} {cs : List Int} (h : eT b cs = 0) : oT b cs = toksZ b (toL cs) := if_pos h
theorem oT_bad {b : Int} {cs : List Int} (h : eT b cs ≠ 0) : oT b cs = [] := if_neg h
theorem toL_length (cs : List Int) : (toL cs).length = 64 := toK_length _ _
theorem fromL_length (cs : List Int) : (fromL cs).length = 64 := fromK_length _ _
theorem toL_mem {cs : List Int} (hc : cs.length = 64) {z : Int} (h : z ∈ toL cs) : z ∈ cs := by
  obtain ⟨k, hk⟩ := List.getElem?_of_mem h
  have h64 : k < 64 := by have := (List.getElem?_eq_some_iff.1 hk).1; rw [toL_length] at this; exact this
  obtain ⟨⟨n, hn⟩, h1, _⟩ := zz_at ⟨k, h64⟩
  rw [toL_at h64 h1] at hk
  injection hk with hk
  have := getD_some (cs := cs) (k := n) (by omega)
  rw [hk] at this
  exact List.mem_of_getElem? this
theorem fromL_mem {cs : List Int} (hc : cs.length = 64) {z : Int} (h : z ∈ fromL cs) : z ∈ cs := by
  obtain ⟨k, hk⟩ := List.getElem?_of_mem h
  have h64 : k < 64 := by have := (List.getElem?_eq_some_iff.1 hk).1; rw [fromL_length] at this; exact this
  rw [fromL_at h64] at hk
  injection hk with hk
  have := getD_some (cs := cs) (k := zz.idxOf (k : Int)) (by have := (zz_back ⟨k, h64⟩).1; simp only at this; omega)
  rw [hk] at this
  exact List.mem_of_getElem? this
theorem toL_in {cs : List Int} (hc : cs.length = 64) (h : inB (-2047) 2047 cs = true) : ∀ z ∈ toL cs, -2047 ≤ z ∧ z ≤ 2047 := fun z hz => inB_mem.1 h z (toL_mem hc hz)
theorem toks_len (b : Int) {zs : List Int} (h : zs.length = 64) : (toksZ b zs).length ≤ 64 := by
  match zs, h with
  | z :: zs, h =>
    have := len_rest zs 0
    rw [List.length_cons] at h
    rw [toksZ, List.length_cons]; omega
end Go.Proofs.Ytbboakdfnjjddaa

/- What a source of tokens does when it is called. No program is named here. -/
namespace Go.Proofs.Ytbboakdfnjjddaa
open Go.RowKit
set_option linter.unusedVariables false
set_option linter.unusedSimpArgs false
set_option maxRecDepth 100000

/-- What a call of a source does: an error, or a token and the source behind it. -/
def NextPost {σ : Type} (R : World → σ → Prop) (g : Nat) (w : World) : Int ⊕ ((Int × Int × Int) × σ) → Ending → World → Prop
  | .inl d, e, w' => e = .returned (.tuple #[tokV (0, 0, 0), .int .i64 d]) ∧ w.grownBy w' (some g)
  | .inr (t, s), e, w' => e = .returned (.tuple #[tokV t, .int .i64 0]) ∧ w.grownBy w' (some g) ∧ R w' s
end Go.Proofs.Ytbboakdfnjjddaa

/- What run.Block answers, in numbers: as RunMath's reader, but that a symbol above 255 is no fault of its own. No program is named here. -/
namespace Go.Proofs.Ytbboakdfnjjddaa
set_option linter.unusedVariables false
set_option linter.unusedSimpArgs false
set_option maxRecDepth 100000

/-- May a token come behind the first one? -/
def okQ (t : Int × Int × Int) : Bool := fitT t && decide (0 ≤ t.1 ∧ t.1 % 16 = t.2.1 ∧ t.2.1 ≤ 11 ∧ (t.2.1 = 0 → t.1 = 0 ∨ t.1 = 240))
/-- k numbers out of tokens: an error's code, the numbers, how many tokens were taken. -/
def decQ : Nat → List (Int × Int × Int) → Int × List Int × Nat
  | 0, _ => (0, [], 0)
  | _ + 1, [] => (3, [], 0)
  | k + 1, t :: l =>
    if okQ t = true then
      if t.1 = 0 then (0, List.replicate (k + 1) 0, 1)
      else if k + 1 < farT t then (4, [], 0)
      else
        let d := decQ (k + 1 - farT t) l
        if d.1 = 0 then (0, List.replicate (farT t - 1) 0 ++ numT t :: d.2.1, d.2.2 + 1) else (d.1, [], 0)
    else (4, [], 0)
theorem decQ_zero (l : List (Int × Int × Int)) : decQ 0 l = (0, [], 0) := by cases l <;> rfl
theorem okT_okQ {t : Int × Int × Int} (h : okT t = true) : okQ t = true := by
  unfold okT at h
  unfold okQ
  rw [Bool.and_eq_true] at h ⊢
  have h2 := of_decide_eq_true h.2
  exact ⟨h.1, decide_eq_true ⟨h2.1, h2.2.2⟩⟩
theorem okQ_fit {t : Int × Int × Int} (h : okQ t = true) : (0 ≤ t.2.1 ∧ t.2.1 ≤ 12 ∧ 0 ≤ t.2.2 ∧ t.2.2 < pw t.2.1.toNat) ∧ 0 ≤ t.1 ∧ t.1 % 16 = t.2.1 ∧ t.2.1 ≤ 11 ∧ (t.2.1 = 0 → t.1 = 0 ∨ t.1 = 240) := by
  unfold okQ at h
  rw [Bool.and_eq_true] at h
  have h1 := h.1
  unfold fitT at h1
  exact ⟨of_decide_eq_true h1, of_decide_eq_true h.2⟩
/-- The numbers of a block out of tokens. -/
def decP (before : Int) (l : List (Int × Int × Int)) : Int × List Int × Nat :=
  if before < -2047 ∨ 2047 < before then (1, [], 0) else
  match l with
  | [] => (3, [], 0)
  | t :: l =>
    if firstT before t then
      if (decQ 63 l).1 = 0 then
        if toksZ before ((before + numT t) :: (decQ 63 l).2.1) = t :: l.take (decQ 63 l).2.2 then (0, (before + numT t) :: (decQ 63 l).2.1, (decQ 63 l).2.2 + 1) else (4, [], 0)
      else ((decQ 63 l).1, [], 0)
    else (4, [], 0)
theorem decQ_used : ∀ (l : List (Int × Int × Int)) (k : Nat), (decQ k l).2.2 ≤ l.length
  | l, 0 => by rw [decQ_zero]; simp
  | [], k + 1 => by simp [decQ]
  | t :: l, k + 1 => by
    rw [decQ]
    split
    · split
      · simp
      · split
        · simp
        · simp only []
          split
          · have := decQ_used l (k + 1 - farT t); simp only [List.length_cons]; omega
          · simp
    · simp
theorem okQ_num {t : Int × Int × Int} (h : okQ t = true) : -2047 ≤ numT t ∧ numT t ≤ 2047 := by
  obtain ⟨h5, h6⟩ := okQ_fit h
  have h7 := bk_in h5.2.2.1 h5.2.2.2
  have h8 := pw_mono (a := t.2.1.toNat) (b := 11) (by omega)
  have h9 : pw 11 = 2048 := by decide
  unfold numT; omega
/-- What was read lies within its bounds. -/
theorem decQ_in : ∀ (l : List (Int × Int × Int)) (k : Nat), (decQ k l).1 = 0 → (decQ k l).2.1.length = k ∧ ∀ z ∈ (decQ k l).2.1, -2047 ≤ z ∧ z ≤ 2047
  | l, 0, h => by rw [decQ_zero]; exact ⟨rfl, by simp⟩
  | [], k + 1, h => by simp [decQ] at h
  | t :: l, k + 1, h => by
    rw [decQ] at h ⊢
    by_cases h1 : okQ t = true
    · rw [if_pos h1] at h ⊢
      by_cases h2 : t.1 = 0
      · rw [if_pos h2]
        refine ⟨by simp, fun z hz => ?_⟩
        rw [(List.mem_replicate.1 hz).2]; omega
      · rw [if_neg h2] at h ⊢
        by_cases h3 : k + 1 < farT t
        · rw [if_pos h3] at h; simp at h
        · rw [if_neg h3] at h ⊢
          simp only [] at h ⊢
          by_cases h4 : (decQ (k + 1 - farT t) l).1 = 0
          · obtain ⟨g1, g2⟩ := decQ_in l (k + 1 - farT t) h4
            rw [if_pos h4]
            have hp : 0 < farT t := by unfold farT; omega
            refine ⟨by simp only [List.length_append, List.length_replicate, List.length_cons, g1]; omega, fun z hz => ?_⟩
            rcases List.mem_append.1 hz with hz | hz
            · rw [(List.mem_replicate.1 hz).2]; omega
            · rcases List.mem_cons.1 hz with rfl | hz
              · exact okQ_num h1
              · exact g2 z hz
          · rw [if_neg h4] at h; exact absurd h h4
    · rw [if_neg h1] at h; simp at h
/-- Numbers read so far, and what is still to read: an error's code, all numbers, how many tokens. -/
def joinQ (pre : List Int) (n : Nat) (d : Int × List Int × Nat) : Int × List Int × Nat :=
  if d.1 = 0 then (0, pre ++ d.2.1, n + d.2.2) else (d.1, [], 0)
theorem joinQ_all (pre : List Int) (n : Nat) (l : List (Int × Int × Int)) : joinQ pre n (decQ 0 l) = (0, pre, n) := by
  rw [decQ_zero]; simp [joinQ]
theorem joinQ_none (pre : List Int) (n : Nat) {k : Nat} (hk : 0 < k) : joinQ pre n (decQ k []) = (3, [], 0) := by
  obtain ⟨k, rfl⟩ : ∃ j, k = j + 1 := ⟨k - 1, by omega⟩
  rfl
theorem joinQ_bad (pre : List Int) (n : Nat) {k : Nat} {t : Int × Int × Int} {l : List (Int × Int × Int)} (hk : 0 < k) (ht : okQ t = false) : joinQ pre n (decQ k (t :: l)) = (4, [], 0) := by
  obtain ⟨k, rfl⟩ : ∃ j, k = j + 1 := ⟨k - 1, by omega⟩
  rw [decQ, if_neg (by rw [ht]; decide)]; rfl
theorem joinQ_end (pre : List Int) (n : Nat) {k : Nat} {t : Int × Int × Int} {l : List (Int × Int × Int)} (hk : 0 < k) (ht : okQ t = true) (h0 : t.1 = 0) : joinQ pre n (decQ k (t :: l)) = (0, pre ++ List.replicate k 0, n + 1) := by
  obtain ⟨k, rfl⟩ : ∃ j, k = j + 1 := ⟨k - 1, by omega⟩
  rw [decQ, if_pos ht, if_pos h0]; rfl
theorem joinQ_far (pre : List Int) (n : Nat) {k : Nat} {t : Int × Int × Int} {l : List (Int × Int × Int)} (hk : 0 < k) (ht : okQ t = true) (h0 : t.1 ≠ 0) (hf : k < farT t) : joinQ pre n (decQ k (t :: l)) = (4, [], 0) := by
  obtain ⟨k, rfl⟩ : ∃ j, k = j + 1 := ⟨k - 1, by omega⟩
  rw [decQ, if_pos ht, if_neg h0, if_pos hf]; rfl
theorem joinQ_next (pre : List Int) (n : Nat) {k : Nat} {t : Int × Int × Int} {l : List (Int × Int × Int)} (ht : okQ t = true) (h0 : t.1 ≠ 0) (hf : farT t ≤ k) : joinQ pre n (decQ k (t :: l)) = joinQ (pre ++ (List.replicate (farT t - 1) 0 ++ [numT t])) (n + 1) (decQ (k - farT t) l) := by
  have hp : 0 < farT t := by unfold farT; omega
  obtain ⟨k, rfl⟩ : ∃ j, k = j + 1 := ⟨k - 1, by omega⟩
  rw [decQ, if_pos ht, if_neg h0, if_neg (by omega)]
  unfold joinQ
  by_cases e : (decQ (k + 1 - farT t) l).1 = 0
  · simp only [if_pos e, if_true]
    simp only [Prod.mk.injEq, true_and]
    exact ⟨by simp, by omega⟩
  · simp only [if_neg e]
end Go.Proofs.Ytbboakdfnjjddaa

/- The reference's wordOf: the digits of a symbol's word. -/
namespace Go.Proofs.Ytbboakdfnjjddaa
open Go.RowKit
set_option linter.unusedVariables false
set_option linter.unusedSimpArgs false
set_option maxRecDepth 100000

/-- The bits of a symbol's word. -/
def symBits (ws : List (Int × Nat × Nat)) (x : Int) : List Bool := bitsN (((symF ws x).getD (0, 0)).1).toNat (((symF ws x).getD (0, 0)).2).toNat
end Go.Proofs.Ytbboakdfnjjddaa

/- What a check of blocks answers, in numbers. No program is named here. -/
namespace Go.Proofs.Ytbboakdfnjjddaa
set_option linter.unusedVariables false
set_option linter.unusedSimpArgs false
set_option maxRecDepth 100000

/-- What a check of blocks answers. -/
def eL (L : List (List Int)) : Int := if 400 < L.length then 2 else if (L.all fun r => inB (-2047) 2047 r) = true then 0 else 1
theorem eL_large {L : List (List Int)} (h : 400 < L.length) : eL L = 2 := if_pos h
theorem eL_bad {L : List (List Int)} (h : ¬ 400 < L.length) {k : Nat} {r : List Int} (hr : L[k]? = some r) (hb : inB (-2047) 2047 r = false) : eL L = 1 := by
  unfold eL
  rw [if_neg h, if_neg]
  intro h2
  have := List.all_eq_true.1 h2 r (List.mem_of_getElem? hr)
  rw [hb] at this; cases this
theorem eL_ok {L : List (List Int)} (h : ¬ 400 < L.length) (hb : ∀ r ∈ L, inB (-2047) 2047 r = true) : eL L = 0 := by
  unfold eL
  rw [if_neg h, if_pos (List.all_eq_true.2 hb)]
theorem eL_zero {L : List (List Int)} (h : eL L = 0) : L.length ≤ 400 ∧ ∀ r ∈ L, inB (-2047) 2047 r = true := by
  unfold eL at h
  split at h
  · cases h
  · split at h
    · rename_i h1 h2; exact ⟨by omega, fun r hr => List.all_eq_true.1 h2 r hr⟩
    · cases h
end Go.Proofs.Ytbboakdfnjjddaa

/- Blocks as bits and back, in numbers: the tokens of a list of blocks, their bits, a source of tokens out of bits. No program is named here. -/
namespace Go.Proofs.Ytbboakdfnjjddaa
set_option linter.unusedVariables false
set_option linter.unusedSimpArgs false
set_option maxRecDepth 100000

/-- The tokens of one block; true at the first one. -/
def flagT : List (Int × Int × Int) → List (Bool × Int × Int × Int)
  | [] => []
  | t :: l => (true, t) :: l.map fun x => (false, x)
/-- The tokens of blocks. -/
def toksB : Int → List (List Int) → List (Bool × Int × Int × Int)
  | _, [] => []
  | b, r :: L => flagT (toksZ b (toL r)) ++ toksB (r.headD 0) L
theorem flagT_length : ∀ l : List (Int × Int × Int), (flagT l).length = l.length
  | [] => rfl
  | t :: l => by simp [flagT]
theorem flagT_take : ∀ (l : List (Int × Int × Int)) (k : Nat), (flagT l).take k = flagT (l.take k)
  | [], k => by simp [flagT]
  | t :: l, 0 => by simp [flagT]
  | t :: l, k + 1 => by simp [flagT, List.map_take]
theorem flagT_at {l : List (Int × Int × Int)} {k : Nat} {t : Int × Int × Int} (h : l[k]? = some t) : (flagT l)[k]? = some (decide (k = 0), t) := by
  cases l with
  | nil => simp at h
  | cons x l =>
    cases k with
    | zero => simp at h; subst h; rfl
    | succ k =>
      simp only [List.getElem?_cons_succ] at h
      simp [flagT, h]
/-- The number 0 ahead of block k. -/
def ahead (L : List (List Int)) (k : Nat) : Int := if k = 0 then 0 else ((L.getD (k - 1) []).headD 0)
theorem toksB_snoc : ∀ (L : List (List Int)) (b : Int) (r : List Int), toksB b (L ++ [r]) = toksB b L ++ flagT (toksZ (if L = [] then b else (L.getLastD []).headD 0) (toL r))
  | [], b, r => by simp [toksB]
  | s :: L, b, r => by
    rw [List.cons_append, toksB, toksB_snoc L, toksB, List.append_assoc]
    congr 2
    cases L with
    | nil => simp
    | cons x L => simp
theorem toksB_next {L : List (List Int)} {k : Nat} {r : List Int} (h : L[k]? = some r) : toksB 0 (L.take (k + 1)) = toksB 0 (L.take k) ++ flagT (toksZ (ahead L k) (toL r)) := by
  rw [take_snoc h, toksB_snoc]
  congr 3
  unfold ahead
  have hk := (List.getElem?_eq_some_iff.1 h).1
  by_cases h0 : k = 0
  · subst h0; simp
  · rw [if_neg h0, if_neg (by intro e; have := congrArg List.length e; rw [List.length_take, List.length_nil] at this; omega)]
    have e : L.take k = L.take (k - 1) ++ [L.getD (k - 1) []] := by
      obtain ⟨x, hx⟩ := some_at (xs := L) (j := k - 1) (by omega)
      have := take_snoc hx
      rw [show k - 1 + 1 = k by omega] at this
      rw [this]; simp [hx]
    rw [e]; simp
theorem ahead_next {L : List (List Int)} {k : Nat} {r : List Int} (h : L[k]? = some r) : ahead L (k + 1) = r.headD 0 := by
  unfold ahead
  rw [if_neg (by omega)]; simp [h]
/-- The words for a token, by where it stands. -/
def wsOf (fw rw_ : List (Int × Nat × Nat)) (first : Bool) : List (Int × Nat × Nat) := if first = true then fw else rw_
/-- The bits of a token. -/
def tokBits (ws : List (Int × Nat × Nat)) (t : Int × Int × Int) : List Bool := symBits ws t.1 ++ bitsN t.2.1.toNat t.2.2.toNat
def segBits (fw rw_ : List (Int × Nat × Nat)) (l : List (Bool × Int × Int × Int)) : List Bool := l.flatMap fun x => tokBits (wsOf fw rw_ x.1) x.2
theorem segBits_append (fw rw_ : List (Int × Nat × Nat)) (a b : List (Bool × Int × Int × Int)) : segBits fw rw_ (a ++ b) = segBits fw rw_ a ++ segBits fw rw_ b := by simp [segBits]
theorem segBits_one (fw rw_ : List (Int × Nat × Nat)) (x : Bool × Int × Int × Int) : segBits fw rw_ [x] = tokBits (wsOf fw rw_ x.1) x.2 := by simp [segBits]
/-- Has each token a word? -/
def AllW (fw rw_ : List (Int × Nat × Nat)) (l : List (Bool × Int × Int × Int)) : Prop := ∀ x ∈ l, (symF (wsOf fw rw_ x.1) x.2.1).isSome = true
instance (fw rw_ : List (Int × Nat × Nat)) (l : List (Bool × Int × Int × Int)) : Decidable (AllW fw rw_ l) := by unfold AllW; infer_instance
theorem AllW.append {fw rw_ : List (Int × Nat × Nat)} {a b : List (Bool × Int × Int × Int)} (h1 : AllW fw rw_ a) (h2 : AllW fw rw_ b) : AllW fw rw_ (a ++ b) := fun x hx => by
  rcases List.mem_append.1 hx with h | h
  · exact h1 x h
  · exact h2 x h
/-- A token out of bits: an error, or the token and what is left. -/
def widS (first : Bool) (s : Int) : Int := if first = true then s else s % 16
def stepS (fw rw_ : List (Int × Nat × Nat)) (first : Bool) (b : List Bool) : Int ⊕ ((Int × Int × Int) × List Bool) :=
  if nextE (wsOf fw rw_ first) b ≠ 0 then .inl (nextE (wsOf fw rw_ first) b)
  else if 12 < widS first (nextS (wsOf fw rw_ first) b) ∨ (first = false ∧ 11 < widS first (nextS (wsOf fw rw_ first) b)) then .inl 4
  else if (b.drop (nextL (wsOf fw rw_ first) b)).length < (widS first (nextS (wsOf fw rw_ first) b)).toNat then .inl 3
  else .inr ((nextS (wsOf fw rw_ first) b, widS first (nextS (wsOf fw rw_ first) b), (valB ((b.drop (nextL (wsOf fw rw_ first) b)).take (widS first (nextS (wsOf fw rw_ first) b)).toNat) : Int)), (b.drop (nextL (wsOf fw rw_ first) b)).drop (widS first (nextS (wsOf fw rw_ first) b)).toNat)
theorem stepS_ne {fw rw_ : List (Int × Nat × Nat)} {first : Bool} {b : List Bool} {e : Int} (h : stepS fw rw_ first b = .inl e) : e ≠ 0 := by
  unfold stepS at h
  split at h
  · injection h with h; rename_i h1; rw [← h]; exact h1
  · split at h
    · injection h with h; omega
    · split at h
      · injection h with h; omega
      · cases h
/-- What a block's reader answers in numbers. -/
def outBk {σ : Type} (D : Int × List Int × List (Int × Int × Int) × Option σ) : List Int := if D.1 = 0 then fromL D.2.1 else zero64
/-- Blocks out of bits: an error, the blocks, what is left. -/
def decS (fw rw_ : List (Int × Nat × Nat)) : Nat → Int → List Bool → Int × List (List Int) × List Bool
  | 0, _, b => (0, [], b)
  | n + 1, before, b =>
    if (gB (stepS fw rw_) before b).1 = 0 then
      let x := fromL (gB (stepS fw rw_) before b).2.1
      let q := decS fw rw_ n (x.headD 0) ((gB (stepS fw rw_) before b).2.2.2.getD [])
      if q.1 = 0 then (0, x :: q.2.1, q.2.2) else (q.1, [], [])
    else ((gB (stepS fw rw_) before b).1, [], [])
/-- No more than fill is left. -/
def fillB (b : List Bool) : Bool := decide (b.length < 8) && b.all id
/-- Errors. -/
def eEnc (cs syms cs2 syms2 : List Int) (L : List (List Int)) : Int :=
  if checkErr cs syms ≠ 0 then checkErr cs syms else if checkErr cs2 syms2 ≠ 0 then checkErr cs2 syms2
  else if eL L ≠ 0 then eL L else if AllW (outWords cs syms) (outWords cs2 syms2) (toksB 0 L) then 0 else 5
end Go.Proofs.Ytbboakdfnjjddaa

/- Tokens in memory: structs of three integers in a row. -/
namespace Go.Proofs.Ytbboakdfnjjddaa
open Go.RowKit
set_option linter.unusedVariables false
set_option linter.unusedSimpArgs false
set_option maxRecDepth 100000

def tokC (f : Int × Int × Int) : List Value := [.int .i64 f.1, .int .i64 f.2.1, .int .i64 f.2.2]
def tokCells (l : List (Int × Int × Int)) : List Value := l.flatMap tokC
theorem tokCells_length (l : List (Int × Int × Int)) : (tokCells l).length = l.length * 3 := by
  induction l with
  | nil => rfl
  | cons f l ih => simp [tokCells, tokC] at ih ⊢; omega
theorem tokCells_append (l m : List (Int × Int × Int)) : tokCells (l ++ m) = tokCells l ++ tokCells m := by simp [tokCells]
theorem tokCells_one {l : List (Int × Int × Int)} : ∀ u ∈ tokCells l, u.oneCell' = true := by
  intro u hu
  simp only [tokCells, List.mem_flatMap] at hu
  obtain ⟨f, _, hu⟩ := hu
  simp [tokC] at hu
  rcases hu with rfl | rfl | rfl <;> rfl
theorem tokCells_at : ∀ (l : List (Int × Int × Int)) (k : Nat) (f : Int × Int × Int), l[k]? = some f → (tokCells l)[k * 3]? = some (.int .i64 f.1) ∧ (tokCells l)[k * 3 + 1]? = some (.int .i64 f.2.1) ∧ (tokCells l)[k * 3 + 2]? = some (.int .i64 f.2.2)
  | [], k, f, h => by simp at h
  | g :: l, 0, f, h => by simp at h; subst h; simp [tokCells, tokC]
  | g :: l, k + 1, f, h => by
    rw [List.getElem?_cons_succ] at h
    have e : ∀ j, (tokCells (g :: l))[j + 3]? = (tokCells l)[j]? := by intro j; simp [tokCells, tokC]
    have := tokCells_at l k f h
    refine ⟨?_, ?_, ?_⟩
    · rw [show (k + 1) * 3 = k * 3 + 3 by omega, e]; exact this.1
    · rw [show (k + 1) * 3 + 1 = k * 3 + 1 + 3 by omega, e]; exact this.2.1
    · rw [show (k + 1) * 3 + 2 = k * 3 + 2 + 3 by omega, e]; exact this.2.2
theorem tokCells_take (l : List (Int × Int × Int)) (k : Nat) : tokCells (l.take k) = (tokCells l).take (k * 3) := by
  by_cases h : k ≤ l.length
  · have e : tokCells l = tokCells (l.take k) ++ tokCells (l.drop k) := by rw [← tokCells_append, List.take_append_drop]
    have e2 : k * 3 = (tokCells (l.take k)).length := by rw [tokCells_length, List.length_take]; omega
    rw [e, e2, List.take_left]
  · rw [List.take_of_length_le (by omega), List.take_of_length_le (by rw [tokCells_length]; omega)]
/-- One token of a row that is seen, with its three cells. -/
theorem Seen.tok {w : World} {B : Nat} {A : Option Addr} {l : List (Int × Int × Int)} (h : Seen w B A (tokCells l)) {k : Nat} (hk : k < l.length) :
    ∃ g o s n c, A = some ⟨g, o, none⟩ ∧ g < B ∧ l[k]? = some (s, n, c) ∧ w.cell? ⟨g, o + k * 3, none⟩ = some (.int .i64 s) ∧ w.cell? ⟨g, o + k * 3 + 1, none⟩ = some (.int .i64 n) ∧ w.cell? ⟨g, o + k * 3 + 2, none⟩ = some (.int .i64 c) := by
  obtain ⟨g, o, e, hg, hc⟩ := h.at (by rw [tokCells_length]; omega)
  obtain ⟨⟨s, n, c⟩, hx⟩ := some_at hk
  obtain ⟨h1, h2, h3⟩ := tokCells_at l k _ hx
  exact ⟨g, o, s, n, c, e, hg, hx, hc _ _ h1, by have := hc _ _ h2; rw [Nat.add_assoc]; exact this, by have := hc _ _ h3; rw [Nat.add_assoc]; exact this⟩
theorem elem_tok : ElemOf Try.prog 59 56 3 24 := .mk' (z := .agg #[.int .i64 0, .int .i64 0, .int .i64 0]) Try.underlying59 (by kernel_rfl) rfl (by omega)
abbrev tokRow (v : Value) (l : List (Int × Int × Int)) : Row := ⟨56, 3, v, l.length, tokCells l⟩
theorem tokRow_append (v : Value) (l m : List (Int × Int × Int)) : (⟨56, 3, v, l.length + m.length, tokCells l ++ tokCells m⟩ : Row) = tokRow v (l ++ m) := by simp [tokRow, tokCells_append]
/-- In a walk: append of one token just laid onto the first of the rows. -/
theorem wpList_ownK {ops : Array Oper} {rest : List Oper} {o : Oper} {a : Act} {Q : Exit → Act → World → Prop} (w0 : World) (hgd : Region.wanted o (yielded ops a.tmps) = true) (s x : Operand)
    (ho : o.op = .call { callee := .builtin .append, args := #[s, x], argTypes := #[59, 59] })
    (B : Nat) (v : Value) (l : List (Int × Int × Int)) (rs : List Row) (hs : a.eval s = v) (HO : Owns B (tokRow v l :: rs) w0) (f0 f1 f2 : Int) (hx : a.eval x = .slice (some ⟨w0.heap.size, 0, none⟩) 1 1)
    (h63 : l.length + 1 ≤ 1099511627776)
    (h : ∀ v' w', Owns B (tokRow v' (l ++ [(f0, f1, f2)]) :: rs) w' → Below B w0 w' → w0.heap.size < w'.heap.size → wpList Try.prog ops Q rest (a.put o.dst v') w') : wpList Try.prog ops Q (o :: rest) a (w0.alloc (.cells #[.int .i64 f0, .int .i64 f1, .int .i64 f2] 56)) := by
  refine wpList_ownV _ hgd s x _ ho B 56 3 24 elem_tok v l.length (tokCells l) rs hs (HO.alloc _) (w0.heap.size + 1) _ 1 1 (tokCells [(f0, f1, f2)]) hx (Seen.new w0 (tokCells [(f0, f1, f2)]) _ _ (Nat.lt_succ_self _)) (by rw [tokCells_length]; rfl) tokCells_one (by unfold maxLen; omega) (by omega) ?_
  intro v' w' h2 h3
  have := h3.size
  refine h v' w' ?_ (((Below.refl _ _).alloc HO.base _).trans h3) (by simp at this; omega)
  rw [← tokRow_append]
  exact h2
/-- The same, the new block's number written out. -/
theorem wpList_ownKn {ops : Array Oper} {rest : List Oper} {o : Oper} {a : Act} {Q : Exit → Act → World → Prop} (w0 : World) (n : Nat) (hn : w0.heap.size = n) (hgd : Region.wanted o (yielded ops a.tmps) = true) (s x : Operand)
    (ho : o.op = .call { callee := .builtin .append, args := #[s, x], argTypes := #[59, 59] })
    (B : Nat) (v : Value) (l : List (Int × Int × Int)) (rs : List Row) (hs : a.eval s = v) (HO : Owns B (tokRow v l :: rs) w0) (f0 f1 f2 : Int) (hx : a.eval x = .slice (some ⟨n, 0, none⟩) 1 1)
    (h63 : l.length + 1 ≤ 1099511627776)
    (h : ∀ v' w', Owns B (tokRow v' (l ++ [(f0, f1, f2)]) :: rs) w' → Below B w0 w' → w0.heap.size < w'.heap.size → wpList Try.prog ops Q rest (a.put o.dst v') w') : wpList Try.prog ops Q (o :: rest) a (w0.alloc (.cells #[.int .i64 f0, .int .i64 f1, .int .i64 f2] 56)) := by
  subst hn
  exact wpList_ownK w0 hgd s x ho B v l rs hs HO f0 f1 f2 hx h63 h
theorem neq_tok (a b c a' b' c' : Int) (w : World) : (binOp .neq 56 (.agg #[.int .i64 a, .int .i64 b, .int .i64 c]) (.agg #[.int .i64 a', .int .i64 b', .int .i64 c'])).run Try.prog w = .ok (.bool (!(a == a' && (b == b' && c == c')))) w := by
  have h1 : Try.prog.underlying 56 = some (.struct (Try.prog.fieldsOf 56)) := by kernel_rfl
  have h2 : Try.prog.stoodInHeld 56 = false := by kernel_rfl
  have h3 : (Try.prog.fieldsOf 56).toList = [⟨ "Sym", 3, 0, false, "", "", 0⟩, ⟨ "Width", 3, 1, false, "", "", 8⟩, ⟨ "Value", 3, 2, false, "", "", 16⟩] := by kernel_rfl
  have ha : ∀ w, (isAgg 3).run Try.prog w = .ok false w := fun w => by kernel_rfl
  have he := fun d w x y => run_equalIn_int (P := Try.prog) w d 3 .i64 .i64 x y Try.underlying3
  rw [run_neq_struct, run_equalIn_agg (P := Try.prog) w 9999 _ _ _ h1 h2, h3]
  by_cases e1 : a = a' <;> by_cases e2 : b = b' <;> by_cases e3 : c = c' <;> simp [Op.eqFields, part, ha, he 9998, e1, e2, e3, Result.andThen]
end Go.Proofs.Ytbboakdfnjjddaa

/- The reference's reader of a token out of digits (SegDecode's closure): its contract. -/
namespace Go.Proofs.Ytbboakdfnjjddaa
open Go.RowKit
set_option linter.unusedVariables false
set_option linter.unusedSimpArgs false
set_option maxRecDepth 100000

def tok000 : List Value := [.int .i64 0, .int .i64 0, .int .i64 0]
theorem tok000_one : ∀ u ∈ tok000, u.oneCell' = true := by intro u hu; simp [tok000] at hu; subst hu; rfl
theorem tokw_one (a b c : Int) : ∀ u ∈ [Value.int .i64 a, .int .i64 b, .int .i64 c], u.oneCell' = true := by intro u hu; simp at hu; rcases hu with rfl | rfl | rfl <;> rfl
theorem wpList_store_newQ {P : Program} {ops : Array Oper} {rest : List Oper} {o : Oper} {a : Act} {Q : Exit → Act → World → Prop} (w0 : World) (n : Nat) (hn : w0.heap.size = n) (hgd : o.guard = none) (t : TypeId) (x y : Operand) (ho : o.op = .store t x y) (c : Array Value) (c' : List Value)
    (hx : a.eval x = .pointer (some ⟨n, 0, none⟩)) (hy : a.eval y = .agg c'.toArray) (hi : (P.info? t).map (·.size) = some c'.length) (hsz : c.size = c'.length) (h1 : ∀ u ∈ c', u.oneCell' = true)
    (h : wpList P ops Q rest (a.put o.dst undef) (w0.alloc (.cells c'.toArray t))) : wpList P ops Q (o :: rest) a (w0.alloc (.cells c t)) := by
  subst hn
  exact wpList_store_new w0 hgd t x y ho c c' hx hy hi hsz h1 h
theorem grown_grown' {w w1 w2 : World} {g : Nat} (h : w.grownBy w1 (some g)) (h2 : w1.grownBy w2 (some g)) : w.grownBy w2 (some g) := h.trans h2
/-- Where the source stands: block T holds the tables, block g the digits left. -/
structure SrcD (cs syms : List Int) (A : Option Addr) (c : Nat) (cs2 syms2 : List Int) (A2 : Option Addr) (c2 G T g N : Nat) (w : World) (s : List Bool) : Prop where
  tabs : Blk w T (tabsCells cs A syms.length c cs2 A2 syms2.length c2) 36
  text : Blk w g [.string (txt s)] 9
  one : Seen w G A (ints .i64 syms)
  two : Seen w G A2 (ints .i64 syms2)
  few : s.length ≤ N
theorem SrcD.below {cs syms : List Int} {A : Option Addr} {c : Nat} {cs2 syms2 : List Int} {A2 : Option Addr} {c2 G T g N B : Nat} {w w' : World} {s : List Bool} (h : SrcD cs syms A c cs2 syms2 A2 c2 G T g N w s) (hb : Below B w w') (hT : T < B) (hg : g < B) (hG : G ≤ B) : SrcD cs syms A c cs2 syms2 A2 c2 G T g N w' s :=
  ⟨h.tabs.below hb hT, h.text.below hb hg, h.one.below hb hG, h.two.below hb hG, h.few⟩
theorem info_tokR : (Try.prog.info? 56).map (·.size) = some 3 := by kernel_rfl
section
variable {fw rw_ : List (Int × Nat × Nat)} {first : Bool} {b : List Bool}
theorem stepR_word (h : nextE (wsOf fw rw_ first) b ≠ 0) : stepS fw rw_ first b = .inl (nextE (wsOf fw rw_ first) b) := if_pos h
theorem stepR_wide (h : nextE (wsOf fw rw_ first) b = 0) (h2 : 12 < widS first (nextS (wsOf fw rw_ first) b) ∨ (first = false ∧ 11 < widS first (nextS (wsOf fw rw_ first) b))) : stepS fw rw_ first b = .inl 4 := by
  unfold stepS; rw [if_neg (by rw [h]; decide), if_pos h2]
theorem stepR_short (h : nextE (wsOf fw rw_ first) b = 0) (h2 : ¬ (12 < widS first (nextS (wsOf fw rw_ first) b) ∨ (first = false ∧ 11 < widS first (nextS (wsOf fw rw_ first) b)))) (h3 : (b.drop (nextL (wsOf fw rw_ first) b)).length < (widS first (nextS (wsOf fw rw_ first) b)).toNat) : stepS fw rw_ first b = .inl 3 := by
  unfold stepS; rw [if_neg (by rw [h]; decide), if_neg h2, if_pos h3]
theorem stepR_ok (h : nextE (wsOf fw rw_ first) b = 0) (h2 : ¬ (12 < widS first (nextS (wsOf fw rw_ first) b) ∨ (first = false ∧ 11 < widS first (nextS (wsOf fw rw_ first) b)))) (h3 : ¬ (b.drop (nextL (wsOf fw rw_ first) b)).length < (widS first (nextS (wsOf fw rw_ first) b)).toNat) : stepS fw rw_ first b = .inr ((nextS (wsOf fw rw_ first) b, widS first (nextS (wsOf fw rw_ first) b), (valB ((b.drop (nextL (wsOf fw rw_ first) b)).take (widS first (nextS (wsOf fw rw_ first) b)).toNat) : Int)), (b.drop (nextL (wsOf fw rw_ first) b)).drop (widS first (nextS (wsOf fw rw_ first) b)).toNat) := by
  unfold stepS; rw [if_neg (by rw [h]; decide), if_neg h2, if_neg h3]
end
/-- The way out with an error. -/
theorem segNext_err {R : World → List Bool → Prop} {w w1 : World} {g : Nat} {a : Act} {er : Int} {st : Int ⊕ ((Int × Int × Int) × List Bool)} (hst : st = .inl er) (h4 : a.tmps.getD 4 undef = .pointer (some ⟨w.heap.size, 0, none⟩)) (h5 : a.tmps.getD 5 undef = .int .i64 er) (hdf : a.defers = [])
    (HB : Blk w1 w.heap.size tok000 56) (hg : w.grownBy w1 (some g)) :
    bodyPost Try.prog Try.f47 (fun e w' => NextPost R g w st e w') .ret a w1 := by
  subst hst
  exact bodyPost_ret (results_row_tmp rfl _ _ w.heap.size 56 tok000.toArray (0, 0) _ (.int .i64 er) h4 h5 HB Try.underlying56 rfl info_tokR) hdf ⟨rfl, hg⟩
/-- The way out with a token. -/
theorem segNext_ok {R : World → List Bool → Prop} {w w1 : World} {g : Nat} {a : Act} {t0 t1 t2 : Int} {s : List Bool} {st : Int ⊕ ((Int × Int × Int) × List Bool)} (hst : st = .inr ((t0, t1, t2), s)) (h4 : a.tmps.getD 4 undef = .pointer (some ⟨w.heap.size, 0, none⟩)) (h5 : a.tmps.getD 5 undef = .int .i64 0) (hdf : a.defers = [])
    {ys : List Value} (hys : ys = [.int .i64 t0, .int .i64 t1, .int .i64 t2]) (HB : Blk w1 w.heap.size ys 56) (hg : w.grownBy w1 (some g)) (hR : R w1 s) :
    bodyPost Try.prog Try.f47 (fun e w' => NextPost R g w st e w') .ret a w1 := by
  subst hst
  exact bodyPost_ret (results_row_tmp rfl _ _ w.heap.size 56 ys.toArray (0, 0) _ (.int .i64 0) h4 h5 HB Try.underlying56 rfl (by rw [hys]; exact info_tokR)) hdf ⟨by rw [hys]; rfl, hg, hR⟩
set_option maxRecDepth 100000 in
set_option maxHeartbeats 1000000 in
theorem segNext_first (cs syms : List Int) (A : Option Addr) (c : Nat) (cs2 syms2 : List Int) (A2 : Option Addr) (c2 G T g N : Nat) (s : List Bool) (w : World)
    (hcs : cs.length = 16) (hcs2 : cs2.length = 16) (h1 : checkErr cs syms = 0) (h2 : checkErr cs2 syms2 = 0) (hN : N ≤ 140737488355328) (hTg : T ≠ g) (hG : G ≤ w.heap.size) (hGT : G ≤ T) (hGg : G ≤ g)
    (hS : SrcD cs syms A c cs2 syms2 A2 c2 G T g N w s) :
    Calls Try.prog 47 #[.bool true, .pointer (some ⟨T, 0, none⟩), .pointer (some ⟨g, 0, none⟩)] w fun e w' => NextPost (SrcD cs syms A c cs2 syms2 A2 c2 G T g N) g w (stepS (outWords cs syms) (outWords cs2 syms2) true s) e w' := by
  obtain ⟨ST, SX, SA, SB, SN⟩ := hS
  have hTz := ST.lt
  have hgz := SX.lt
  obtain ⟨l, hf, how, hll⟩ := fine_of h1
  have HSy := veil (fun W (h : Seen W G A (ints .i64 syms)) (hG : G ≤ W.heap.size) => symOf_any cs syms l A c G s W hcs hf h hG (by omega))
  rw [← how] at HSy
  obtain ⟨ws, hws⟩ : ∃ ws, ws = wsOf (outWords cs syms) (outWords cs2 syms2) true := ⟨_, rfl⟩
  have hws2 : outWords cs syms = ws := hws.symm
  rw [hws2] at HSy
  have hsm : ∀ t ∈ ws, 0 ≤ t.1 ∧ t.1 ≤ 255 := by
    rw [← hws2, how]
    exact fun t ht => (hf.word hcs ht).1
  have hL := nextL_le (ws := ws) (b := s)
  have hSy := nextS_wf (ws := ws) (b := s) hsm
  have E1 := veil (stepR_word (fw := outWords cs syms) (rw_ := outWords cs2 syms2) (first := true) (b := s))
  have E2 := veil (stepR_wide (fw := outWords cs syms) (rw_ := outWords cs2 syms2) (first := true) (b := s))
  have E3 := veil (stepR_short (fw := outWords cs syms) (rw_ := outWords cs2 syms2) (first := true) (b := s))
  have E4 := veil (stepR_ok (fw := outWords cs syms) (rw_ := outWords cs2 syms2) (first := true) (b := s))
  have hnr := nextR_hit (ws := ws) (b := s)
  rw [← hws] at E1 E2 E3 E4
  obtain ⟨st, hst⟩ : ∃ st, st = stepS (outWords cs syms) (outWords cs2 syms2) true s := ⟨_, rfl⟩
  rw [← hst] at E1 E2 E3 E4 ⊢
  have hr0 := ST.range
  have hr1 := range_left hr0
  have hr2 := range_right hr0
  have h17 : (tabCells cs A syms.length c).length = 17 := tabCells_length hcs
  have h17b : (tabCells cs2 A2 syms2.length c2).length = 17 := tabCells_length hcs2
  have o17 := tabCells_one (cs := cs) (A := A) (n := syms.length) (c := c)
  have o17b := tabCells_one (cs := cs2) (A := A2) (n := syms2.length) (c := c2)
  rw [h17] at hr2
  have HR := veil (fun W s2 (a1 : Blk W T (tabsCells cs A syms.length c cs2 A2 syms2.length c2) 36) (a2 : Blk W g [.string (txt s2)] 9) (a3 : Seen W G A (ints .i64 syms)) (a4 : Seen W G A2 (ints .i64 syms2)) (a5 : s2.length ≤ N) => (⟨a1, a2, a3, a4, a5⟩ : SrcD cs syms A c cs2 syms2 A2 c2 G T g N W s2))
  obtain ⟨R, hR⟩ : ∃ R, R = SrcD cs syms A c cs2 syms2 A2 c2 G T g N := ⟨_, rfl⟩
  rw [← hR] at HR ⊢
  have hb1 := below1 w (.cells tok000.toArray 56)
  have hB1 := Blk.new w tok000 56
  have hz1 : (w.alloc (.cells tok000.toArray 56)).heap.size = w.heap.size + 1 := by simp
  have hra := range_below hr1 hb1 hTz
  have hrb := range_below hr2 hb1 hTz
  have hST := ST; have hSX := SX
  have Hnr := veil hnr; have HSbd := veil hSy; have HL := veil hL; have HSn := veil SN
  have H17 := veil h17; have H17b := veil h17b
  have HST := veil ST; have HSX := veil SX; have HSA := veil SA; have HSB := veil SB
  clear hr0 hr1 hr2 ST SX SA SB hws hws2 how hf hll hsm hR hst hcs hcs2 h1 h2 hST hSX hnr hSy hL SN h17 h17b
  unfold tabV at HSy
  generalize tabsCells cs A syms.length c cs2 A2 syms2.length c2 = zs at *
  generalize tabCells cs A syms.length c = xs at *
  generalize tabCells cs2 A2 syms2.length c2 = ys at *
  obtain ⟨W1, hW1⟩ : ∃ W1, W1 = w.alloc (.cells tok000.toArray 56) := ⟨_, rfl⟩
  have HW1 := veil hW1
  rw [← hW1] at hb1 hB1 hz1 hra hrb
  clear hW1
  have hbY := below1 W1 (.cells ys.toArray 34)
  have hBY := Blk.new W1 ys 34
  have hraY := range_below hra hbY (by omega)
  go_enter Try.func47, Try.ntmps47
  go_upto_region 1 with fail
  rw [show w.alloc (.cells #[Value.int IntKind.i64 0, Value.int IntKind.i64 0, Value.int IntKind.i64 0] 56) = W1 from HW1.out.symm]
  go_upto_region 2 with (first
    | (refine wpList_load_mid rfl 34 (.tmp 12) rfl T 17 rfl ys _ (by simpa using hrb) Try.underlying34 rfl (by rw [H17b.out]; exact info_tab) ?_)
    | (refine wpList_store_newQ W1 (w.heap.size + 1) hz1 rfl 34 (.tmp 6) (.tmp 13) rfl _ ys rfl rfl (by rw [H17b.out]; exact info_tab) (by rw [H17b.out]; rfl) o17b ?_)
    | fail)
  obtain ⟨W2, hW2⟩ : ∃ W2, W2 = W1.alloc (.cells ys.toArray 34) := ⟨_, rfl⟩
  rw [← hW2] at hbY hBY hraY ⊢
  have hz2 : W2.heap.size = W1.heap.size + 1 := by rw [hW2]; simp
  clear hW2
  rw [hz1] at hBY
  go_upto_region 4 with (first
    | (refine wpList_load_mid rfl 34 (.tmp 15) rfl T 0 rfl xs _ hraY Try.underlying34 rfl (by rw [H17.out]; exact info_tab) ?_)
    | (refine wpList_store_blk W2 rfl 34 (.tmp 6) (.tmp 16) rfl (w.heap.size + 1) ys xs 34 hBY rfl rfl (by rw [H17.out]; exact info_tab) (by rw [H17.out, H17b.out]) o17 ?_; intro W3 hB3 hg3)
    | fail)
  have hb23 : Below W1.heap.size W2 W3 := (Below.refl _ _).grown hg3 (by omega) (fun j hj => by injection hj with hj; omega)
  have hbw3 : Below w.heap.size w W3 := (hb1.trans (hbY.mono (by omega))).trans (hb23.mono (by omega))
  have hz3 := hb23.size
  have hX3 := HSX.out.below hbw3 hgz
  have hXc := hX3.cell (i := 0) (v := .string (txt s)) rfl
  have hB3r := hB3.range
  have HCall := veil (HSy.out W3 (HSA.out.below hbw3 hG) (by omega))
  have hTok3 := (hB1.below hbY (by omega)).below hb23 (by omega)
  have Htok := veil hTok3
  clear hXc hX3 hTok3
  have hXc := (HSX.out.below hbw3 hgz).cell (i := 0) (v := .string (txt s)) rfl
  clear hra hrb hraY hBY hb23 hbY hb1 hB1
  go_wp2_with (first
    | (refine wpList_load_mid rfl 34 (.tmp 6) rfl (w.heap.size + 1) 0 rfl xs _ hB3r Try.underlying34 rfl (by rw [H17.out]; exact info_tab) ?_)
    | fail)
  refine HCall.out.mono ?_
  rintro e w4 ⟨rfl, hb4⟩
  have hz4 := hb4.size
  have hbw4 := hbw3.trans (hb4.mono (by omega))
  have HT4 := Htok.out.below hb4 (by omega)
  have hgr4 := grown_below (World.grownBy.refl w (some g)) hbw4 (Nat.le_refl _)
  have Hg4 := veil hgr4
  have HT4 := veil HT4
  have HX4 := veil (HSX.out.below hbw4 hgz)
  have hbw4' := veil hbw4
  have hz14 : w.heap.size + 1 ≤ w4.heap.size := by omega
  clear HCall hB3r hB3 Htok HSy hXc hb4 hbw3 hgr4 hbw4 hg3 o17 o17b
  by_cases hE : nextE ws s = 0
  · have hnr := Hnr.out hE
    rw [hE, hnr]
    have e2 := E2.out hE
    have e3 := E3.out hE
    have e4 := E4.out hE
    clear E2 E3 E4
    have E2 := veil e2
    have E3 := veil e3
    have E4 := veil e4
    clear e2 e3 e4
    obtain ⟨hS0, hS1⟩ := HSbd.out
    have hLs := HL.out
    have hSn := HSn.out
    clear E1 hnr Hnr HSbd HL HSn hE
    generalize nextS ws s = sy at *
    generalize nextL ws s = L at *
    obtain ⟨Rr, hRr⟩ : ∃ Rr, Rr = s.drop L := ⟨_, rfl⟩
    rw [← hRr] at E3 E4 ⊢
    have hRl : Rr.length ≤ N := by rw [hRr, List.length_drop]; omega
    clear hRr
    obtain ⟨P, hP⟩ : ∃ P : Nat, sy = (P : Int) := ⟨sy.toNat, by omega⟩
    subst hP
    have e2 : 12 < (P : Int) ∨ true = false ∧ 11 < (P : Int) → st = Sum.inl 4 := E2.out
    have e3 : ¬ (12 < (P : Int) ∨ true = false ∧ 11 < (P : Int)) → Rr.length < P → st = Sum.inl 3 := E3.out
    have e4 : ¬ (12 < (P : Int) ∨ true = false ∧ 11 < (P : Int)) → ¬ Rr.length < P → st = Sum.inr (((P : Int), (P : Int), ((valB (Rr.take P) : Nat) : Int)), Rr.drop P) := E4.out
    clear E2 E3 E4
    have E2 := veil e2
    have E3 := veil e3
    have E4 := veil e4
    clear e2 e3 e4
    have hsz : (txt Rr).size = Rr.length := txt_size Rr
    by_cases hw : 12 < (P : Int)
    · have hst := E2.out (by first | exact .inl hw | exact .inr ⟨trivial, hw⟩)
      have Hst := veil hst
      clear hst E2 E3 E4
      go_wp2_with (first
        | (refine wpList_store_blk w4 rfl 56 (.tmp 4) (.tmp 42) rfl w.heap.size tok000 tok000 56 HT4.out rfl rfl info_tokR rfl tok000_one ?_; intro w5 HB5 hg5)
        | fail)
      all_goals exact segNext_err Hst.out rfl rfl rfl HB5 (grown_grown Hg4.out hg5 (Nat.le_refl _))
    · have hnw : ¬ (12 < (P : Int) ∨ (true = false ∧ 11 < (P : Int))) := fun h => h.elim hw (fun h => by cases h.1)
      have e3 := E3.out hnw
      have e4 := E4.out hnw
      clear E3 E4
      have E3 := veil e3
      have E4 := veil e4
      clear e3 e4
      have hP12 : P ≤ 12 := by omega
      clear hnw E2
      by_cases hsh : Rr.length < P
      · have Hst := veil (E3.out hsh)
        have hshz : (Rr.length : Int) < (P : Int) := by omega
        clear E3 E4
        generalize txt Rr = tx at *
        go_wp2_with (first
          | (refine wpList_store_blk w4 rfl 56 (.tmp 4) (.tmp 47) rfl w.heap.size tok000 tok000 56 HT4.out rfl rfl info_tokR rfl tok000_one ?_; intro w5 HB5 hg5)
          | fail)
        exact segNext_err Hst.out rfl rfl rfl HB5 (grown_grown Hg4.out hg5 (Nat.le_refl _))
      · have Hst := veil (E4.out hsh)
        have hshz : ¬ (Rr.length : Int) < (P : Int) := by omega
        have hcutA : ∀ w, (Instr.slice 9 (.string (txt Rr)) none (some (.int .i64 (P : Int))) none).run Try.prog w = .ok (.string (txt (Rr.take P))) w := by
          intro w
          rw [run_slice_string_to_if w 9 (txt Rr) .i64 _ Try.underlying9, if_pos ⟨by omega, by rw [hsz]; omega⟩, Int.toNat_natCast, txt_extract]
          simp
        have hcutB : ∀ w, (Instr.slice 9 (.string (txt Rr)) (some (.int .i64 (P : Int))) none none).run Try.prog w = .ok (.string (txt (Rr.drop P))) w := by
          intro w
          rw [run_slice_string_from_if w 9 (txt Rr) .i64 _ Try.underlying9, if_pos ⟨by omega, by rw [hsz]; omega⟩, Int.toNat_natCast, hsz, txt_extract]
          rw [List.take_of_length_le (by simp)]
        have hfb := fromBinary_any (Rr.take P) w4 (by rw [List.length_take]; omega)
        have hvb := valB_lt (Rr.take P)
        have hv2 : 2 ^ (Rr.take P).length ≤ 2 ^ 24 := two_pow_lt _ _ (by simp; omega)
        have hvs : (valB (Rr.take P) : Int) ≤ 16777216 := by omega
        clear hvb hv2
        have Hfb := veil hfb
        obtain ⟨v, hv⟩ : ∃ v, v = valB (Rr.take P) := ⟨_, rfl⟩
        rw [← hv] at Hst Hfb hvs
        have hdl : (Rr.drop P).length ≤ N := by rw [List.length_drop]; omega
        have Hdl := veil hdl
        obtain ⟨R2, hR2⟩ : ∃ R2, R2 = Rr.drop P := ⟨_, rfl⟩
        rw [← hR2] at Hst hcutB Hdl
        generalize txt (Rr.take P) = ta at *
        obtain ⟨tb, htb⟩ : ∃ tb, tb = txt R2 := ⟨_, rfl⟩
        rw [← htb] at hcutB
        have Htb := veil htb
        clear hfb E3 E4 hv hR2 htb hdl
        generalize txt Rr = tx at *
        go_wp2_with fail
        refine Hfb.out.mono ?_
        rintro e w5 ⟨rfl, hb5⟩
        have HX5 := HX4.out.below hb5 (by omega)
        have hX5c := HX5.cell (i := 0) (v := .string (txt s)) rfl
        have hX5f := HX5.frozen 0
        have HT5 := (HT4.out.below hb5 (by omega)).kept (grown_setCell w5 g 0 (.string tb)) (fun e => by injection e with e; omega)
        have HX6 := HX5.set 0 (.string tb)
        have hb5w := hbw4'.out.trans (hb5.mono (by omega))
        have Hg6 := veil (grown_grown' (grown_below (World.grownBy.refl w (some g)) hb5w (Nat.le_refl _)) (grown_setCell w5 g 0 (.string tb)))
        have HZ6 := veil ((HST.out.below hb5w hTz).kept (grown_setCell w5 g 0 (.string tb)) (fun e => by injection e with e; exact hTg e))
        have HA6 := veil (((HSA.out.below hb5w hG)).grown (grown_setCell w5 g 0 (.string tb)) hGg (Nat.le_trans hG hb5w.size))
        have HB6 := veil (((HSB.out.below hb5w hG)).grown (grown_setCell w5 g 0 (.string tb)) hGg (Nat.le_trans hG hb5w.size))
        have HX6 := veil HX6
        have HT5 := veil HT5
        have hgt : g < w.heap.size := hgz
        have hszw5 : w.heap.size ≤ w5.heap.size := hb5w.size
        clear HX5 hb5w hb5 Hfb HT4 HX4 hbw4'
        go_wp2_with (first
          | (refine wpList_store_blk (w5.setCell ⟨g, 0, none⟩ (.string tb)) rfl 56 (.tmp 4) (.tmp 58) rfl w.heap.size tok000 [.int .i64 (P : Int), .int .i64 (P : Int), .int .i64 (v : Int)] 56 HT5.out rfl rfl info_tokR rfl (tokw_one _ _ _) ?_; intro w7 HB7 hg7)
          | fail)
        have hkz : w.heap.size ≤ (w5.setCell ⟨g, 0, none⟩ (.string tb)).heap.size := Hg6.out.size
        refine segNext_ok Hst.out rfl rfl rfl rfl HB7 (grown_grown Hg6.out hg7 (Nat.le_refl _)) (HR.out w7 R2 (HZ6.out.kept hg7 (fun e => by injection e with e; omega)) ?_ (HA6.out.grown hg7 hG (by omega)) (HB6.out.grown hg7 hG (by omega)) Hdl.out)
        have := HX6.out.kept hg7 (fun e => by injection e with e; omega)
        rw [Htb.out] at this
        exact this
  · have Hst := veil (E1.out hE)
    have hne : (nextE ws s != 0) = true := by simpa using hE
    clear E1 E2 E3 E4 hE Hnr
    generalize nextE ws s = ne at *
    generalize nextS ws s = sy at *
    generalize txt (nextR ws s) = tx at *
    go_wp2_with (first
      | (refine wpList_store_blk w4 rfl 56 (.tmp 4) (.tmp 26) rfl w.heap.size tok000 tok000 56 HT4.out rfl rfl info_tokR rfl tok000_one ?_; intro w5 HB5 hg5)
      | fail)
    exact segNext_err Hst.out rfl rfl rfl HB5 (grown_grown Hg4.out hg5 (Nat.le_refl _))
set_option maxRecDepth 100000 in
set_option maxHeartbeats 1000000 in
theorem segNext_rest (cs syms : List Int) (A : Option Addr) (c : Nat) (cs2 syms2 : List Int) (A2 : Option Addr) (c2 G T g N : Nat) (s : List Bool) (w : World)
    (hcs : cs.length = 16) (hcs2 : cs2.length = 16) (h1 : checkErr cs syms = 0) (h2 : checkErr cs2 syms2 = 0) (hN : N ≤ 140737488355328) (hTg : T ≠ g) (hG : G ≤ w.heap.size) (hGT : G ≤ T) (hGg : G ≤ g)
    (hS : SrcD cs syms A c cs2 syms2 A2 c2 G T g N w s) :
    Calls Try.prog 47 #[.bool false, .pointer (some ⟨T, 0, none⟩), .pointer (some ⟨g, 0, none⟩)] w fun e w' => NextPost (SrcD cs syms A c cs2 syms2 A2 c2 G T g N) g w (stepS (outWords cs syms) (outWords cs2 syms2) false s) e w' := by
  obtain ⟨ST, SX, SA, SB, SN⟩ := hS
  have hTz := ST.lt
  have hgz := SX.lt
  obtain ⟨l, hf, how, hll⟩ := fine_of h2
  have HSy := veil (fun W (h : Seen W G A2 (ints .i64 syms2)) (hG : G ≤ W.heap.size) => symOf_any cs2 syms2 l A2 c2 G s W hcs2 hf h hG (by omega))
  rw [← how] at HSy
  obtain ⟨ws, hws⟩ : ∃ ws, ws = wsOf (outWords cs syms) (outWords cs2 syms2) false := ⟨_, rfl⟩
  have hws2 : outWords cs2 syms2 = ws := hws.symm
  rw [hws2] at HSy
  have hsm : ∀ t ∈ ws, 0 ≤ t.1 ∧ t.1 ≤ 255 := by
    rw [← hws2, how]
    exact fun t ht => (hf.word hcs2 ht).1
  have hL := nextL_le (ws := ws) (b := s)
  have hSy := nextS_wf (ws := ws) (b := s) hsm
  have E1 := veil (stepR_word (fw := outWords cs syms) (rw_ := outWords cs2 syms2) (first := false) (b := s))
  have E2 := veil (stepR_wide (fw := outWords cs syms) (rw_ := outWords cs2 syms2) (first := false) (b := s))
  have E3 := veil (stepR_short (fw := outWords cs syms) (rw_ := outWords cs2 syms2) (first := false) (b := s))
  have E4 := veil (stepR_ok (fw := outWords cs syms) (rw_ := outWords cs2 syms2) (first := false) (b := s))
  have hnr := nextR_hit (ws := ws) (b := s)
  rw [← hws] at E1 E2 E3 E4
  obtain ⟨st, hst⟩ : ∃ st, st = stepS (outWords cs syms) (outWords cs2 syms2) false s := ⟨_, rfl⟩
  rw [← hst] at E1 E2 E3 E4 ⊢
  have hr0 := ST.range
  have hr1 := range_left hr0
  have hr2 := range_right hr0
  have h17 : (tabCells cs A syms.length c).length = 17 := tabCells_length hcs
  have h17b : (tabCells cs2 A2 syms2.length c2).length = 17 := tabCells_length hcs2
  have o17 := tabCells_one (cs := cs) (A := A) (n := syms.length) (c := c)
  have o17b := tabCells_one (cs := cs2) (A := A2) (n := syms2.length) (c := c2)
  rw [h17] at hr2
  have HR := veil (fun W s2 (a1 : Blk W T (tabsCells cs A syms.length c cs2 A2 syms2.length c2) 36) (a2 : Blk W g [.string (txt s2)] 9) (a3 : Seen W G A (ints .i64 syms)) (a4 : Seen W G A2 (ints .i64 syms2)) (a5 : s2.length ≤ N) => (⟨a1, a2, a3, a4, a5⟩ : SrcD cs syms A c cs2 syms2 A2 c2 G T g N W s2))
  obtain ⟨R, hR⟩ : ∃ R, R = SrcD cs syms A c cs2 syms2 A2 c2 G T g N := ⟨_, rfl⟩
  rw [← hR] at HR ⊢
  have hb1 := below1 w (.cells tok000.toArray 56)
  have hB1 := Blk.new w tok000 56
  have hz1 : (w.alloc (.cells tok000.toArray 56)).heap.size = w.heap.size + 1 := by simp
  have hra := range_below hr1 hb1 hTz
  have hrb := range_below hr2 hb1 hTz
  have hST := ST; have hSX := SX
  have Hnr := veil hnr; have HSbd := veil hSy; have HL := veil hL; have HSn := veil SN
  have H17 := veil h17; have H17b := veil h17b
  have HST := veil ST; have HSX := veil SX; have HSA := veil SA; have HSB := veil SB
  clear hr0 hr1 hr2 ST SX SA SB hws hws2 how hf hll hsm hR hst hcs hcs2 h1 h2 hST hSX hnr hSy hL SN h17 h17b
  unfold tabV at HSy
  generalize tabsCells cs A syms.length c cs2 A2 syms2.length c2 = zs at *
  generalize tabCells cs A syms.length c = xs at *
  generalize tabCells cs2 A2 syms2.length c2 = ys at *
  obtain ⟨W1, hW1⟩ : ∃ W1, W1 = w.alloc (.cells tok000.toArray 56) := ⟨_, rfl⟩
  have HW1 := veil hW1
  rw [← hW1] at hb1 hB1 hz1 hra hrb
  clear hW1
  have hbY := below1 W1 (.cells ys.toArray 34)
  have hBY := Blk.new W1 ys 34
  have hraY := range_below hra hbY (by omega)
  go_enter Try.func47, Try.ntmps47
  go_upto_region 1 with fail
  rw [show w.alloc (.cells #[Value.int IntKind.i64 0, Value.int IntKind.i64 0, Value.int IntKind.i64 0] 56) = W1 from HW1.out.symm]
  go_upto_region 2 with (first
    | (refine wpList_load_mid rfl 34 (.tmp 12) rfl T 17 rfl ys _ (by simpa using hrb) Try.underlying34 rfl (by rw [H17b.out]; exact info_tab) ?_)
    | (refine wpList_store_newQ W1 (w.heap.size + 1) hz1 rfl 34 (.tmp 6) (.tmp 13) rfl _ ys rfl rfl (by rw [H17b.out]; exact info_tab) (by rw [H17b.out]; rfl) o17b ?_)
    | fail)
  obtain ⟨W2, hW2⟩ : ∃ W2, W2 = W1.alloc (.cells ys.toArray 34) := ⟨_, rfl⟩
  rw [← hW2] at hbY hBY hraY ⊢
  have hz2 : W2.heap.size = W1.heap.size + 1 := by rw [hW2]; simp
  clear hW2
  rw [hz1] at hBY
  go_upto_region 4 with fail
  obtain ⟨W3, hW3⟩ : ∃ W3, W3 = W2 := ⟨_, rfl⟩
  have hB3 := hBY
  have hb23 : Below W1.heap.size W2 W3 := by rw [hW3]; exact Below.refl _ _
  rw [← hW3] at hB3 ⊢
  clear hW3
  have hbw3 : Below w.heap.size w W3 := (hb1.trans (hbY.mono (by omega))).trans (hb23.mono (by omega))
  have hz3 := hb23.size
  have hX3 := HSX.out.below hbw3 hgz
  have hXc := hX3.cell (i := 0) (v := .string (txt s)) rfl
  have hB3r := hB3.range
  have HCall := veil (HSy.out W3 (HSB.out.below hbw3 hG) (by omega))
  have hTok3 := (hB1.below hbY (by omega)).below hb23 (by omega)
  have Htok := veil hTok3
  clear hXc hX3 hTok3
  have hXc := (HSX.out.below hbw3 hgz).cell (i := 0) (v := .string (txt s)) rfl
  clear hra hrb hraY hBY hb23 hbY hb1 hB1
  go_wp2_with (first
    | (refine wpList_load_mid rfl 34 (.tmp 6) rfl (w.heap.size + 1) 0 rfl ys _ hB3r Try.underlying34 rfl (by rw [H17b.out]; exact info_tab) ?_)
    | fail)
  refine HCall.out.mono ?_
  rintro e w4 ⟨rfl, hb4⟩
  have hz4 := hb4.size
  have hbw4 := hbw3.trans (hb4.mono (by omega))
  have HT4 := Htok.out.below hb4 (by omega)
  have hgr4 := grown_below (World.grownBy.refl w (some g)) hbw4 (Nat.le_refl _)
  have Hg4 := veil hgr4
  have HT4 := veil HT4
  have HX4 := veil (HSX.out.below hbw4 hgz)
  have hbw4' := veil hbw4
  have hz14 : w.heap.size + 1 ≤ w4.heap.size := by omega
  clear HCall hB3r hB3 Htok HSy hXc hb4 hbw3 hgr4 hbw4 o17 o17b
  by_cases hE : nextE ws s = 0
  · have hnr := Hnr.out hE
    rw [hE, hnr]
    have e2 := E2.out hE
    have e3 := E3.out hE
    have e4 := E4.out hE
    clear E2 E3 E4
    have E2 := veil e2
    have E3 := veil e3
    have E4 := veil e4
    clear e2 e3 e4
    obtain ⟨hS0, hS1⟩ := HSbd.out
    have hLs := HL.out
    have hSn := HSn.out
    clear E1 hnr Hnr HSbd HL HSn hE
    generalize nextS ws s = sy at *
    generalize nextL ws s = L at *
    obtain ⟨Rr, hRr⟩ : ∃ Rr, Rr = s.drop L := ⟨_, rfl⟩
    rw [← hRr] at E3 E4 ⊢
    have hRl : Rr.length ≤ N := by rw [hRr, List.length_drop]; omega
    clear hRr
    obtain ⟨P, hP⟩ : ∃ P : Nat, sy % 16 = (P : Int) := ⟨(sy % 16).toNat, by omega⟩
    have hwd : widS false sy = (P : Int) := hP
    rw [hwd] at E2 E3 E4
    have e2 : 12 < (P : Int) ∨ True ∧ 11 < (P : Int) → st = Sum.inl 4 := E2.out
    have e3 : ¬ (12 < (P : Int) ∨ True ∧ 11 < (P : Int)) → Rr.length < P → st = Sum.inl 3 := E3.out
    have e4 : ¬ (12 < (P : Int) ∨ True ∧ 11 < (P : Int)) → ¬ Rr.length < P → st = Sum.inr ((sy, (P : Int), ((valB (Rr.take P) : Nat) : Int)), Rr.drop P) := E4.out
    clear E2 E3 E4
    have E2 := veil e2
    have E3 := veil e3
    have E4 := veil e4
    clear e2 e3 e4
    have hsz : (txt Rr).size = Rr.length := txt_size Rr
    by_cases hw : 11 < (P : Int)
    · have hst := E2.out (by first | exact .inl hw | exact .inr ⟨trivial, hw⟩)
      have Hst := veil hst
      clear hst E2 E3 E4
      go_wp2_with (first
        | (refine wpList_store_blk w4 rfl 56 (.tmp 4) (.tmp 42) rfl w.heap.size tok000 tok000 56 HT4.out rfl rfl info_tokR rfl tok000_one ?_; intro w5 HB5 hg5)
        | fail)
      all_goals exact segNext_err Hst.out rfl rfl rfl HB5 (grown_grown Hg4.out hg5 (Nat.le_refl _))
    · have hnw : ¬ (12 < (P : Int) ∨ (True ∧ 11 < (P : Int))) := fun h => h.elim (fun h => hw (by omega)) (fun h => hw h.2)
      have e3 := E3.out hnw
      have e4 := E4.out hnw
      clear E3 E4
      have E3 := veil e3
      have E4 := veil e4
      clear e3 e4
      have hP12 : P ≤ 12 := by omega
      clear hnw E2
      have hw12 : ¬ 12 < (P : Int) := by omega
      by_cases hsh : Rr.length < P
      · have Hst := veil (E3.out hsh)
        have hshz : (Rr.length : Int) < (P : Int) := by omega
        clear E3 E4
        generalize txt Rr = tx at *
        go_wp2_with (first
          | (refine wpList_store_blk w4 rfl 56 (.tmp 4) (.tmp 47) rfl w.heap.size tok000 tok000 56 HT4.out rfl rfl info_tokR rfl tok000_one ?_; intro w5 HB5 hg5)
          | fail)
        exact segNext_err Hst.out rfl rfl rfl HB5 (grown_grown Hg4.out hg5 (Nat.le_refl _))
      · have Hst := veil (E4.out hsh)
        have hshz : ¬ (Rr.length : Int) < (P : Int) := by omega
        have hcutA : ∀ w, (Instr.slice 9 (.string (txt Rr)) none (some (.int .i64 (P : Int))) none).run Try.prog w = .ok (.string (txt (Rr.take P))) w := by
          intro w
          rw [run_slice_string_to_if w 9 (txt Rr) .i64 _ Try.underlying9, if_pos ⟨by omega, by rw [hsz]; omega⟩, Int.toNat_natCast, txt_extract]
          simp
        have hcutB : ∀ w, (Instr.slice 9 (.string (txt Rr)) (some (.int .i64 (P : Int))) none none).run Try.prog w = .ok (.string (txt (Rr.drop P))) w := by
          intro w
          rw [run_slice_string_from_if w 9 (txt Rr) .i64 _ Try.underlying9, if_pos ⟨by omega, by rw [hsz]; omega⟩, Int.toNat_natCast, hsz, txt_extract]
          rw [List.take_of_length_le (by simp)]
        have hfb := fromBinary_any (Rr.take P) w4 (by rw [List.length_take]; omega)
        have hvb := valB_lt (Rr.take P)
        have hv2 : 2 ^ (Rr.take P).length ≤ 2 ^ 24 := two_pow_lt _ _ (by simp; omega)
        have hvs : (valB (Rr.take P) : Int) ≤ 16777216 := by omega
        clear hvb hv2
        have Hfb := veil hfb
        obtain ⟨v, hv⟩ : ∃ v, v = valB (Rr.take P) := ⟨_, rfl⟩
        rw [← hv] at Hst Hfb hvs
        have hdl : (Rr.drop P).length ≤ N := by rw [List.length_drop]; omega
        have Hdl := veil hdl
        obtain ⟨R2, hR2⟩ : ∃ R2, R2 = Rr.drop P := ⟨_, rfl⟩
        rw [← hR2] at Hst hcutB Hdl
        generalize txt (Rr.take P) = ta at *
        obtain ⟨tb, htb⟩ : ∃ tb, tb = txt R2 := ⟨_, rfl⟩
        rw [← htb] at hcutB
        have Htb := veil htb
        clear hfb E3 E4 hv hR2 htb hdl
        generalize txt Rr = tx at *
        go_wp2_with fail
        refine Hfb.out.mono ?_
        rintro e w5 ⟨rfl, hb5⟩
        have HX5 := HX4.out.below hb5 (by omega)
        have hX5c := HX5.cell (i := 0) (v := .string (txt s)) rfl
        have hX5f := HX5.frozen 0
        have HT5 := (HT4.out.below hb5 (by omega)).kept (grown_setCell w5 g 0 (.string tb)) (fun e => by injection e with e; omega)
        have HX6 := HX5.set 0 (.string tb)
        have hb5w := hbw4'.out.trans (hb5.mono (by omega))
        have Hg6 := veil (grown_grown' (grown_below (World.grownBy.refl w (some g)) hb5w (Nat.le_refl _)) (grown_setCell w5 g 0 (.string tb)))
        have HZ6 := veil ((HST.out.below hb5w hTz).kept (grown_setCell w5 g 0 (.string tb)) (fun e => by injection e with e; exact hTg e))
        have HA6 := veil (((HSA.out.below hb5w hG)).grown (grown_setCell w5 g 0 (.string tb)) hGg (Nat.le_trans hG hb5w.size))
        have HB6 := veil (((HSB.out.below hb5w hG)).grown (grown_setCell w5 g 0 (.string tb)) hGg (Nat.le_trans hG hb5w.size))
        have HX6 := veil HX6
        have HT5 := veil HT5
        have hgt : g < w.heap.size := hgz
        have hszw5 : w.heap.size ≤ w5.heap.size := hb5w.size
        clear HX5 hb5w hb5 Hfb HT4 HX4 hbw4'
        go_wp2_with (first
          | (refine wpList_store_blk (w5.setCell ⟨g, 0, none⟩ (.string tb)) rfl 56 (.tmp 4) (.tmp 58) rfl w.heap.size tok000 [.int .i64 sy, .int .i64 (P : Int), .int .i64 (v : Int)] 56 HT5.out rfl rfl info_tokR rfl (tokw_one _ _ _) ?_; intro w7 HB7 hg7)
          | fail)
        have hkz : w.heap.size ≤ (w5.setCell ⟨g, 0, none⟩ (.string tb)).heap.size := Hg6.out.size
        refine segNext_ok Hst.out rfl rfl rfl rfl HB7 (grown_grown Hg6.out hg7 (Nat.le_refl _)) (HR.out w7 R2 (HZ6.out.kept hg7 (fun e => by injection e with e; omega)) ?_ (HA6.out.grown hg7 hG (by omega)) (HB6.out.grown hg7 hG (by omega)) Hdl.out)
        have := HX6.out.kept hg7 (fun e => by injection e with e; omega)
        rw [Htb.out] at this
        exact this
  · have Hst := veil (E1.out hE)
    have hne : (nextE ws s != 0) = true := by simpa using hE
    clear E1 E2 E3 E4 hE Hnr
    generalize nextE ws s = ne at *
    generalize nextS ws s = sy at *
    generalize txt (nextR ws s) = tx at *
    go_wp2_with (first
      | (refine wpList_store_blk w4 rfl 56 (.tmp 4) (.tmp 26) rfl w.heap.size tok000 tok000 56 HT4.out rfl rfl info_tokR rfl tok000_one ?_; intro w5 HB5 hg5)
      | fail)
    exact segNext_err Hst.out rfl rfl rfl HB5 (grown_grown Hg4.out hg5 (Nat.le_refl _))
end Go.Proofs.Ytbboakdfnjjddaa
