/- Texts shared by the claims of this seat, in one. -/
import Derived.Test.YtddkhkpdbjjboaaGreatBd1
import Derived.Test.YtddkhkpdbjjboaaGreatRows
import Derived.Laws.ResultCell
import Derived.ChangeKeysEq
import Derived.OpenShut
import Derived.Test.YtddkhkpdbjjboaaGreatChecked
import Derived.Laws.MakeOwn
/- A block's value (64 numbers), and whether two are equal. -/
namespace Go.Proofs.YtddkhkpdbjjboaaGreat
open Go.RowKit
set_option linter.unusedVariables false
set_option linter.unusedSimpArgs false
set_option maxRecDepth 100000

/-- A block's value. -/
abbrev blkV (cs : List Int) : Value := .agg (ints .i64 cs).toArray
theorem info_blk : (Tryz.prog.info? 37).map (·.size) = some 64 := by kernel_rfl
theorem info_blkn {xs : List Value} (h : xs.length = 64) : (Tryz.prog.info? 37).map (·.size) = some xs.length := by rw [h]; exact info_blk
theorem run_eqItems_ints {P : Program} (w : World) (d : Nat) {e : TypeId} {k : IntKind} (he : P.underlying e = some (.int k)) (hp : P.plainKey e = true) (cs ds : List Int) : ∀ (is : List Nat), (∀ i ∈ is, i < cs.length ∧ i < ds.length) →
    (Op.eqItems (d + 1) e 1 (ints k cs).toArray (ints k ds).toArray is).run P w = .ok (decide (∀ i ∈ is, cs[i]? = ds[i]?)) w
  | [], _ => by simp [Op.eqItems]
  | i :: is, h => by
    obtain ⟨h1, h2⟩ := h i (by simp)
    obtain ⟨x, hx⟩ := some_at h1
    obtain ⟨y, hy⟩ := some_at h2
    have p1 : (part e (ints k cs).toArray (i * 1)).run P w = .ok (.int k x) w := run_part_plain w hp (by simpa using ints_at (k := k) hx)
    have p2 : (part e (ints k ds).toArray (i * 1)).run P w = .ok (.int k y) w := run_part_plain w hp (by simpa using ints_at (k := k) hy)
    have ih := run_eqItems_ints w d he hp cs ds is fun j hj => h j (by simp [hj])
    simp only [Op.eqItems, Sem.run_bind, p1, p2, Result.andThen_ok, run_equalIn_int w d e k k x y he]
    by_cases hxy : x = y
    · subst hxy
      simp only [beq_self_eq_true, Bool.not_true, Bool.false_eq_true, if_false, ih]
      congr 1
      simp only [decide_eq_decide]
      constructor
      · intro h j hj
        rcases List.mem_cons.1 hj with rfl | hj
        · rw [hx, hy]
        · exact h j hj
      · intro h j hj; exact h j (by simp [hj])
    · have hb : (x == y) = false := by simpa using hxy
      simp only [hb, Bool.not_false, if_true, Sem.run_pure]
      congr 1
      symm
      simp only [decide_eq_false_iff_not]
      intro h3
      have := h3 i (by simp)
      rw [hx, hy] at this
      exact hxy (by injection this)
theorem ext64 {cs ds : List Int} (hc : cs.length = 64) (hd : ds.length = 64) : (∀ i ∈ List.range 64, cs[i]? = ds[i]?) ↔ cs = ds := by
  constructor
  · intro h
    apply List.ext_getElem?
    intro i
    by_cases hi : i < 64
    · exact h i (List.mem_range.2 hi)
    · rw [List.getElem?_eq_none (by omega), List.getElem?_eq_none (by omega)]
  · rintro rfl i _; rfl
/-- Two blocks compared. -/
theorem blk_eql (cs ds : List Int) (hc : cs.length = 64) (hd : ds.length = 64) (u : World) : (binOp .eql 37 (blkV cs) (blkV ds)).run Tryz.prog u = .ok (.bool (decide (cs = ds))) u := by
  cases hi : Tryz.prog.info? 3 with
  | none => have : (Tryz.prog.info? 3).isSome = true := by kernel_rfl
            rw [hi] at this; cases this
  | some inf =>
    have hc1 : Tryz.prog.cellsOf 3 = 1 := by kernel_rfl
    rw [run_eql_struct u 37, show (10000 : Nat) = 9998 + 1 + 1 from rfl, run_equalIn_array u (9998 + 1) _ _ Tryz.underlying37 hi, hc1,
      run_eqItems_ints u 9998 Tryz.underlying3 (by kernel_rfl) cs ds (List.range 64) (fun i hi => by have := List.mem_range.1 hi; omega)]
    simp only [Result.andThen_ok]
    exact congrArg (fun b => Result.ok (Value.bool b) u) (decide_eq_decide.2 (ext64 hc hd))
end Go.Proofs.YtddkhkpdbjjboaaGreat

/- The zero block, three blocks just laid, a block and a code handed back: what the walks over blocks share. -/
namespace Go.Proofs.YtddkhkpdbjjboaaGreat
open Go.RowKit
set_option linter.unusedVariables false
set_option linter.unusedSimpArgs false
set_option maxRecDepth 100000

def zeroB : List Value := ints .i64 (List.replicate 64 0)
theorem zeroB_length : zeroB.length = 64 := by simp [zeroB, ints_length]
def zero64 : List Int := List.replicate 64 0
theorem zero64_length : zero64.length = 64 := by simp [zero64]
theorem results_row_tmp {P : Program} {fn : Func} {p u : Tmp} {ty : TypeId} (h : fn.results = #[.cell p ty, .tmp u]) (tmps : Array Value) (w : World) (g : Nat) (t : TypeId) (cs : Array Value) (fr : Nat × Nat) (d : TypeDesc) (x : Value)
    (hp : tmps.getD p undef = .pointer (some ⟨g, 0, none⟩)) (hx : tmps.getD u undef = x) (hg : w.heap[g]? = some (.cells cs t fr))
    (hu : P.underlying ty = some d) (hd : (match d with | .struct _ | .array _ _ => true | _ => false) = true) (hi : (P.info? ty).map (·.size) = some cs.size) :
    (results fn tmps).run P w = .ok (.tuple #[.agg cs, x]) w := by
  rw [results_cell_tmp h, hp, hx]
  simp [asAddr, run_loadVar_row w g t ty cs fr d hg hu hd hi, Result.andThen]
/-- The three blocks that these functions lay. -/
def box3 (cs : List Int) (w : World) : World := ((w.alloc (.cells (ints .i64 cs).toArray 37)).alloc (.cells zeroB.toArray 37)).alloc (.cells zeroB.toArray 37)
theorem box3_is (cs : List Int) (w : World) : Below w.heap.size w (box3 cs w) ∧ Blk (box3 cs w) w.heap.size (ints .i64 cs) 37 ∧ Blk (box3 cs w) (w.heap.size + 1) zeroB 37 ∧ Blk (box3 cs w) (w.heap.size + 1 + 1) zeroB 37 ∧ (box3 cs w).heap.size = w.heap.size + 3 := by
  have e1 := World.size_alloc w (.cells (ints .i64 cs).toArray 37)
  have e2 := World.size_alloc (w.alloc (.cells (ints .i64 cs).toArray 37)) (.cells zeroB.toArray 37)
  have h0 := Blk.new w (ints .i64 cs) 37
  have h1 := Blk.new (w.alloc (.cells (ints .i64 cs).toArray 37)) zeroB 37
  have h2 := Blk.new ((w.alloc (.cells (ints .i64 cs).toArray 37)).alloc (.cells zeroB.toArray 37)) zeroB 37
  have b1 := below1 ((w.alloc (.cells (ints .i64 cs).toArray 37)).alloc (.cells zeroB.toArray 37)) (.cells zeroB.toArray 37)
  have b2 := below2 (w.alloc (.cells (ints .i64 cs).toArray 37)) (.cells zeroB.toArray 37) (.cells zeroB.toArray 37)
  refine ⟨below3 _ _ _ _, h0.below b2 (by omega), ?_, ?_, by simp [box3]⟩
  · have := h1.below b1 (by omega)
    rw [e1] at this; exact this
  · rw [e2, e1] at h2; exact h2
end Go.Proofs.YtddkhkpdbjjboaaGreat

/- Rounding and clamping in numbers; blocks made number by number. -/
namespace Go.Proofs.YtddkhkpdbjjboaaGreat
open Go.RowKit
set_option linter.unusedVariables false
set_option linter.unusedSimpArgs false
set_option maxRecDepth 100000

/-- All numbers within bounds. -/
def inB (lo hi : Int) (cs : List Int) : Bool := cs.all fun x => decide (lo ≤ x) && decide (x ≤ hi)
theorem inB_mem {lo hi : Int} {cs : List Int} : inB lo hi cs = true ↔ ∀ x ∈ cs, lo ≤ x ∧ x ≤ hi := by simp [inB]
theorem inB_at {lo hi : Int} {cs : List Int} (h : inB lo hi cs = true) {i : Nat} {x : Int} (hx : cs[i]? = some x) : lo ≤ x ∧ x ≤ hi := inB_mem.1 h x (List.mem_of_getElem? hx)
end Go.Proofs.YtddkhkpdbjjboaaGreat

/- What Tokens and Block answer, in numbers. No program is named here. -/
namespace Go.Proofs.YtddkhkpdbjjboaaGreat
set_option linter.unusedVariables false
set_option linter.unusedSimpArgs false
set_option maxRecDepth 100000

/-- A token's value. -/
def tokV (t : Int × Int × Int) : Value := .agg #[.int .i64 t.1, .int .i64 t.2.1, .int .i64 t.2.2]
def eT (b : Int) (cs : List Int) : Int := if -2047 ≤ b ∧ b ≤ 2047 ∧ inB (-2047) 2047 cs = true then 0 else 1
def oT (b : Int) (cs : List Int) : List (Int × Int × Int) := if eT b cs = 0 then toksZ b (toL cs) else []
theorem eT_ok {b : Int} {cs : List Int} (h1 : -2047 ≤ b) (h2 : b ≤ 2047) (h3 : inB (-2047) 2047 cs = true) : eT b cs = 0 := if_pos ⟨h1, h2, h3⟩
theorem eT_bad {b : Int} {cs : List Int} (h : ¬ (-2047 ≤ b ∧ b ≤ 2047 ∧ inB (-2047) 2047 cs = true)) : eT b cs = 1 := if_neg h
theorem oT_ok {b : Int} {cs : List Int} (h : eT b cs = 0) : oT b cs = toksZ b (toL cs) := if_pos h
theorem oT_bad {b : Int} {cs : List Int} (h : eT b cs ≠ 0) : oT b cs = [] := if_neg h
theorem toL_length (cs : List Int) : (toL cs).length = 64 := toK_length _ _
theorem fromL_length (cs : List Int) : (fromL cs).length = 64 := fromK_length _ _
theorem toL_mem {cs : List Int} (hc : cs.length = 64) {z : Int} (h : z ∈ toL cs) : z ∈ cs := by
  obtain ⟨k, hk⟩ := List.getElem?_of_mem h
  have h64 : k < 64 := by have := (List.getElem?_eq_some_iff.1 hk).1; rw [toL_length] at this; exact this
  obtain ⟨⟨n, hn⟩, h1, _⟩ := zz_at ⟨k, h64⟩
  rw [toL_at h64 h1] at hk
  injection hk with hk
  have := getD_some (cs := cs) (k := n) (by omega)
  rw [hk] at this
  exact List.mem_of_getElem? this
theorem fromL_mem {cs : List Int} (hc : cs.length = 64) {z : Int} (h : z ∈ fromL cs) : z ∈ cs := by
  obtain ⟨k, hk⟩ := List.getElem?_of_mem h
  have h64 : k < 64 := by have := (List.getElem?_eq_some_iff.1 hk).1; rw [fromL_length] at this; exact this
  rw [fromL_at h64] at hk
  injection hk with hk
  have := getD_some (cs := cs) (k := zz.idxOf (k : Int)) (by have := (zz_back ⟨k, h64⟩).1; simp only at this; omega)
  rw [hk] at this
  exact List.mem_of_getElem? this
theorem toL_in {cs : List Int} (hc : cs.length = 64) (h : inB (-2047) 2047 cs = true) : ∀ z ∈ toL cs, -2047 ≤ z ∧ z ≤ 2047 := fun z hz => inB_mem.1 h z (toL_mem hc hz)
theorem toks_len (b : Int) {zs : List Int} (h : zs.length = 64) : (toksZ b zs).length ≤ 64 := by
  match zs, h with
  | z :: zs, h =>
    have := len_rest zs 0
    rw [List.length_cons] at h
    rw [toksZ, List.length_cons]; omega
end Go.Proofs.YtddkhkpdbjjboaaGreat

/- The reader of a block's tokens out of any source. No program is named here. -/
namespace Go.Proofs.YtddkhkpdbjjboaaGreat
set_option linter.unusedVariables false
set_option linter.unusedSimpArgs false
set_option maxRecDepth 100000
section
variable {σ : Type} (step : Bool → σ → Int ⊕ ((Int × Int × Int) × σ))
/-- k numbers out of a source: an error's code, the numbers, the tokens, what is left. -/
def gR : Nat → σ → Int × List Int × List (Int × Int × Int) × Option σ
  | 0, s => (0, [], [], some s)
  | k + 1, s =>
    match step false s with
    | .inl e => (e, [], [], none)
    | .inr (t, s2) =>
      if okT t = true then
        if t.1 = 0 then (0, List.replicate (k + 1) 0, [t], some s2)
        else if k + 1 < farT t then (4, [], [], none)
        else
          let d := gR (k + 1 - farT t) s2
          if d.1 = 0 then (0, List.replicate (farT t - 1) 0 ++ numT t :: d.2.1, t :: d.2.2.1, d.2.2.2) else (d.1, [], [], none)
      else (4, [], [], none)
termination_by k => k
decreasing_by unfold farT; omega
/-- Numbers read so far, and what is still to read. -/
def joinG (pre : List Int) (all : List (Int × Int × Int)) (d : Int × List Int × List (Int × Int × Int) × Option σ) : Int × List Int × List (Int × Int × Int) × Option σ :=
  if d.1 = 0 then (0, pre ++ d.2.1, all ++ d.2.2.1, d.2.2.2) else (d.1, [], [], none)
/-- Are they the tokens of the block? -/
def finG (before : Int) (d : Int × List Int × List (Int × Int × Int) × Option σ) : Int × List Int × List (Int × Int × Int) × Option σ :=
  if d.1 = 0 then (if toksZ before d.2.1 = d.2.2.1 then d else (4, [], [], none)) else d
def firstT (before : Int) (t : Int × Int × Int) : Prop := fitT t = true ∧ t.1 = t.2.1 ∧ -2047 ≤ before + numT t ∧ before + numT t ≤ 2047
instance (before : Int) (t : Int × Int × Int) : Decidable (firstT before t) := by unfold firstT; infer_instance
/-- A block out of a source. -/
def gB (before : Int) (s : σ) : Int × List Int × List (Int × Int × Int) × Option σ :=
  match step true s with
  | .inl e => (e, [], [], none)
  | .inr (t, s2) => if firstT before t then finG before (joinG [before + numT t] [t] (gR step 63 s2)) else (4, [], [], none)
variable {step}
theorem gB_none {before e : Int} {s : σ} (h : step true s = .inl e) : gB step before s = (e, [], [], none) := by unfold gB; rw [h]
theorem gB_bad {before : Int} {t : Int × Int × Int} {s s2 : σ} (h : step true s = .inr (t, s2)) (hf : ¬ firstT before t) : gB step before s = (4, [], [], none) := by unfold gB; rw [h]; simp only []; rw [if_neg hf]
theorem gB_go {before : Int} {t : Int × Int × Int} {s s2 : σ} (h : step true s = .inr (t, s2)) (hf : firstT before t) : gB step before s = finG before (joinG [before + numT t] [t] (gR step 63 s2)) := by unfold gB; rw [h]; simp only []; rw [if_pos hf]
theorem joinG_all (pre : List Int) (all : List (Int × Int × Int)) (s : σ) : joinG pre all (gR step 0 s) = (0, pre, all, some s) := by
  rw [gR]; unfold joinG; simp
theorem joinG_none (pre : List Int) (all : List (Int × Int × Int)) {k : Nat} {s : σ} {e : Int} (hk : 0 < k) (he : e ≠ 0) (h : step false s = .inl e) : joinG pre all (gR step k s) = (e, [], [], none) := by
  obtain ⟨k, rfl⟩ : ∃ j, k = j + 1 := ⟨k - 1, by omega⟩
  rw [gR, h]; unfold joinG; simp [he]
theorem joinG_bad (pre : List Int) (all : List (Int × Int × Int)) {k : Nat} {s s2 : σ} {t : Int × Int × Int} (hk : 0 < k) (h : step false s = .inr (t, s2)) (ht : okT t = false) : joinG pre all (gR step k s) = (4, [], [], none) := by
  obtain ⟨k, rfl⟩ : ∃ j, k = j + 1 := ⟨k - 1, by omega⟩
  rw [gR, h]; simp only []; rw [if_neg (by rw [ht]; decide)]; rfl
theorem joinG_end (pre : List Int) (all : List (Int × Int × Int)) {k : Nat} {s s2 : σ} {t : Int × Int × Int} (hk : 0 < k) (h : step false s = .inr (t, s2)) (ht : okT t = true) (h0 : t.1 = 0) : joinG pre all (gR step k s) = (0, pre ++ List.replicate k 0, all ++ [t], some s2) := by
  obtain ⟨k, rfl⟩ : ∃ j, k = j + 1 := ⟨k - 1, by omega⟩
  rw [gR, h]; simp only []; rw [if_pos ht, if_pos h0]; rfl
theorem joinG_far (pre : List Int) (all : List (Int × Int × Int)) {k : Nat} {s s2 : σ} {t : Int × Int × Int} (hk : 0 < k) (h : step false s = .inr (t, s2)) (ht : okT t = true) (h0 : t.1 ≠ 0) (hf : k < farT t) : joinG pre all (gR step k s) = (4, [], [], none) := by
  obtain ⟨k, rfl⟩ : ∃ j, k = j + 1 := ⟨k - 1, by omega⟩
  rw [gR, h]; simp only []; rw [if_pos ht, if_neg h0, if_pos hf]; rfl
theorem joinG_next (pre : List Int) (all : List (Int × Int × Int)) {k : Nat} {s s2 : σ} {t : Int × Int × Int} (h : step false s = .inr (t, s2)) (ht : okT t = true) (h0 : t.1 ≠ 0) (hf : farT t ≤ k) : joinG pre all (gR step k s) = joinG (pre ++ (List.replicate (farT t - 1) 0 ++ [numT t])) (all ++ [t]) (gR step (k - farT t) s2) := by
  have hp : 0 < farT t := by unfold farT; omega
  obtain ⟨k, rfl⟩ : ∃ j, k = j + 1 := ⟨k - 1, by omega⟩
  rw [gR, h]; simp only []
  rw [if_pos ht, if_neg h0, if_neg (by omega)]
  unfold joinG
  by_cases e : (gR step (k + 1 - farT t) s2).1 = 0
  · simp only [if_pos e, if_true]
    congr 2
    · simp
    · simp
  · simp only [if_neg e]
end
end Go.Proofs.YtddkhkpdbjjboaaGreat

/- What run.Block answers, in numbers: as RunMath's reader, but that a symbol above 255 is no fault of its own. No program is named here. -/
namespace Go.Proofs.YtddkhkpdbjjboaaGreat
set_option linter.unusedVariables false
set_option linter.unusedSimpArgs false
set_option maxRecDepth 100000

/-- May a token come behind the first one? -/
def okQ (t : Int × Int × Int) : Bool := fitT t && decide (0 ≤ t.1 ∧ t.1 % 16 = t.2.1 ∧ t.2.1 ≤ 11 ∧ (t.2.1 = 0 → t.1 = 0 ∨ t.1 = 240))
/-- k numbers out of tokens: an error's code, the numbers, how many tokens were taken. -/
def decQ : Nat → List (Int × Int × Int) → Int × List Int × Nat
  | 0, _ => (0, [], 0)
  | _ + 1, [] => (3, [], 0)
  | k + 1, t :: l =>
    if okQ t = true then
      if t.1 = 0 then (0, List.replicate (k + 1) 0, 1)
      else if k + 1 < farT t then (4, [], 0)
      else
        let d := decQ (k + 1 - farT t) l
        if d.1 = 0 then (0, List.replicate (farT t - 1) 0 ++ numT t :: d.2.1, d.2.2 + 1) else (d.1, [], 0)
    else (4, [], 0)
theorem decQ_zero (l : List (Int × Int × Int)) : decQ 0 l = (0, [], 0) := by cases l <;> rfl
theorem okT_okQ {t : Int × Int × Int} (h : okT t = true) : okQ t = true := by
  unfold okT at h
  unfold okQ
  rw [Bool.and_eq_true] at h ⊢
  have h2 := of_decide_eq_true h.2
  exact ⟨h.1, decide_eq_true ⟨h2.1, h2.2.2⟩⟩
theorem okQ_fit {t : Int × Int × Int} (h : okQ t = true) : (0 ≤ t.2.1 ∧ t.2.1 ≤ 12 ∧ 0 ≤ t.2.2 ∧ t.2.2 < pw t.2.1.toNat) ∧ 0 ≤ t.1 ∧ t.1 % 16 = t.2.1 ∧ t.2.1 ≤ 11 ∧ (t.2.1 = 0 → t.1 = 0 ∨ t.1 = 240) := by
  unfold okQ at h
  rw [Bool.and_eq_true] at h
  have h1 := h.1
  unfold fitT at h1
  exact ⟨of_decide_eq_true h1, of_decide_eq_true h.2⟩
/-- The numbers of a block out of tokens. -/
def decP (before : Int) (l : List (Int × Int × Int)) : Int × List Int × Nat :=
  if before < -2047 ∨ 2047 < before then (1, [], 0) else
  match l with
  | [] => (3, [], 0)
  | t :: l =>
    if firstT before t then
      if (decQ 63 l).1 = 0 then
        if toksZ before ((before + numT t) :: (decQ 63 l).2.1) = t :: l.take (decQ 63 l).2.2 then (0, (before + numT t) :: (decQ 63 l).2.1, (decQ 63 l).2.2 + 1) else (4, [], 0)
      else ((decQ 63 l).1, [], 0)
    else (4, [], 0)
theorem decQ_used : ∀ (l : List (Int × Int × Int)) (k : Nat), (decQ k l).2.2 ≤ l.length
  | l, 0 => by rw [decQ_zero]; simp
  | [], k + 1 => by simp [decQ]
  | t :: l, k + 1 => by
    rw [decQ]
    split
    · split
      · simp
      · split
        · simp
        · simp only []
          split
          · have := decQ_used l (k + 1 - farT t); simp only [List.length_cons]; omega
          · simp
    · simp
theorem okQ_num {t : Int × Int × Int} (h : okQ t = true) : -2047 ≤ numT t ∧ numT t ≤ 2047 := by
  obtain ⟨h5, h6⟩ := okQ_fit h
  have h7 := bk_in h5.2.2.1 h5.2.2.2
  have h8 := pw_mono (a := t.2.1.toNat) (b := 11) (by omega)
  have h9 : pw 11 = 2048 := by decide
  unfold numT; omega
/-- What was read lies within its bounds. -/
theorem decQ_in : ∀ (l : List (Int × Int × Int)) (k : Nat), (decQ k l).1 = 0 → (decQ k l).2.1.length = k ∧ ∀ z ∈ (decQ k l).2.1, -2047 ≤ z ∧ z ≤ 2047
  | l, 0, h => by rw [decQ_zero]; exact ⟨rfl, by simp⟩
  | [], k + 1, h => by simp [decQ] at h
  | t :: l, k + 1, h => by
    rw [decQ] at h ⊢
    by_cases h1 : okQ t = true
    · rw [if_pos h1] at h ⊢
      by_cases h2 : t.1 = 0
      · rw [if_pos h2]
        refine ⟨by simp, fun z hz => ?_⟩
        rw [(List.mem_replicate.1 hz).2]; omega
      · rw [if_neg h2] at h ⊢
        by_cases h3 : k + 1 < farT t
        · rw [if_pos h3] at h; simp at h
        · rw [if_neg h3] at h ⊢
          simp only [] at h ⊢
          by_cases h4 : (decQ (k + 1 - farT t) l).1 = 0
          · obtain ⟨g1, g2⟩ := decQ_in l (k + 1 - farT t) h4
            rw [if_pos h4]
            have hp : 0 < farT t := by unfold farT; omega
            refine ⟨by simp only [List.length_append, List.length_replicate, List.length_cons, g1]; omega, fun z hz => ?_⟩
            rcases List.mem_append.1 hz with hz | hz
            · rw [(List.mem_replicate.1 hz).2]; omega
            · rcases List.mem_cons.1 hz with rfl | hz
              · exact okQ_num h1
              · exact g2 z hz
          · rw [if_neg h4] at h; exact absurd h h4
    · rw [if_neg h1] at h; simp at h
/-- Numbers read so far, and what is still to read: an error's code, all numbers, how many tokens. -/
def joinQ (pre : List Int) (n : Nat) (d : Int × List Int × Nat) : Int × List Int × Nat :=
  if d.1 = 0 then (0, pre ++ d.2.1, n + d.2.2) else (d.1, [], 0)
theorem joinQ_all (pre : List Int) (n : Nat) (l : List (Int × Int × Int)) : joinQ pre n (decQ 0 l) = (0, pre, n) := by
  rw [decQ_zero]; simp [joinQ]
theorem joinQ_none (pre : List Int) (n : Nat) {k : Nat} (hk : 0 < k) : joinQ pre n (decQ k []) = (3, [], 0) := by
  obtain ⟨k, rfl⟩ : ∃ j, k = j + 1 := ⟨k - 1, by omega⟩
  rfl
theorem joinQ_bad (pre : List Int) (n : Nat) {k : Nat} {t : Int × Int × Int} {l : List (Int × Int × Int)} (hk : 0 < k) (ht : okQ t = false) : joinQ pre n (decQ k (t :: l)) = (4, [], 0) := by
  obtain ⟨k, rfl⟩ : ∃ j, k = j + 1 := ⟨k - 1, by omega⟩
  rw [decQ, if_neg (by rw [ht]; decide)]; rfl
theorem joinQ_end (pre : List Int) (n : Nat) {k : Nat} {t : Int × Int × Int} {l : List (Int × Int × Int)} (hk : 0 < k) (ht : okQ t = true) (h0 : t.1 = 0) : joinQ pre n (decQ k (t :: l)) = (0, pre ++ List.replicate k 0, n + 1) := by
  obtain ⟨k, rfl⟩ : ∃ j, k = j + 1 := ⟨k - 1, by omega⟩
  rw [decQ, if_pos ht, if_pos h0]; rfl
theorem joinQ_far (pre : List Int) (n : Nat) {k : Nat} {t : Int × Int × Int} {l : List (Int × Int × Int)} (hk : 0 < k) (ht : okQ t = true) (h0 : t.1 ≠ 0) (hf : k < farT t) : joinQ pre n (decQ k (t :: l)) = (4, [], 0) := by
  obtain ⟨k, rfl⟩ : ∃ j, k = j + 1 := ⟨k - 1, by omega⟩
  rw [decQ, if_pos ht, if_neg h0, if_pos hf]; rfl
theorem joinQ_next (pre : List Int) (n : Nat) {k : Nat} {t : Int × Int × Int} {l : List (Int × Int × Int)} (ht : okQ t = true) (h0 : t.1 ≠ 0) (hf : farT t ≤ k) : joinQ pre n (decQ k (t :: l)) = joinQ (pre ++ (List.replicate (farT t - 1) 0 ++ [numT t])) (n + 1) (decQ (k - farT t) l) := by
  have hp : 0 < farT t := by unfold farT; omega
  obtain ⟨k, rfl⟩ : ∃ j, k = j + 1 := ⟨k - 1, by omega⟩
  rw [decQ, if_pos ht, if_neg h0, if_neg (by omega)]
  unfold joinQ
  by_cases e : (decQ (k + 1 - farT t) l).1 = 0
  · simp only [if_pos e, if_true]
    simp only [Prod.mk.injEq, true_and]
    exact ⟨by simp, by omega⟩
  · simp only [if_neg e]
end Go.Proofs.YtddkhkpdbjjboaaGreat

/- Bits of numbers, the highest first, and bytes: plain mathematics. -/
namespace Go.Proofs.YtddkhkpdbjjboaaGreat
set_option linter.unusedVariables false
set_option linter.unusedSimpArgs false
set_option maxRecDepth 100000

def bitsN : Nat → Nat → List Bool
  | 0, _ => []
  | w + 1, v => bitsN w (v / 2) ++ [decide (v % 2 = 1)]
def valB (l : List Bool) : Nat := l.foldl (fun n b => 2 * n + b.toNat) 0

theorem bitsN_length (w v : Nat) : (bitsN w v).length = w := by
  induction w generalizing v with
  | zero => rfl
  | succ w ih => simp [bitsN, ih]
theorem valB_snoc (l : List Bool) (b : Bool) : valB (l ++ [b]) = 2 * valB l + b.toNat := by simp [valB]
theorem valB_bitsN (w v : Nat) (h : v < 2 ^ w) : valB (bitsN w v) = v := by
  induction w generalizing v with
  | zero => simp at h; subst h; rfl
  | succ w ih =>
    rw [bitsN, valB_snoc, ih _ (by rw [Nat.pow_succ] at h; omega)]
    rcases Nat.mod_two_eq_zero_or_one v with hv | hv <;> simp [hv] <;> omega
theorem list_snoc {α : Type} (l : List α) (h : l ≠ []) : ∃ a b, l = a ++ [b] := ⟨l.dropLast, l.getLast h, (List.dropLast_concat_getLast h).symm⟩
theorem valB_lt (l : List Bool) : valB l < 2 ^ l.length := by
  suffices H : ∀ n (l : List Bool), l.length = n → valB l < 2 ^ n from H _ l rfl
  intro n
  induction n with
  | zero => intro l hl; have := List.eq_nil_of_length_eq_zero hl; subst this; decide
  | succ n ih =>
    intro l hl
    obtain ⟨a, b, rfl⟩ := list_snoc l (by intro e; subst e; simp at hl)
    have := ih a (by simpa using hl)
    rw [valB_snoc, Nat.pow_succ]
    cases b <;> simp <;> omega
theorem bitsN_valB (l : List Bool) : bitsN l.length (valB l) = l := by
  suffices H : ∀ n (l : List Bool), l.length = n → bitsN n (valB l) = l from H _ l rfl
  intro n
  induction n with
  | zero => intro l hl; have := List.eq_nil_of_length_eq_zero hl; subst this; rfl
  | succ n ih =>
    intro l hl
    obtain ⟨a, b, rfl⟩ := list_snoc l (by intro e; subst e; simp at hl)
    rw [bitsN, valB_snoc]
    have h1 : (2 * valB a + b.toNat) / 2 = valB a := by cases b <;> simp <;> omega
    have h2 : decide ((2 * valB a + b.toNat) % 2 = 1) = b := by cases b <;> simp <;> omega
    rw [h1, h2, ih a (by simpa using hl)]
theorem bitsN_inj {w a b : Nat} (ha : a < 2 ^ w) (hb : b < 2 ^ w) (h : bitsN w a = bitsN w b) : a = b := by
  rw [← valB_bitsN w a ha, ← valB_bitsN w b hb, h]
theorem bitsN_add (a b v : Nat) : bitsN (a + b) v = bitsN a (v / 2 ^ b) ++ bitsN b v := by
  induction b generalizing v with
  | zero => simp [bitsN]
  | succ b ih =>
    rw [← Nat.add_assoc, bitsN, ih, bitsN, List.append_assoc]
    congr 1
    rw [Nat.div_div_eq_div_mul, ← Nat.pow_succ', ]
theorem bitsN_mod (b v : Nat) : bitsN b (v % 2 ^ b) = bitsN b v := by
  induction b generalizing v with
  | zero => rfl
  | succ b ih =>
    rw [bitsN, bitsN]
    have h1 : v % 2 ^ (b + 1) / 2 = (v / 2) % 2 ^ b := by
      rw [Nat.pow_succ', Nat.mod_mul_right_div_self]
    have h2 : v % 2 ^ (b + 1) % 2 = v % 2 := Nat.mod_mod_of_dvd _ ⟨2 ^ b, by rw [Nat.pow_succ']⟩
    rw [h1, h2, ih]
/-- Two fields one behind the other. -/
theorem bitsN_join (a b p v : Nat) (hv : v < 2 ^ b) : bitsN (a + b) (p * 2 ^ b + v) = bitsN a p ++ bitsN b v := by
  have h1 : (p * 2 ^ b + v) / 2 ^ b = p := by
    rw [Nat.add_comm, Nat.add_mul_div_right _ _ (Nat.two_pow_pos b), Nat.div_eq_of_lt hv, Nat.zero_add]
  have h2 : (p * 2 ^ b + v) % 2 ^ b = v := by
    rw [Nat.add_comm, Nat.add_mul_mod_self_right, Nat.mod_eq_of_lt hv]
  rw [bitsN_add, h1, ← bitsN_mod b (p * 2 ^ b + v), h2]
theorem bitsN_ones (b : Nat) : bitsN b (2 ^ b - 1) = List.replicate b true := by
  induction b with
  | zero => rfl
  | succ b ih =>
    have hp := Nat.two_pow_pos b
    rw [bitsN, List.replicate_succ', Nat.pow_succ]
    have h1 : (2 ^ b * 2 - 1) / 2 = 2 ^ b - 1 := by omega
    have h2 : (2 ^ b * 2 - 1) % 2 = 1 := by omega
    rw [h1, h2, ih]; rfl

def unpack (bs : List Int) : List Bool := bs.flatMap fun x => bitsN 8 x.toNat
def Bytes (bs : List Int) : Prop := ∀ x ∈ bs, 0 ≤ x ∧ x ≤ 255
def fieldBits (l : List (Int × Int)) : List Bool := l.flatMap fun f => bitsN f.1.toNat f.2.toNat
def okF (f : Int × Int) : Prop := (0 ≤ f.1 ∧ f.1 ≤ 24) ∧ 0 ≤ f.2 ∧ f.2 < 2 ^ f.1.toNat
instance (f : Int × Int) : Decidable (okF f) := by unfold okF; infer_instance

theorem unpack_nil : unpack [] = [] := rfl
theorem unpack_append (a b : List Int) : unpack (a ++ b) = unpack a ++ unpack b := by simp [unpack]
theorem unpack_snoc (a : List Int) (x : Int) : unpack (a ++ [x]) = unpack a ++ bitsN 8 x.toNat := by simp [unpack]
theorem unpack_cons (x : Int) (a : List Int) : unpack (x :: a) = bitsN 8 x.toNat ++ unpack a := by simp [unpack]
theorem unpack_length (a : List Int) : (unpack a).length = 8 * a.length := by
  induction a with
  | nil => rfl
  | cons x a ih => rw [unpack_cons, List.length_append, bitsN_length, ih, List.length_cons]; omega
theorem Bytes.snoc {a : List Int} {x : Int} (h : Bytes a) (hx : 0 ≤ x ∧ x ≤ 255) : Bytes (a ++ [x]) := by
  intro y hy
  rcases List.mem_append.1 hy with hy | hy
  · exact h y hy
  · simp at hy; subst hy; exact hx
theorem unpack_inj : ∀ {a b : List Int}, Bytes a → Bytes b → unpack a = unpack b → a = b
  | [], [], _, _, _ => rfl
  | [], y :: b, _, _, h => by have := congrArg List.length h; simp [unpack_length] at this
  | x :: a, [], _, _, h => by have := congrArg List.length h; simp [unpack_length] at this
  | x :: a, y :: b, ha, hb, h => by
    rw [unpack_cons, unpack_cons] at h
    obtain ⟨h1, h2⟩ := List.append_inj h (by rw [bitsN_length, bitsN_length])
    have hx := ha x (by simp)
    have hy := hb y (by simp)
    have e := bitsN_inj (w := 8) (by omega) (by omega) h1
    have := unpack_inj (fun z hz => ha z (by simp [hz])) (fun z hz => hb z (by simp [hz])) h2
    rw [this]; congr 1; omega
theorem fieldBits_snoc (a : List (Int × Int)) (f : Int × Int) : fieldBits (a ++ [f]) = fieldBits a ++ bitsN f.1.toNat f.2.toNat := by simp [fieldBits]
theorem fieldBits_cons (f : Int × Int) (a : List (Int × Int)) : fieldBits (f :: a) = bitsN f.1.toNat f.2.toNat ++ fieldBits a := by simp [fieldBits]

/-- What Write answers: the error's number. -/
def writeErr (l : List (Int × Int)) : Int := if 20000 < l.length then 2 else if ∀ f ∈ l, okF f then 0 else 1
/-- What Write makes: whole bytes, the fields' bits, then ones. -/
def Written (l : List (Int × Int)) (out : List Int) : Prop :=
  (writeErr l ≠ 0 → out = []) ∧ (writeErr l = 0 → Bytes out ∧ ∃ p, p < 8 ∧ unpack out = fieldBits l ++ List.replicate p true)
theorem Written.same {l : List (Int × Int)} {a b : List Int} (ha : Written l a) (hb : Written l b) : a = b := by
  by_cases h : writeErr l = 0
  · obtain ⟨ba, p, hp, ea⟩ := ha.2 h
    obtain ⟨bb, q, hq, eb⟩ := hb.2 h
    have h1 := congrArg List.length ea
    have h2 := congrArg List.length eb
    simp [unpack_length] at h1 h2
    have : p = q := by omega
    subst this
    exact unpack_inj ba bb (ea.trans eb.symm)
  · rw [ha.1 h, hb.1 h]

/-- Numbers of given widths off a row of bits. -/
def readB : List Bool → List Int → List Int
  | _, [] => []
  | bs, w :: ws => (valB (bs.take w.toNat) : Int) :: readB (bs.drop w.toNat) ws
def sumW (ws : List Int) : Int := ws.foldr (· + ·) 0
end Go.Proofs.YtddkhkpdbjjboaaGreat

/- Canonical prefix codes in numbers: which counts have codewords, what these are, that none begins another. No program is named here. -/
namespace Go.Proofs.YtddkhkpdbjjboaaGreat
set_option linter.unusedVariables false
set_option linter.unusedSimpArgs false
set_option maxRecDepth 100000

/-- From words of k + 1 bits on, c being the next code: the lengths and codes. -/
def codesFrom : Nat → Nat → List Nat → Option (List (Nat × Nat))
  | _, _, [] => some []
  | k, c, n :: ns => if c + n ≤ 2 ^ (k + 1) - 1 then (codesFrom (k + 1) (2 * (c + n)) ns).map ((List.range n).map (fun i => (k + 1, c + i)) ++ ·) else none
def codes (ns : List Nat) : Option (List (Nat × Nat)) := codesFrom 0 0 ns

/-- What has been handed out, and what is to come. -/
def CInv (ns : List Nat) (k c : Nat) (acc : List (Nat × Nat)) : Prop := codes ns = (codesFrom k c (ns.drop k)).map (acc ++ ·) ∧ c < 2 ^ (k + 1) - 1 ∧ acc.length = (ns.take k).sum
theorem CInv.start (ns : List Nat) : CInv ns 0 0 [] := ⟨by show codesFrom 0 0 ns = _; rw [List.drop_zero]; cases h : codesFrom 0 0 ns <;> simp, by decide, rfl⟩
def wordsTo (k c i : Nat) : List (Nat × Nat) := (List.range i).map fun j => (k + 1, c + j)
theorem wordsTo_length (k c i : Nat) : (wordsTo k c i).length = i := by simp [wordsTo]
theorem wordsTo_snoc (k c i : Nat) : wordsTo k c (i + 1) = wordsTo k c i ++ [(k + 1, c + i)] := by simp [wordsTo, List.range_succ]
theorem drop_nat {ns : List Nat} {k n : Nat} (h : ns[k]? = some n) : ns.drop k = n :: ns.drop (k + 1) := by
  obtain ⟨hk, e⟩ := List.getElem?_eq_some_iff.1 h
  rw [List.drop_eq_getElem_cons hk, e]
theorem CInv.fail {ns : List Nat} {k c n : Nat} {acc : List (Nat × Nat)} (h : CInv ns k c acc) (hn : ns[k]? = some n) {i : Nat} (hi : i < n) (hc : 2 ^ (k + 1) - 1 ≤ c + i) : codes ns = none := by
  rw [h.1, drop_nat hn]
  unfold codesFrom
  rw [if_neg (by omega)]
  rfl
theorem take_sum {ns : List Nat} {k n : Nat} (h : ns[k]? = some n) : (ns.take (k + 1)).sum = (ns.take k).sum + n := by
  rw [List.take_add_one, h]; simp [List.sum_append]
theorem CInv.next {ns : List Nat} {k c n : Nat} {acc : List (Nat × Nat)} (h : CInv ns k c acc) (hn : ns[k]? = some n) (hc : c + n ≤ 2 ^ (k + 1) - 1) : CInv ns (k + 1) (2 * (c + n)) (acc ++ wordsTo k c n) := by
  refine ⟨?_, ?_, ?_⟩
  · rw [h.1, drop_nat hn]
    conv => lhs; unfold codesFrom
    rw [if_pos hc]
    cases codesFrom (k + 1) (2 * (c + n)) (ns.drop (k + 1)) <;> simp [wordsTo]
  · have : 2 ^ (k + 1 + 1) = 2 * 2 ^ (k + 1) := by rw [Nat.pow_succ]; omega
    have h2 : 0 < 2 ^ (k + 1) := Nat.pow_pos (by omega)
    omega
  · rw [List.length_append, h.2.2, wordsTo_length, take_sum hn]
theorem CInv.done {ns : List Nat} {c : Nat} {acc : List (Nat × Nat)} (h : CInv ns ns.length c acc) : codes ns = some acc := by
  rw [h.1, List.drop_length]
  simp [codesFrom]
theorem codes_length {ns : List Nat} {l : List (Nat × Nat)} (h : codes ns = some l) : l.length = ns.sum := by
  have key : ∀ (ns : List Nat) (k c : Nat) (l : List (Nat × Nat)), codesFrom k c ns = some l → l.length = ns.sum := by
    intro ns
    induction ns with
    | nil => intro k c l h; simp [codesFrom] at h; subst h; rfl
    | cons n ns ih =>
      intro k c l h
      unfold codesFrom at h
      split at h
      · cases hq : codesFrom (k + 1) (2 * (c + n)) ns with
        | none => simp [hq] at h
        | some m => simp [hq] at h; subst h; simp [ih _ _ _ hq]
      · cases h
  exact key ns 0 0 l h

/-- Each word lies right behind the one ahead; all of them leave room. -/
def Kr : Nat → List (Nat × Nat) → Prop
  | R, [] => R < 65536
  | R, p :: l => 1 ≤ p.1 ∧ p.1 ≤ 16 ∧ p.2 * 2 ^ (16 - p.1) = R ∧ (∀ q ∈ l, p.1 ≤ q.1) ∧ Kr (R + 2 ^ (16 - p.1)) l
theorem Kr.level {k : Nat} (hk : k < 16) (rest : List (Nat × Nat)) (hlong : ∀ q ∈ rest, k + 1 ≤ q.1) : ∀ (n c : Nat), Kr ((c + n) * 2 ^ (15 - k)) rest → Kr (c * 2 ^ (15 - k)) (wordsTo k c n ++ rest) := by
  intro n
  induction n with
  | zero => intro c h; simpa [wordsTo] using h
  | succ n ih =>
    intro c h
    have e : wordsTo k c (n + 1) = (k + 1, c) :: wordsTo k (c + 1) n := by
      simp only [wordsTo, List.range_succ_eq_map, List.map_cons, List.map_map, Nat.add_zero]
      congr 1
      apply List.map_congr_left
      intro j _
      simp only [Function.comp_apply, Prod.mk.injEq, true_and]
      omega
    rw [e, List.cons_append]
    refine ⟨by simp, by simp; omega, by show c * 2 ^ (16 - (k + 1)) = _; rw [show 16 - (k + 1) = 15 - k by omega], ?_, ?_⟩
    · intro q hq
      rcases List.mem_append.1 hq with hq | hq
      · simp [wordsTo] at hq
        obtain ⟨_, _, rfl⟩ := hq
        simp
      · exact hlong q hq
    · have h2 := ih (c + 1) (by rw [show c + 1 + n = c + (n + 1) by omega]; exact h)
      have e2 : c * 2 ^ (15 - k) + 2 ^ (16 - (k + 1)) = (c + 1) * 2 ^ (15 - k) := by rw [Nat.add_mul, Nat.one_mul, show 16 - (k + 1) = 15 - k by omega]
      simp only
      rw [e2]
      exact h2
theorem codesFrom_kr : ∀ (ns : List Nat) (k c : Nat) (l : List (Nat × Nat)), k + ns.length = 16 → c < 2 ^ (k + 1) - 1 → codesFrom k c ns = some l → Kr (if k < 16 then c * 2 ^ (15 - k) else c / 2) l ∧ (∀ q ∈ l, k + 1 ≤ q.1) := by
  intro ns
  induction ns with
  | nil =>
    intro k c l hk hc h
    simp at hk
    subst hk
    simp [codesFrom] at h
    subst h
    refine ⟨?_, by simp⟩
    show _ < 65536
    simp only [Nat.lt_irrefl, if_false]
    have : 2 ^ (16 + 1) = 131072 := by decide
    omega
  | cons n ns ih =>
    intro k c l hk hc h
    simp at hk
    have hk16 : k < 16 := by omega
    unfold codesFrom at h
    split at h
    · rename_i hcn
      cases hq : codesFrom (k + 1) (2 * (c + n)) ns with
      | none => simp [hq] at h
      | some m =>
        simp [hq] at h
        subst h
        have hp : 2 ^ (k + 1 + 1) = 2 * 2 ^ (k + 1) := by rw [Nat.pow_succ]; omega
        have h0 : 0 < 2 ^ (k + 1) := Nat.pow_pos (by omega)
        obtain ⟨h1, h2⟩ := ih (k + 1) (2 * (c + n)) m (by omega) (by omega) hq
        have hR : (if k + 1 < 16 then 2 * (c + n) * 2 ^ (15 - (k + 1)) else 2 * (c + n) / 2) = (c + n) * 2 ^ (15 - k) := by
          split
          · rename_i h15
            rw [show 15 - k = (15 - (k + 1)) + 1 by omega, Nat.pow_succ]
            rw [Nat.mul_comm 2, Nat.mul_assoc, Nat.mul_comm 2]
          · have : k = 15 := by omega
            subst this
            simp
        rw [hR] at h1
        rw [if_pos hk16]
        refine ⟨Kr.level hk16 m (fun q hq' => by have := h2 q hq'; omega) n c h1, ?_⟩
        intro q hq'
        rcases List.mem_append.1 hq' with hq' | hq'
        · simp at hq'
          obtain ⟨_, _, rfl⟩ := hq'
          simp
        · have := h2 q hq'; omega
    · cases h
theorem codes_kr {ns : List Nat} {l : List (Nat × Nat)} (hn : ns.length = 16) (h : codes ns = some l) : Kr 0 l := by
  have := (codesFrom_kr ns 0 0 l (by omega) (by decide) h).1
  simpa using this
/-! ### no word begins another one -/
theorem Kr.lt {R : Nat} {l : List (Nat × Nat)} (h : Kr R l) : R < 65536 := by
  induction l generalizing R with
  | nil => exact h
  | cons p l ih => exact Nat.lt_of_le_of_lt (Nat.le_add_right _ _) (ih h.2.2.2.2)
theorem Kr.ge {R : Nat} {l : List (Nat × Nat)} (h : Kr R l) : ∀ p ∈ l, 1 ≤ p.1 ∧ p.1 ≤ 16 ∧ R ≤ p.2 * 2 ^ (16 - p.1) ∧ p.2 * 2 ^ (16 - p.1) + 2 ^ (16 - p.1) < 65536 := by
  induction l generalizing R with
  | nil => simp
  | cons q l ih =>
    obtain ⟨h1, h2, h3, h4, h5⟩ := h
    intro p hp
    rcases List.mem_cons.1 hp with rfl | hp
    · exact ⟨h1, h2, by omega, by have := h5.lt; omega⟩
    · have := ih h5 p hp
      exact ⟨this.1, this.2.1, Nat.le_trans (Nat.le_add_right _ _) this.2.2.1, this.2.2.2⟩
theorem Kr.small {R : Nat} {l : List (Nat × Nat)} (h : Kr R l) {p : Nat × Nat} (hp : p ∈ l) : p.2 + 1 < 2 ^ p.1 := by
  obtain ⟨h1, h2, h3, h4⟩ := h.ge p hp
  have e : 2 ^ p.1 * 2 ^ (16 - p.1) = 65536 := by rw [← Nat.pow_add, show p.1 + (16 - p.1) = 16 by omega]
  rcases Nat.lt_or_ge (p.2 + 1) (2 ^ p.1) with h5 | h5
  · exact h5
  · have := Nat.mul_le_mul_right (2 ^ (16 - p.1)) h5
    rw [Nat.add_mul, e] at this
    omega
/-- Of two words the later one lies behind the earlier one. -/
theorem Kr.apart {R : Nat} {l : List (Nat × Nat)} (h : Kr R l) : l.Pairwise fun p q => p.1 ≤ q.1 ∧ p.2 * 2 ^ (16 - p.1) + 2 ^ (16 - p.1) ≤ q.2 * 2 ^ (16 - q.1) := by
  induction l generalizing R with
  | nil => exact .nil
  | cons p l ih =>
    obtain ⟨h1, h2, h3, h4, h5⟩ := h
    refine List.pairwise_cons.2 ⟨fun q hq => ⟨h4 q hq, ?_⟩, ih h5⟩
    have := (h5.ge q hq).2.2.1
    omega
theorem shift_ne {a b c d : Nat} (hab : a ≤ b) (hb : b ≤ 16) (h : c * 2 ^ (16 - a) + 2 ^ (16 - a) ≤ d * 2 ^ (16 - b)) : c < d / 2 ^ (b - a) := by
  have e : 2 ^ (16 - a) = 2 ^ (b - a) * 2 ^ (16 - b) := by rw [← Nat.pow_add]; congr 1; omega
  have h0 : 0 < 2 ^ (16 - b) := Nat.pow_pos (by omega)
  have h1 : 0 < 2 ^ (b - a) := Nat.pow_pos (by omega)
  rw [e] at h
  have h2 : (c + 1) * 2 ^ (b - a) * 2 ^ (16 - b) ≤ d * 2 ^ (16 - b) := by
    rw [Nat.add_mul, Nat.add_mul, Nat.one_mul, Nat.mul_assoc]; exact h
  have h3 := Nat.le_of_mul_le_mul_right h2 h0
  have := (Nat.le_div_iff_mul_le h1).2 h3
  omega
/-- No word begins another one. -/
theorem Kr.noFront {R : Nat} {l : List (Nat × Nat)} (h : Kr R l) {i k : Nat} {p q : Nat × Nat} (hp : l[i]? = some p) (hq : l[k]? = some q) (hne : i ≠ k) (hle : p.1 ≤ q.1) : q.2 / 2 ^ (q.1 - p.1) ≠ p.2 := by
  have ha := List.pairwise_iff_getElem.1 h.apart
  obtain ⟨hi, rfl⟩ := List.getElem?_eq_some_iff.1 hp
  obtain ⟨hk, rfl⟩ := List.getElem?_eq_some_iff.1 hq
  rcases Nat.lt_or_gt_of_ne hne with hlt | hlt
  · have h1 := ha i k hi hk hlt
    have h2 := (h.ge _ (List.getElem_mem hk)).2.1
    have := shift_ne h1.1 h2 h1.2
    omega
  · have h1 := ha k i hk hi hlt
    have h2 := (h.ge _ (List.getElem_mem hi)).2.1
    have h3 : (l[i]).1 = (l[k]).1 := by omega
    have := shift_ne h1.1 h2 h1.2
    rw [h3] at this ⊢
    simp at this ⊢
    omega
/-- The bits of one begin those of another: they are one. -/
theorem Kr.bits {R : Nat} {l : List (Nat × Nat)} (h : Kr R l) {i k : Nat} {p q : Nat × Nat} (hp : l[i]? = some p) (hq : l[k]? = some q) {b : List Bool} (h1 : bitsN p.1 p.2 <+: b) (h2 : bitsN q.1 q.2 <+: b) : i = k := by
  have key : ∀ {i k : Nat} {p q : Nat × Nat}, l[i]? = some p → l[k]? = some q → bitsN p.1 p.2 <+: b → bitsN q.1 q.2 <+: b → p.1 ≤ q.1 → i = k := by
    intro i k p q hp hq h1 h2 hle
    refine Classical.byContradiction fun hne => h.noFront hp hq hne hle ?_
    have h3 : bitsN p.1 p.2 <+: bitsN q.1 q.2 := List.prefix_of_prefix_length_le h1 h2 (by rw [bitsN_length, bitsN_length]; exact hle)
    have e : bitsN q.1 q.2 = bitsN p.1 (q.2 / 2 ^ (q.1 - p.1)) ++ bitsN (q.1 - p.1) q.2 := by
      rw [← bitsN_add]; congr 1; omega
    rw [e] at h3
    have h4 := List.prefix_iff_eq_take.1 h3
    rw [List.take_left' (by rw [bitsN_length, bitsN_length])] at h4
    have hpm := h.small (List.mem_of_getElem? hp)
    have hqm := h.small (List.mem_of_getElem? hq)
    refine (bitsN_inj (by omega) ?_ h4).symm
    have h0 : 0 < 2 ^ (q.1 - p.1) := Nat.pow_pos (by omega)
    rw [Nat.div_lt_iff_lt_mul h0, ← Nat.pow_add, show p.1 + (q.1 - p.1) = q.1 by omega]
    omega
  rcases Nat.le_total p.1 q.1 with hle | hle
  · exact key hp hq h1 h2 hle
  · exact (key hq hp h2 h1 hle).symm
end Go.Proofs.YtddkhkpdbjjboaaGreat

/- A table's value, and whether its counts fit: the contract of table.countsMatch. -/
namespace Go.Proofs.YtddkhkpdbjjboaaGreat
open Go.RowKit
set_option linter.unusedVariables false
set_option linter.unusedSimpArgs false
set_option maxRecDepth 100000

/-- The cells of a table. -/
def tabCells (cs : List Int) (A : Option Addr) (n c : Nat) : List Value := ints .i64 cs ++ [.slice A n c]
/-- A table's value. -/
abbrev tabV (cs : List Int) (A : Option Addr) (n c : Nat) : Value := .agg (tabCells cs A n c).toArray
theorem tabCells_last {cs : List Int} {A : Option Addr} {n c : Nat} (h : cs.length = 16) : (tabCells cs A n c)[16]? = some (.slice A n c) := by
  unfold tabCells
  rw [List.getElem?_append_right (by rw [ints_length]; omega), ints_length, h]; rfl
theorem tabCells_length {cs : List Int} {A : Option Addr} {n c : Nat} (h : cs.length = 16) : (tabCells cs A n c).length = 17 := by
  simp [tabCells, ints_length, h]
theorem tabCells_one {cs : List Int} {A : Option Addr} {n c : Nat} : ∀ u ∈ tabCells cs A n c, u.oneCell' = true := by
  intro u hu
  rcases List.mem_append.1 hu with hu | hu
  · exact ints_one u hu
  · simp at hu; subst hu; rfl

theorem info_tab : (Tryz.prog.info? 25).map (·.size) = some 17 := by kernel_rfl
theorem info_arr : (Tryz.prog.info? 22).map (·.size) = some 16 := by kernel_rfl
theorem info_int1 : (Tryz.prog.info? 3).map (·.size) = some 1 := by kernel_rfl

/-- The counts are numbers whose sum fits the symbols. -/
def Good (cs : List Int) (n : Nat) : Prop := (∀ x ∈ cs, 0 ≤ x) ∧ sumW cs ≤ 256 ∧ sumW cs = n
instance (cs : List Int) (n : Nat) : Decidable (Good cs n) := by unfold Good; infer_instance
def goodB (cs : List Int) (n : Nat) : Bool := decide (Good cs n)
theorem goodB_no {cs : List Int} {n : Nat} (h : ¬ Good cs n) : goodB cs n = false := decide_eq_false h
theorem goodB_iff {cs : List Int} {n : Nat} : goodB cs n = true ↔ Good cs n := decide_eq_true_iff
theorem sumW_app (a b : List Int) : sumW (a ++ b) = sumW a + sumW b := by
  induction a with
  | nil => simp [sumW]
  | cons x a ih => simp [sumW] at ih ⊢; omega
theorem sumW_pos (ws : List Int) (h : ∀ x ∈ ws, 0 ≤ x) : 0 ≤ sumW ws := by
  induction ws with
  | nil => simp [sumW]
  | cons x a ih => have h1 := h x (by simp); have h2 := ih fun y hy => h y (by simp [hy]); simp [sumW] at h2 ⊢; omega
theorem good_stop {cs : List Int} {n k : Nat} {x : Int} (hx : cs[k]? = some x) (h : x < 0 ∨ 256 - sumW (cs.take k) < x) : ¬ Good cs n := by
  rintro ⟨h1, h2, h3⟩
  have h4 := h1 x (List.mem_of_getElem? hx)
  have e : sumW cs = sumW (cs.take k) + x + sumW (cs.drop (k + 1)) := by
    conv => lhs; rw [← List.take_append_drop (k + 1) cs, sumW_app, take_snoc hx, sumW_app]
    simp [sumW]
  have h5 := sumW_pos (cs.drop (k + 1)) fun y hy => h1 y (List.mem_of_mem_drop hy)
  omega
theorem sumW_take {cs : List Int} {k : Nat} {x : Int} (hx : cs[k]? = some x) : sumW (cs.take (k + 1)) = sumW (cs.take k) + x := by
  rw [take_snoc hx, sumW_app]; simp [sumW]

theorem mem_snoc {α : Type} {p : α → Prop} {l : List α} {k : Nat} {x : α} (hx : l[k]? = some x) (h : ∀ y ∈ l.take k, p y) (h2 : p x) : ∀ y ∈ l.take (k + 1), p y := by
  intro y hy
  rw [take_snoc hx] at hy
  rcases List.mem_append.1 hy with hy | hy
  · exact h y hy
  · simp at hy; subst hy; exact h2
set_option maxHeartbeats 1000000 in
theorem countsMatch_any (cs : List Int) (A : Option Addr) (n c : Nat) (w : World) (hcs : cs.length = 16) (hn : n ≤ maxLen) (hb : ∀ x ∈ cs, -9223372036854775808 ≤ x ∧ x ≤ 9223372036854775807) :
    Calls Tryz.prog 64 #[tabV cs A n c] w fun e w' => e = .returned (.bool (goodB cs n)) ∧ Below w.heap.size w w' := by
  have h16 : (tabCells cs A n c)[16]? = some (.slice A n c) := tabCells_last hcs
  have hlt : w.heap.size < (w.alloc (.cells (tabCells cs A n c).toArray 25)).heap.size := by simp
  have hr : Hid (∀ xs, xs = tabCells cs A n c → (w.alloc (.cells xs.toArray 25)).rangeAt w.heap.size 0 (ints .i64 cs)) := by
    show ∀ xs, _
    intro xs e
    subst e
    exact range_left (range_new w _ _)
  unfold maxLen at hn
  have Hb := veil hb
  have Hcs := veil hcs
  have he : Hid (∀ xs, xs = tabCells cs A n c → xs = tabCells cs A n c) := fun _ h => h
  clear hb hcs
  obtain ⟨xs, hxs⟩ : ∃ xs, xs = tabCells cs A n c := ⟨_, rfl⟩
  have Hr := veil (hr.out xs hxs)
  unfold tabV
  rw [← hxs] at h16 ⊢
  clear hr hxs he hlt
  go_enter Tryz.func64, Tryz.ntmps64
  go_wp2_with (first
    | (refine wpList_load_mid rfl 22 (.tmp 6) rfl w.heap.size 0 rfl (ints .i64 cs) _ Hr.out Tryz.underlying22 rfl (by rw [ints_length, Hcs.out]; exact info_arr) ?_)
    | fail)
  go_loopg [3, 5, 8] 16 (fun gk s x i wr => ∃ k : Nat, gk = 16 - k ∧ k ≤ 16 ∧ i = .int .i64 k ∧ (∃ z : Int, s = .int .i64 z ∧ Hid (z = sumW (cs.take k)) ∧ 0 ≤ z ∧ z ≤ 256) ∧ Hid (∀ x ∈ cs.take k, 0 ≤ x) ∧ wr.cell? ⟨w.heap.size, 16, none⟩ = some (.slice A n c) ∧ Below w.heap.size w wr)
  case atStart => exact ⟨0, rfl, by omega, rfl, ⟨0, rfl, veil rfl, by omega, by omega⟩, veil (by simp), by rw [World.cell?_alloc_at _ _ _ _ rfl]; simpa using h16, below1 _ _⟩
  case round =>
    obtain ⟨k, rfl, hk, rfl, ⟨z, rfl, Hz, hz0, hz1⟩, Hp, h17, hbel⟩ := hrel
    by_cases hlt : k < 16
    · obtain ⟨x, hx⟩ := some_at (xs := cs) (j := k) (by rw [Hcs.out]; omega)
      have hxb := Hb.out x (List.mem_of_getElem? hx)
      have Hx := veil hx; clear hx
      by_cases h0 : x < 0
      · go_wp2_with (first
          | (refine wpList_index_arr rfl 22 (.tmp 7) (.tmp 8) rfl 16 3 .i64 Tryz.underlying22 Tryz.underlying3 info_int1 (ints .i64 cs) rfl .i64 k rfl (.int .i64 x) hlt (ints_at Hx.out) ?_)
          | fail)
        go_ret
        exact ⟨ret_bool (goodB_no (good_stop (n := n) Hx.out (.inl h0))).symm, hbel⟩
      · by_cases h1 : 256 - z < x
        · go_wp2_with (first
            | (refine wpList_index_arr rfl 22 (.tmp 7) (.tmp 8) rfl 16 3 .i64 Tryz.underlying22 Tryz.underlying3 info_int1 (ints .i64 cs) rfl .i64 k rfl (.int .i64 x) hlt (ints_at Hx.out) ?_)
            | fail)
          go_ret
          exact ⟨ret_bool (goodB_no (good_stop (n := n) Hx.out (.inr (by rw [← Hz.out]; exact h1)))).symm, hbel⟩
        · have hw : IntKind.i64.wrap (z + x) = z + x := by rw [IntKind.wrap_i64]; omega
          go_wp2_with (first
            | (refine wpList_index_arr rfl 22 (.tmp 7) (.tmp 8) rfl 16 3 .i64 Tryz.underlying22 Tryz.underlying3 info_int1 (ints .i64 cs) rfl .i64 k rfl (.int .i64 x) hlt (ints_at Hx.out) ?_)
            | fail)
          go_roundg (16 - (k + 1))
          case rel => exact ⟨k + 1, rfl, by omega, by go_num, ⟨z + x, by go_num, veil (by rw [sumW_take Hx.out, ← Hz.out]), by omega, by omega⟩, veil (mem_snoc Hx.out Hp.out (by omega)), h17, hbel⟩
          case measure => omega
    · obtain rfl : k = 16 := by omega
      go_wp2
      go_ret
      refine ⟨ret_bool ?_, hbel⟩
      rw [Bool.eq_iff_iff, goodB_iff]
      have e : cs.take 16 = cs := by rw [List.take_of_length_le]; rw [Hcs.out]; omega
      have h3 := Hp.out
      have h4 := Hz.out
      rw [e] at h3 h4
      simp only [beq_iff_eq]
      constructor
      · intro h5; exact ⟨h3, by omega, by omega⟩
      · intro h5; have := h5.2.2; omega
end Go.Proofs.YtddkhkpdbjjboaaGreat

/- table.assign: its contract. -/
namespace Go.Proofs.YtddkhkpdbjjboaaGreat
open Go.RowKit
set_option linter.unusedVariables false
set_option linter.unusedSimpArgs false
set_option maxRecDepth 100000

theorem elem_word : ElemOf Tryz.prog 94 98 3 24 := .mk' (z := .agg #[.int .i64 0, .int .i64 0, .int .i64 0]) Tryz.underlying94 (by kernel_rfl) rfl (by omega)
theorem info_word : (Tryz.prog.info? 98).map (fun i => (i.zero, i.size, i.bytes)) = some (some (.agg #[.int .i64 0, .int .i64 0, .int .i64 0]), 3, 24) := by kernel_rfl
theorem run_make_words (n : Nat) (h : n ≤ 1099511627776) (u : World) : ∃ cur, (Instr.makeSlice 94 (.int .i64 0) (.int .i64 (n : Int))).run Tryz.prog u =
    .ok (.slice (some ⟨u.heap.size, 0, none⟩) 0 n) (u.alloc (.cells cur 98)) ∧ cur.size = n * 3 := by
  obtain ⟨i0, hi, hz0, hz1, hz2⟩ := info_parts info_word
  have h := run_make (P := Tryz.prog) u 94 98 i0 (.agg #[.int .i64 0, .int .i64 0, .int .i64 0]) Tryz.underlying94 hi hz0 .i64 .i64 0 n (by omega) (by omega) (by rw [hz2]; omega) (by omega)
  exact ⟨_, h, by simp [madeCells, hz1, Value.cells]⟩
abbrev wordRow (v : Value) (l : List (Int × Nat × Nat)) : Row := ⟨98, 3, v, l.length, tripleCells l⟩
/-- In a walk: append of one word just laid onto the first of the rows. -/
theorem wpList_ownT {ops : Array Oper} {rest : List Oper} {o : Oper} {a : Act} {Q : Exit → Act → World → Prop} (w0 : World) (hgd : Region.wanted o (yielded ops a.tmps) = true) (s x : Operand)
    (ho : o.op = .call { callee := .builtin .append, args := #[s, x], argTypes := #[94, 94] })
    (B : Nat) (v : Value) (l : List (Int × Nat × Nat)) (rs : List Row) (hs : a.eval s = v) (HO : Owns B (wordRow v l :: rs) w0) (f0 f1 f2 : Int) (n c : Nat) (hn : f1 = n) (hc : f2 = c) (hx : a.eval x = .slice (some ⟨w0.heap.size, 0, none⟩) 1 1)
    (h63 : l.length + 1 ≤ 1048576)
    (h : ∀ v' w', Owns B (wordRow v' (l ++ [(f0, n, c)]) :: rs) w' → Below B w0 w' → w0.heap.size < w'.heap.size → wpList Tryz.prog ops Q rest (a.put o.dst v') w') : wpList Tryz.prog ops Q (o :: rest) a (w0.alloc (.cells #[.int .i64 f0, .int .i64 f1, .int .i64 f2] 98)) := by
  subst hn hc
  have e : (⟨98, 3, v, l.length + 1, tripleCells l ++ tripleCells [(f0, n, c)]⟩ : Row) = wordRow v (l ++ [(f0, n, c)]) := by simp [wordRow, tripleCells]
  refine wpList_ownV _ hgd s x _ ho B 98 3 24 elem_word v l.length (tripleCells l) rs hs (HO.alloc _) (w0.heap.size + 1) _ 1 1 (tripleCells [(f0, n, c)]) hx (Seen.new w0 (tripleCells [(f0, n, c)]) _ _ (Nat.lt_succ_self _)) (by rw [tripleCells_length]; rfl) tripleCells_one (by unfold maxLen; omega) (by omega) ?_
  intro v' w' h2 h3
  have := h3.size
  refine h v' w' ?_ (((Below.refl _ _).alloc HO.base _).trans h3) (by simp at this; omega)
  have e : (⟨98, 3, v', l.length + 1, tripleCells l ++ tripleCells [(f0, n, c)]⟩ : Row) = wordRow v' (l ++ [(f0, n, c)]) := by simp [wordRow, tripleCells]
  rw [← e]
  exact h2

/-- Words out of symbols and codes. -/
def mkWords (syms : List Int) (l : List (Nat × Nat)) : List (Int × Nat × Nat) := List.zipWith (fun s p => (s, p.1, p.2)) syms l
theorem mkWords_length (syms : List Int) (l : List (Nat × Nat)) (h : l.length ≤ syms.length) : (mkWords syms l).length = l.length := by simp [mkWords]; omega
theorem mkWords_nil (syms : List Int) : mkWords syms [] = [] := by simp [mkWords]
theorem mkWords_snoc {syms : List Int} {l : List (Nat × Nat)} {s : Int} (h : syms[l.length]? = some s) (p : Nat × Nat) : mkWords syms (l ++ [p]) = mkWords syms l ++ [(s, p.1, p.2)] := by
  have hl := (List.getElem?_eq_some_iff.1 h).1
  have e : syms = syms.take l.length ++ s :: syms.drop (l.length + 1) := by
    rw [← List.singleton_append, ← List.append_assoc, ← take_snoc h, List.take_append_drop]
  have h1 : ∀ m : List (Nat × Nat), m.length = l.length → mkWords syms m = mkWords (syms.take l.length) m := by
    intro m hm
    unfold mkWords
    apply List.ext_getElem?
    intro i
    simp only [List.getElem?_zipWith, List.getElem?_take]
    by_cases hi : i < l.length
    · rw [if_pos hi]
    · rw [if_neg hi, List.getElem?_eq_none (by omega : m.length ≤ i)]
      cases syms[i]? <;> rfl
  rw [h1 l rfl]
  conv => lhs; rw [e]
  unfold mkWords
  rw [List.zipWith_append (by simp; omega)]
  simp

/-- The words of a table: none where the lengths may not be. -/
def tabWords (ns : List Nat) (syms : List Int) : List (Int × Nat × Nat) := mkWords syms ((codes ns).getD [])
def natI (ns : List Nat) : List Int := ns.map Int.ofNat
theorem natI_length (ns : List Nat) : (natI ns).length = ns.length := by simp [natI]
theorem natI_at {ns : List Nat} {k n : Nat} (h : ns[k]? = some n) : (natI ns)[k]? = some (n : Int) := by simp [natI, h]
theorem ones_eq (k : Nat) (h : k < 16) : wrap64 (wrap64 (2 ^ (k + 1)) - 1) = ((2 ^ (k + 1) - 1 : Nat) : Int) := by
  have h1 : 2 ^ (k + 1) ≤ 2 ^ 16 := Nat.pow_le_pow_right (by omega) (by omega)
  have h2 : 0 < 2 ^ (k + 1) := Nat.pow_pos (by omega)
  have h3 : ((2 : Int) ^ (k + 1)) = ((2 ^ (k + 1) : Nat) : Int) := by simp
  rw [h3]
  unfold wrap64
  omega

set_option maxHeartbeats 2000000 in
set_option maxRecDepth 100000 in
theorem assign_any (ns : List Nat) (syms : List Int) (A : Option Addr) (c G : Nat) (w : World) (hns : ns.length = 16) (hsum : ns.sum = syms.length) (h256 : syms.length ≤ 256) (hs : Seen w G A (ints .i64 syms)) (hG : G ≤ w.heap.size) :
    Calls Tryz.prog 65 #[tabV (natI ns) A syms.length c] w fun e w' => ∃ v, e = .returned (.tuple #[v, .bool (codes ns).isSome]) ∧ Owns w.heap.size [wordRow v (tabWords ns syms)] w' ∧ Below w.heap.size w w' := by
  have hcs : (natI ns).length = 16 := by rw [natI_length]; exact hns
  have h16 : (tabCells (natI ns) A syms.length c)[16]? = some (.slice A syms.length c) := tabCells_last hcs
  have hr : Hid (∀ xs, xs = tabCells (natI ns) A syms.length c → (w.alloc (.cells xs.toArray 25)).rangeAt w.heap.size 0 (ints .i64 (natI ns))) := by
    show ∀ xs, _
    intro xs e
    subst e
    exact range_left (range_new w _ _)
  have Hcs := veil hcs; have Hns := veil hns; have Hsum := veil hsum
  clear hcs hns hsum
  obtain ⟨xs, hxs⟩ : ∃ xs, xs = tabCells (natI ns) A syms.length c := ⟨_, rfl⟩
  have Hr := veil (hr.out xs hxs)
  unfold tabV
  rw [← hxs] at h16 ⊢
  clear hr hxs
  obtain ⟨cur, hmk, hcur⟩ := run_make_words syms.length (by omega) (w.alloc (.cells xs.toArray 25))
  have Hcur := veil hcur; clear hcur
  have Hr2 := veil (World.rangeAt_alloc Hr.out (.cells cur 98))
  go_enter Tryz.func65, Tryz.ntmps65
  go_wp2_with (first
    | (refine wpList_load_mid rfl 22 (.tmp 14) rfl w.heap.size 0 rfl (ints .i64 (natI ns)) _ Hr2.out Tryz.underlying22 rfl (by rw [ints_length, Hcs.out]; exact info_arr) ?_)
    | fail)
  go_loopg [4, 5, 6, 7, 8, 9, 16] 16 (fun gk v cv kv nv lv ov i wr => ∃ (k cd : Nat) (acc : List (Nat × Nat)), gk = 16 - k ∧ k ≤ 16 ∧ i = .int .i64 k ∧ cv = .int .i64 cd ∧ Hid (CInv ns k cd acc) ∧ wr.cell? ⟨w.heap.size, 16, none⟩ = some (.slice A syms.length c) ∧
    Owns (w.heap.size + 1) [wordRow v (mkWords syms acc)] wr ∧ Below w.heap.size w wr)
  case atStart =>
    refine ⟨0, 0, [], rfl, by omega, rfl, rfl, veil (CInv.start ns), ?_, ?_, below2 _ _ _⟩
    · rw [World.cell?_alloc_lt _ _ _ (by simp), World.cell?_alloc_at _ _ _ _ rfl]; simpa using h16
    · rw [mkWords_nil]
      have := ((Owns.start (w.alloc (.cells xs.toArray 25))).made 98 3 cur syms.length (by unfold maxLen; omega) Hcur.out)
      simpa [wordRow, tripleCells] using this
  case round =>
    obtain ⟨k, cd, acc, rfl, hk, rfl, rfl, HI, h17, HO, hbel⟩ := hrel
    by_cases hlt : k < 16
    · obtain ⟨n, hn⟩ := some_at (xs := ns) (j := k) (by rw [Hns.out]; omega)
      have hcd := HI.out.2.1
      have hp16 : 2 ^ (k + 1) ≤ 2 ^ 16 := Nat.pow_le_pow_right (by omega) (by omega)
      have hn256 : (ns.take k).sum + n ≤ 256 := by
        have h1 := take_sum hn
        have h2 : (ns.take (k + 1)).sum + (ns.drop (k + 1)).sum = ns.sum := by rw [← List.sum_append, List.take_append_drop]
        have := Hsum.out
        omega
      have hacc : acc.length + n ≤ syms.length := by
        have h1 := take_sum hn
        have h2 : (ns.take (k + 1)).sum + (ns.drop (k + 1)).sum = ns.sum := by rw [← List.sum_append, List.take_append_drop]
        have := Hsum.out
        have := HI.out.2.2
        omega
      have Hn := veil hn; have Hcd := veil hcd; have Hp16 := veil hp16
      have hcd2 : cd < 65536 := by omega
      have hn2 : n ≤ 256 := by omega
      clear hn hcd hp16 hn256
      have hones := ones_eq k hlt
      go_wp2_with (first
        | (refine wpList_index_arr rfl 22 (.tmp 15) (.tmp 16) rfl 16 3 .i64 Tryz.underlying22 Tryz.underlying3 info_int1 (ints .i64 (natI ns)) rfl .i64 k rfl (.int .i64 (n : Int)) hlt (ints_at (natI_at Hn.out)) ?_)
        | fail)
      rw [hones]
      clear hones
      obtain ⟨N, hN⟩ : ∃ N, N = 2 ^ (k + 1) - 1 := ⟨_, rfl⟩
      rw [← hN]
      have HN := veil hN
      have hN2 : N < 65536 := by have := Hp16.out; omega
      clear hN
      have hz := hbel.size
      go_loopg [4, 5, 26] n (fun gk v cv i wr2 => ∃ j : Nat, gk = n - j ∧ j ≤ n ∧ i = .int .i64 j ∧ cv = .int .i64 ((cd + j : Nat) : Int) ∧ Hid (cd + j ≤ N) ∧ wr2.cell? ⟨w.heap.size, 16, none⟩ = some (.slice A syms.length c) ∧
        Owns (w.heap.size + 1) [wordRow v (mkWords syms (acc ++ wordsTo k cd j))] wr2 ∧ Below w.heap.size w wr2)
      case atStart => exact ⟨0, rfl, Nat.zero_le _, rfl, rfl, veil (by have := Hcd.out; have := HN.out; omega), h17, by simpa [wordsTo] using HO, hbel⟩
      case round =>
        obtain ⟨j, rfl, hj, rfl, rfl, HJ, h18, HO2, hbel2⟩ := hrel
        have hz2 := hbel2.size
        by_cases hjn : j < n
        · by_cases hf : N ≤ cd + j
          · have hd := HI.out.fail Hn.out hjn (by rw [← HN.out]; exact hf)
            have Hd := veil hd; clear hd
            have hf' : (N : Int) ≤ (cd : Int) + j := by omega
            go_wp2
            go_ret2
            exact ⟨_, ret_two rfl (by rw [Hd.out]; rfl), by unfold tabWords; rw [Hd.out]; simp only [Option.getD_none, mkWords_nil]; exact (Owns.nil hbel2.size).fresh _ _, hbel2⟩
          · have hf' : ¬ (N : Int) ≤ (cd : Int) + j := by omega
            have hlen : (acc ++ wordsTo k cd j).length = acc.length + j := by rw [List.length_append, wordsTo_length]
            obtain ⟨g, o, x, rfl, hg, hx, h1⟩ := hs.int (k := acc.length + j) (by omega)
            have hml : (mkWords syms (acc ++ wordsTo k cd j)).length = acc.length + j := by rw [mkWords_length _ _ (by omega), hlen]
            have hsn := mkWords_snoc (l := acc ++ wordsTo k cd j) (s := x) (by rw [hlen]; exact hx) (k + 1, cd + j)
            rw [List.append_assoc, ← wordsTo_snoc] at hsn
            have Hsn := veil hsn
            rw [← hbel2.cell (by simp; omega)] at h1
            obtain ⟨A4, c4, e4, _, _, _⟩ := HO2.seen (List.mem_cons_self ..)
            simp only [wordRow] at e4
            rw [hml] at e4
            subst e4
            have Hml := veil hml
            clear hsn hlen hx hml
            generalize mkWords syms (acc ++ wordsTo k cd j) = ws at *
            go_wp2_with (first
              | (at_builtin; go_loud (refine wpList_ownT _ rfl (.tmp 31) (.tmp 41) rfl (w.heap.size + 1) (.slice A4 (acc.length + j) c4) ws [] rfl HO2 x _ _ (k + 1) (cd + j) (by omega) (by omega) rfl (by have := Hml.out; omega) ?_); intro v1 w1 HO3 hb3 hz3))
            have h18' := h18
            rw [← hb3.cell (by simp)] at h18'
            go_roundg (n - (j + 1))
            case rel => exact ⟨j + 1, rfl, by omega, by go_num, by go_num, veil (by omega), h18', by rw [Hsn.out]; exact HO3, hbel2.trans (hb3.mono (by omega))⟩
            case measure => omega
        · obtain rfl : j = n := by omega
          have hw : IntKind.i64.wrap (2 * ((cd : Int) + j)) = 2 * ((cd : Int) + j) := by rw [IntKind.wrap_i64]; omega
          go_wp2
          go_roundg (16 - (k + 1))
          case rel => exact ⟨k + 1, 2 * (cd + j), acc ++ wordsTo k cd j, rfl, by omega, by go_num, by go_num, veil (HI.out.next Hn.out (by rw [← HN.out]; exact HJ.out)), h18, HO2, hbel2⟩
          case measure => omega
    · obtain rfl : k = 16 := by omega
      have hd : codes ns = some acc := by have h := HI.out; rw [← Hns.out] at h; exact h.done
      have Hd := veil hd; clear hd
      go_wp2
      go_ret2
      exact ⟨_, ret_two rfl (by rw [Hd.out]; rfl), by unfold tabWords; rw [Hd.out]; exact HO.down (by omega), hbel⟩
end Go.Proofs.YtddkhkpdbjjboaaGreat
