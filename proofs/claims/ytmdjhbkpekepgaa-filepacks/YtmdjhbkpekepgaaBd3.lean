/- Texts shared by the claims of this seat, in one. -/
import Derived.Test.YtmdjhbkpekepgaaBd2
import Derived.Laws.MakeOwn
import Derived.Test.YtmdjhbkpekepgaaRows
import Derived.Laws.ResultCell
import Derived.ChangeKeysEq
import Derived.OpenShut
import Derived.Test.YtmdjhbkpekepgaaBd1
import Derived.BigQuiet
import Derived.Deep.LoopGhost
import Derived.Great.BuildSlice
/- zig.Order: its contract. -/
namespace Go.Proofs.Ytmdjhbkpekepgaa
open Go.RowKit
set_option linter.unusedVariables false
set_option linter.unusedSimpArgs false
set_option maxRecDepth 100000

/-- The first s diagonals. -/
def zzTo (s : Nat) : List Int := (List.range s).flatMap diagL
/-- The zigzag order. -/
def zz : List Int := [0, 1, 8, 16, 9, 2, 3, 10, 17, 24, 32, 25, 18, 11, 4, 5, 12, 19, 26, 33, 40, 48, 41, 34, 27, 20, 13, 6, 7, 14, 21, 28, 35, 42, 49, 56, 57, 50, 43, 36, 29, 22, 15, 23, 30, 37, 44, 51, 58, 59, 52, 45, 38, 31, 39, 46, 53, 60, 61, 54, 47, 55, 62, 63]
theorem zzTo_all : zzTo 15 = zz := by decide +kernel
theorem zz_length : zz.length = 64 := rfl
theorem zzTo_succ (s : Nat) : zzTo (s + 1) = zzTo s ++ diagL s := by simp [zzTo, List.range_succ]
theorem diagL_length (s : Nat) : (diagL s).length ≤ 8 := by
  unfold diagL
  split
  · rw [List.length_reverse, ascD_length]; unfold cntD; omega
  · rw [ascD_length]; unfold cntD; omega
theorem zzTo_length (s : Nat) : (zzTo s).length ≤ 8 * s := by
  induction s with
  | zero => simp [zzTo]
  | succ s ih => rw [zzTo_succ, List.length_append]; have := diagL_length s; omega
theorem info_intZ : (Try.prog.info? 3).map (fun i => (i.zero, i.size, i.bytes)) = some (some (.int .i64 0), 1, 8) := by kernel_rfl
theorem run_make64 (u : World) : (Instr.makeSlice 25 (.int .i64 0) (.int .i64 64)).run Try.prog u =
    .ok (.slice (some ⟨u.heap.size, 0, none⟩) 0 64) (u.alloc (.cells (madeCells #[.int .i64 0] 64) 3)) := by
  obtain ⟨i0, hi, hz0, hz1, hz2⟩ := info_parts info_intZ
  have h := run_make (P := Try.prog) u 25 3 i0 (.int .i64 0) Try.underlying25 hi hz0 .i64 .i64 0 64 (by omega) (by omega) (by rw [hz2]; omega) (by omega)
  simpa [hz1, Value.cells] using h
set_option maxHeartbeats 2000000 in
set_option maxRecDepth 100000 in
theorem order_any (w : World) :
    Calls Try.prog 40 #[] w fun e w' => ∃ g c, e = .returned (.slice (some ⟨g, 0, none⟩) 64 c) ∧ Owns w.heap.size [intRow 3 .i64 (.slice (some ⟨g, 0, none⟩) 64 c) zz] w' ∧ Below w.heap.size w w' := by
  have hmk := run_make64
  have hst : Hid (Owns w.heap.size [intRow 3 .i64 (.slice (some ⟨w.heap.size, 0, none⟩) 0 64) (zzTo 0)] (w.alloc (.cells (madeCells #[.int .i64 0] 64) 3))) :=
    (Owns.start w).made 3 1 (madeCells #[.int .i64 0] 64) 64 (by unfold maxLen; omega) (size_madeCells _ _)
  generalize madeCells #[.int .i64 0] 64 = cs at *
  go_enter Try.func40, Try.ntmps40
  go_wp2
  clear hmk
  go_loopg [1, 4] 15 (fun gk v i wr => ∃ k : Nat, gk = 15 - k ∧ k ≤ 15 ∧ i = .int .i64 (k : Int) ∧ Hid (Owns w.heap.size [intRow 3 .i64 v (zzTo k)] wr) ∧ Hid (Below w.heap.size w wr))
  case atStart => exact ⟨0, rfl, by omega, rfl, hst, veil (below1 _ _)⟩
  case round =>
    clear hst
    obtain ⟨k, rfl, hk, rfl, HO, HB⟩ := hrel
    by_cases hlt : k < 15
    · have hltz : (k : Int) < 15 := by omega
      have HD := veil (fun w1 => diag_any k w1 (by omega))
      have hzl := zzTo_length k
      have hdl := diagL_length k
      have HS := veil (zzTo_succ k)
      generalize zzTo k = l at *
      generalize diagL k = d at *
      go_wp2_with fail
      refine (HD.out _).mono ?_
      rintro e w2 ⟨v2, rfl, HO2, hb2⟩
      obtain ⟨A, c, hv2, hsn, _, _⟩ := HO2.seen (List.mem_singleton.2 rfl)
      simp only [intRow] at hv2
      subst hv2
      have HO3 := (HO.out.call hb2 HO2).swap
      simp only [intRow] at hsn
      clear HD HO2
      go_wp2_with (first
        | (at_builtin; go_loud (refine wpList_ownV w2 rfl (.tmp 7) (.tmp 9) _ rfl w.heap.size 3 1 8 elemZ u1 l.length (ints .i64 l) _ rfl HO3 w2.heap.size A d.length c (ints .i64 d) rfl hsn (by rw [ints_length, Nat.mul_one]) ints_one (by unfold maxLen; omega) (by omega) ?_); intro v4 w4 HO4 hb4)
        | fail)
      go_roundg (15 - (k + 1))
      case rel => exact ⟨k + 1, rfl, by omega, by go_num, veil (by rw [HS.out, ← intRow_append]; exact HO4.swap.tail), veil ((HB.out.trans (hb2.mono HB.out.size)).trans hb4)⟩
      case measure => omega
    · obtain rfl : k = 15 := by omega
      rw [zzTo_all] at HO
      obtain ⟨g, c, rfl⟩ := own_some HO.out (by rw [zz_length]; omega)
      rw [zz_length] at HO
      go_wp2
      go_ret
      exact ⟨g, c, rfl, HO.out, HB.out⟩
end Go.Proofs.Ytmdjhbkpekepgaa

/- The order and its inverse, in numbers. -/
namespace Go.Proofs.Ytmdjhbkpekepgaa
open Go.RowKit
set_option linter.unusedVariables false
set_option linter.unusedSimpArgs false
set_option maxRecDepth 100000

/-- The numbers of a block in the order, the first k of them. -/
def toK (cs : List Int) (k : Nat) : List Int := (List.range 64).map fun i => if i < k then cs.getD (zz.getD i 0).toNat 0 else 0
def toL (cs : List Int) : List Int := toK cs 64
theorem toK_length (cs : List Int) (k : Nat) : (toK cs k).length = 64 := by simp [toK]
theorem zero64_map (f : Nat → Int) (h : ∀ i, f i = 0) : (List.range 64).map f = List.replicate 64 0 := by
  apply List.ext_getElem?
  intro i
  by_cases hi : i < 64
  · rw [List.getElem?_map, List.getElem?_range hi, List.getElem?_replicate, if_pos hi]; simp [h]
  · rw [List.getElem?_eq_none (by simp; omega), List.getElem?_eq_none (by simp; omega)]
theorem toK_zero (cs : List Int) : toK cs 0 = List.replicate 64 0 := zero64_map _ fun i => if_neg (by omega)
theorem zz_at : ∀ k : Fin 64, ∃ n : Fin 64, zz[k.1]? = some ((n.1 : Nat) : Int) ∧ zz.idxOf ((n.1 : Nat) : Int) = k.1 := by decide +kernel
theorem toK_next {cs : List Int} {k n : Nat} {x : Int} (hk : k < 64) (hn : zz[k]? = some (n : Int)) (hx : cs[n]? = some x) : toK cs (k + 1) = (toK cs k).set k x := by
  apply List.ext_getElem?
  intro i
  rw [List.getElem?_set]
  by_cases hi : i < 64
  · simp only [toK, List.getElem?_map, List.getElem?_range hi, List.length_map, List.length_range]
    by_cases e : k = i
    · subst e
      rw [if_pos rfl, if_pos hi]
      simp [List.getD_eq_getElem?_getD, hn, hx]
    · rw [if_neg e]
      simp only [Option.map_some, show i < k + 1 ↔ i < k by omega]
  · rw [List.getElem?_eq_none (by rw [toK_length]; omega), if_neg (by omega), List.getElem?_eq_none (by rw [toK_length]; omega)]
theorem toL_at {cs : List Int} {k n : Nat} (hk : k < 64) (hn : zz[k]? = some (n : Int)) : (toL cs)[k]? = some (cs.getD n 0) := by
  simp only [toL, toK, List.getElem?_map, List.getElem?_range hk, Option.map_some, if_pos hk]
  simp [List.getD_eq_getElem?_getD, hn]
theorem getD_some {cs : List Int} {k : Nat} (hk : k < cs.length) : cs[k]? = some (cs.getD k 0) := by
  rw [List.getD_eq_getElem?_getD, List.getElem?_eq_getElem hk]; rfl
end Go.Proofs.Ytmdjhbkpekepgaa

/- A block's value (64 numbers), and whether two are equal. -/
namespace Go.Proofs.Ytmdjhbkpekepgaa
open Go.RowKit
set_option linter.unusedVariables false
set_option linter.unusedSimpArgs false
set_option maxRecDepth 100000

/-- A block's value. -/
abbrev blkV (cs : List Int) : Value := .agg (ints .i64 cs).toArray
theorem info_blk : (Try.prog.info? 23).map (·.size) = some 64 := by kernel_rfl
theorem info_blkn {xs : List Value} (h : xs.length = 64) : (Try.prog.info? 23).map (·.size) = some xs.length := by rw [h]; exact info_blk
end Go.Proofs.Ytmdjhbkpekepgaa

/- The zero block, three blocks just laid, a block and a code handed back: what the walks over blocks share. -/
namespace Go.Proofs.Ytmdjhbkpekepgaa
open Go.RowKit
set_option linter.unusedVariables false
set_option linter.unusedSimpArgs false
set_option maxRecDepth 100000

def zeroB : List Value := ints .i64 (List.replicate 64 0)
theorem zeroB_length : zeroB.length = 64 := by simp [zeroB, ints_length]
/-- The three blocks that these functions lay. -/
def box3 (cs : List Int) (w : World) : World := ((w.alloc (.cells (ints .i64 cs).toArray 23)).alloc (.cells zeroB.toArray 23)).alloc (.cells zeroB.toArray 23)
theorem box3_is (cs : List Int) (w : World) : Below w.heap.size w (box3 cs w) ∧ Blk (box3 cs w) w.heap.size (ints .i64 cs) 23 ∧ Blk (box3 cs w) (w.heap.size + 1) zeroB 23 ∧ Blk (box3 cs w) (w.heap.size + 1 + 1) zeroB 23 ∧ (box3 cs w).heap.size = w.heap.size + 3 := by
  have e1 := World.size_alloc w (.cells (ints .i64 cs).toArray 23)
  have e2 := World.size_alloc (w.alloc (.cells (ints .i64 cs).toArray 23)) (.cells zeroB.toArray 23)
  have h0 := Blk.new w (ints .i64 cs) 23
  have h1 := Blk.new (w.alloc (.cells (ints .i64 cs).toArray 23)) zeroB 23
  have h2 := Blk.new ((w.alloc (.cells (ints .i64 cs).toArray 23)).alloc (.cells zeroB.toArray 23)) zeroB 23
  have b1 := below1 ((w.alloc (.cells (ints .i64 cs).toArray 23)).alloc (.cells zeroB.toArray 23)) (.cells zeroB.toArray 23)
  have b2 := below2 (w.alloc (.cells (ints .i64 cs).toArray 23)) (.cells zeroB.toArray 23) (.cells zeroB.toArray 23)
  refine ⟨below3 _ _ _ _, h0.below b2 (by omega), ?_, ?_, by simp [box3]⟩
  · have := h1.below b1 (by omega)
    rw [e1] at this; exact this
  · rw [e2, e1] at h2; exact h2
end Go.Proofs.Ytmdjhbkpekepgaa

/- Rounding and clamping in numbers. -/
namespace Go.Proofs.Ytmdjhbkpekepgaa
open Go.RowKit
set_option linter.unusedVariables false
set_option linter.unusedSimpArgs false
set_option maxRecDepth 100000

end Go.Proofs.Ytmdjhbkpekepgaa

/- Rounding and clamping in numbers; blocks made number by number. -/
namespace Go.Proofs.Ytmdjhbkpekepgaa
open Go.RowKit
set_option linter.unusedVariables false
set_option linter.unusedSimpArgs false
set_option maxRecDepth 100000

/-- All numbers within bounds. -/
def inB (lo hi : Int) (cs : List Int) : Bool := cs.all fun x => decide (lo ≤ x) && decide (x ≤ hi)
theorem inB_mem {lo hi : Int} {cs : List Int} : inB lo hi cs = true ↔ ∀ x ∈ cs, lo ≤ x ∧ x ≤ hi := by simp [inB]
theorem inB_at {lo hi : Int} {cs : List Int} (h : inB lo hi cs = true) {i : Nat} {x : Int} (hx : cs[i]? = some x) : lo ≤ x ∧ x ≤ hi := inB_mem.1 h x (List.mem_of_getElem? hx)
def badB (lo hi : Int) (cs : List Int) : Int := if inB lo hi cs = true then 0 else 1
end Go.Proofs.Ytmdjhbkpekepgaa

/- Files as bytes, in numbers: what Check, Pack and Parse answer; there and back; what is cut off. -/
namespace Go.Proofs.Ytmdjhbkpekepgaa
open Go.RowKit
set_option linter.unusedVariables false
set_option linter.unusedSimpArgs false
set_option maxRecDepth 100000

/-- A file's parts. -/
structure FileL where
  wide : Int
  high : Int
  parts : Int
  q : List Int
  cs : List Int
  syms : List Int
  cs2 : List Int
  syms2 : List Int
  every : Int
  data : List Int
/-- Its lists have their lengths. -/
structure FileL.Form (f : FileL) : Prop where
  q : f.q.length = 64
  cs : f.cs.length = 16
  cs2 : f.cs2.length = 16
def badF (f : FileL) : Prop := f.wide < 1 ∨ 64 < f.wide ∨ f.high < 1 ∨ 64 < f.high ∨ (f.parts ≠ 1 ∧ f.parts ≠ 3) ∨ f.every < 0 ∨ 100 < f.every ∨ inB 1 255 f.q = false
instance (f : FileL) : Decidable (badF f) := by unfold badF; infer_instance
/-- What Check says. -/
def eFile (f : FileL) : Int :=
  if badF f then 1 else if eTs f.cs f.syms f.cs2 f.syms2 ≠ 0 then eTs f.cs f.syms f.cs2 f.syms2 else if 90000 < f.data.length then 2 else 0
theorem eFile_zero {f : FileL} (h : eFile f = 0) : ¬ badF f ∧ checkErr f.cs f.syms = 0 ∧ checkErr f.cs2 f.syms2 = 0 ∧ f.data.length ≤ 90000 := by
  unfold eFile at h
  split at h
  · cases h
  · rename_i h1
    split at h
    · rename_i h2; exact absurd h h2
    · rename_i h2
      split at h
      · cases h
      · have h3 : eTs f.cs f.syms f.cs2 f.syms2 = 0 := by simpa using h2
        unfold eTs at h3
        split at h3
        · rename_i h4; exact ⟨h1, h4, h3, by omega⟩
        · rename_i h4; exact absurd h3 h4
/-- A count in two bytes. -/
def w2s : List Int → List Int
  | [] => []
  | n :: cs => n / 256 :: n % 256 :: w2s cs
theorem w2s_length (cs : List Int) : (w2s cs).length = 2 * cs.length := by
  induction cs with
  | nil => rfl
  | cons x l ih => simp only [w2s, List.length_cons, ih]; omega
theorem w2s_app (a b : List Int) : w2s (a ++ b) = w2s a ++ w2s b := by
  induction a with
  | nil => rfl
  | cons x l ih => simp only [List.cons_append, w2s, ih]
/-- Counts out of bytes. -/
def cntN (n : Nat) (bs : List Int) : List Int := (List.range n).map fun k => 256 * bs.getD (2 * k) 0 + bs.getD (2 * k + 1) 0
/-- A table's bytes. -/
def tabB (cs syms : List Int) : List Int := w2s cs ++ syms
theorem tabB_length {cs : List Int} (syms : List Int) (h : cs.length = 16) : (tabB cs syms).length = 32 + syms.length := by rw [tabB, List.length_append, w2s_length, h]
/-- A file's bytes. -/
def headF (f : FileL) : List Int := [77, 90, f.wide, f.high, f.parts, f.every] ++ toL f.q
def packF (f : FileL) : List Int := headF f ++ (tabB f.cs f.syms ++ (tabB f.cs2 f.syms2 ++ f.data))
theorem headF_length (f : FileL) : (headF f).length = 70 := by rw [headF, List.length_append, toL, toK_length]; rfl
def topF (f : FileL) : Nat := 134 + f.syms.length + f.syms2.length
theorem packF_length {f : FileL} (h : f.Form) : (packF f).length = topF f + f.data.length := by
  rw [packF, List.length_append, List.length_append, List.length_append, headF_length, tabB_length _ h.cs, tabB_length _ h.cs2, topF]; omega
def oPack (f : FileL) : List Int := if eFile f = 0 then packF f else []

/-! ### what Parse reads -/
def n1F (bs : List Int) : Nat := (sumW (cntN 16 (bs.drop 70))).toNat
def n2F (bs : List Int) : Nat := (sumW (cntN 16 (bs.drop (102 + n1F bs)))).toNat
def shortF (bs : List Int) : Prop := bs.length < 102 ∨ bs.length < 102 + n1F bs ∨ bs.length < 134 + n1F bs ∨ bs.length < 134 + n1F bs + n2F bs
instance (bs : List Int) : Decidable (shortF bs) := by unfold shortF; infer_instance
/-- No file. -/
def noF : FileL := { wide := 0, high := 0, parts := 0, q := List.replicate 64 0, cs := List.replicate 16 0, syms := [], cs2 := List.replicate 16 0, syms2 := [], every := 0, data := [] }
theorem good_counts {cs syms : List Int} (h : checkErr cs syms = 0) : (sumW cs).toNat = syms.length ∧ syms.length ≤ 256 ∧ (∀ x ∈ cs, 0 ≤ x) := by
  obtain ⟨⟨h1, h2, h3⟩, _⟩ := checkErr_zero h
  exact ⟨by omega, by omega, h1⟩
theorem pack_long {f : FileL} (h : f.Form) (h0 : eFile f = 0) : (packF f).length ≤ 90646 := by
  obtain ⟨_, g1, g2, g3⟩ := eFile_zero h0
  have := (good_counts g1).2.1
  have := (good_counts g2).2.1
  rw [packF_length h, topF]; omega
/-- What is packed are bytes. -/
theorem packF_bytes {f : FileL} (h : f.Form) (h0 : eFile f = 0) (hd : Bytes f.data) : Bytes (packF f) := by
  obtain ⟨g0, g1, g2, g3⟩ := eFile_zero h0
  unfold badF at g0
  have hq : inB 1 255 f.q = true := by cases hh : inB 1 255 f.q; · exact absurd (by simp [hh]) g0
                                       · rfl
  have tb : ∀ {cs syms : List Int}, checkErr cs syms = 0 → Bytes (tabB cs syms) := by
    intro cs syms hc
    obtain ⟨⟨h1, h2, h3⟩, h4, _⟩ := checkErr_zero hc
    have hw : ∀ l : List Int, (∀ x ∈ l, 0 ≤ x) → sumW l ≤ 256 → Bytes (w2s l) := by
      intro l
      induction l with
      | nil => intro _ _ x hx; cases hx
      | cons y l ih =>
        intro p1 p2
        have hs : 0 ≤ sumW l := by
          clear ih p2
          induction l with
          | nil => simp [sumW]
          | cons z l ih => have := ih (fun x hx => p1 x (by simp only [List.mem_cons] at hx ⊢; rcases hx with hx | hx <;> simp [hx])); have := p1 z (by simp); simp only [sumW, List.foldr_cons] at this ih ⊢; simp only [sumW] at *; omega
        have hy := p1 y (by simp)
        have e : sumW (y :: l) = y + sumW l := rfl
        intro x hx
        simp only [w2s, List.mem_cons] at hx
        rcases hx with rfl | rfl | hx
        · omega
        · omega
        · exact ih (fun x hx => p1 x (by simp [hx])) (by omega) x hx
    intro x hx
    rcases List.mem_append.1 hx with hx | hx
    · exact hw cs h1 h2 x hx
    · exact h4 x hx
  intro x hx
  rw [packF, headF] at hx
  simp only [List.mem_append, List.mem_cons, List.not_mem_nil, or_false] at hx
  rcases hx with (((rfl | rfl | rfl | rfl | rfl | rfl) | hx) | hx | hx | hx)
  · omega
  · omega
  · omega
  · omega
  · omega
  · omega
  · obtain ⟨k, hk, e⟩ := List.mem_iff_getElem.1 hx
    have h64 : k < 64 := by rw [toL, toK_length] at hk; exact hk
    obtain ⟨⟨n, hn⟩, p1, p2⟩ := zz_at ⟨k, h64⟩
    have p3 := toL_at (cs := f.q) h64 p1
    rw [List.getElem?_eq_getElem hk, e, Option.some.injEq] at p3
    have p4 := inB_mem.1 hq (f.q.getD n 0) (List.mem_of_getElem? (getD_some (by rw [h.q]; exact hn)))
    change x = f.q.getD n 0 at p3
    rw [p3]; omega
  · exact tb g1 x hx
  · exact tb g2 x hx
  · exact hd x hx
end Go.Proofs.Ytmdjhbkpekepgaa

/- A file in one value, and in memory. -/
namespace Go.Proofs.Ytmdjhbkpekepgaa
open Go.RowKit
set_option linter.unusedVariables false
set_option linter.unusedSimpArgs false
set_option maxRecDepth 100000

/-- A file's cells: three numbers, 64, two tables, a number, a slice of bytes. -/
def fileCells (f : FileL) (A : Option Addr) (c : Nat) (A2 : Option Addr) (c2 : Nat) (A3 : Option Addr) (c3 : Nat) : List Value :=
  [.int .i64 f.wide, .int .i64 f.high, .int .i64 f.parts] ++ (ints .i64 f.q ++ (tabsCells f.cs A f.syms.length c f.cs2 A2 f.syms2.length c2 ++ [.int .i64 f.every, .slice A3 f.data.length c3]))
abbrev fileV (f : FileL) (A : Option Addr) (c : Nat) (A2 : Option Addr) (c2 : Nat) (A3 : Option Addr) (c3 : Nat) : Value := .agg (fileCells f A c A2 c2 A3 c3).toArray
/-- A file whose slices lie in memory. -/
structure FileIn (f : FileL) (A : Option Addr) (c : Nat) (A2 : Option Addr) (c2 : Nat) (A3 : Option Addr) (c3 G : Nat) (w : World) : Prop where
  form : f.Form
  max : f.syms.length ≤ maxLen
  cap : f.syms.length ≤ c
  bnd : ∀ x ∈ f.cs, -9223372036854775808 ≤ x ∧ x ≤ 9223372036854775807
  see : Seen w G A (ints .i64 f.syms)
  max2 : f.syms2.length ≤ maxLen
  cap2 : f.syms2.length ≤ c2
  bnd2 : ∀ x ∈ f.cs2, -9223372036854775808 ≤ x ∧ x ≤ 9223372036854775807
  see2 : Seen w G A2 (ints .i64 f.syms2)
  bytes : Bytes f.data
  max3 : f.data.length ≤ maxLen
  cap3 : f.data.length ≤ c3
  see3 : Seen w G A3 (ints .u8 f.data)
theorem FileIn.below {f : FileL} {A : Option Addr} {c : Nat} {A2 : Option Addr} {c2 : Nat} {A3 : Option Addr} {c3 G B : Nat} {w w' : World} (h : FileIn f A c A2 c2 A3 c3 G w) (hb : Below B w w') (hG : G ≤ B) : FileIn f A c A2 c2 A3 c3 G w' :=
  ⟨h.form, h.max, h.cap, h.bnd, h.see.below hb hG, h.max2, h.cap2, h.bnd2, h.see2.below hb hG, h.bytes, h.max3, h.cap3, h.see3.below hb hG⟩
theorem fileCells_length {f : FileL} (h : f.Form) (A : Option Addr) (c : Nat) (A2 : Option Addr) (c2 : Nat) (A3 : Option Addr) (c3 : Nat) : (fileCells f A c A2 c2 A3 c3).length = 103 := by
  unfold fileCells tabsCells
  rw [List.length_append, List.length_append, List.length_append, List.length_append, tabCells_length h.cs, tabCells_length h.cs2, ints_length, h.q]; rfl
/-- Where a file's parts lie. -/
structure FileAt (f : FileL) (A : Option Addr) (c : Nat) (A2 : Option Addr) (c2 : Nat) (A3 : Option Addr) (c3 : Nat) (w : World) (b : Nat) : Prop where
  wide : w.cell? ⟨b, 0, none⟩ = some (.int .i64 f.wide)
  high : w.cell? ⟨b, 1, none⟩ = some (.int .i64 f.high)
  parts : w.cell? ⟨b, 2, none⟩ = some (.int .i64 f.parts)
  q : w.rangeAt b 3 (ints .i64 f.q)
  tabs : w.rangeAt b 67 (tabsCells f.cs A f.syms.length c f.cs2 A2 f.syms2.length c2)
  every : w.cell? ⟨b, 101, none⟩ = some (.int .i64 f.every)
  data : w.cell? ⟨b, 102, none⟩ = some (.slice A3 f.data.length c3)
theorem fileAt_of {f : FileL} (h : f.Form) {A : Option Addr} {c : Nat} {A2 : Option Addr} {c2 : Nat} {A3 : Option Addr} {c3 : Nat} {w : World} {b : Nat} (hr : w.rangeAt b 0 (fileCells f A c A2 c2 A3 c3)) : FileAt f A c A2 c2 A3 c3 w b := by
  have r1 := range_right hr
  have r2 := range_right r1
  have r3 := range_right r2
  have e34 : (tabsCells f.cs A f.syms.length c f.cs2 A2 f.syms2.length c2).length = 34 := by unfold tabsCells; rw [List.length_append, tabCells_length h.cs, tabCells_length h.cs2]
  rw [ints_length, h.q] at r2 r3
  rw [e34] at r3
  exact ⟨hr 0 _ rfl, hr 1 _ rfl, hr 2 _ rfl, range_left r1, range_left r2, r3 0 _ rfl, r3 1 _ rfl⟩
theorem FileAt.below {f : FileL} {A : Option Addr} {c : Nat} {A2 : Option Addr} {c2 : Nat} {A3 : Option Addr} {c3 b B : Nat} {w w' : World} (h : FileAt f A c A2 c2 A3 c3 w b) (hb : Below B w w') (hB : b < B) : FileAt f A c A2 c2 A3 c3 w' b :=
  ⟨(hb.cell hB).trans h.wide, (hb.cell hB).trans h.high, (hb.cell hB).trans h.parts, range_below h.q hb hB, range_below h.tabs hb hB, (hb.cell hB).trans h.every, (hb.cell hB).trans h.data⟩
end Go.Proofs.Ytmdjhbkpekepgaa

/- Cells of a table, written. -/
namespace Go.Proofs.Ytmdjhbkpekepgaa
open Go.RowKit
set_option linter.unusedVariables false
set_option linter.unusedSimpArgs false
set_option maxRecDepth 100000

end Go.Proofs.Ytmdjhbkpekepgaa

/- A file's cells, written one by one; what Parse has read so far, in numbers. -/
namespace Go.Proofs.Ytmdjhbkpekepgaa
open Go.RowKit
set_option linter.unusedVariables false
set_option linter.unusedSimpArgs false
set_option maxRecDepth 100000

/-- One of two. -/
def sel2 {α : Type} (k : Nat) (x y : α) : α := if k = 0 then x else y
theorem sel2_0 {α : Type} (x y : α) : sel2 0 x y = x := rfl
theorem sel2_1 {α : Type} (x y : α) : sel2 1 x y = y := rfl
/-- A file's cells, its tables' slices by their numbers. -/
def fileK (f : FileL) (a : Nat → Option Addr) (c : Nat → Nat) (A3 : Option Addr) (c3 : Nat) : List Value := fileCells f (a 0) (c 0) (a 1) (c 1) A3 c3
section
variable {f : FileL} {a : Nat → Option Addr} {c : Nat → Nat} {A3 : Option Addr} {c3 : Nat}
end
/-! ### what is read of the tables -/
section
variable (bs : List Int)
end
end Go.Proofs.Ytmdjhbkpekepgaa

/- Small laws for two appends in one statement (a region that draws its order): where each source lies, in whatever order. No program is named here. -/
namespace Go.Proofs.Ytmdjhbkpekepgaa
open Go.RowKit
set_option linter.unusedVariables false
set_option linter.unusedSimpArgs false
set_option maxRecDepth 100000

end Go.Proofs.Ytmdjhbkpekepgaa

/- Parts of a slice of bytes. -/
namespace Go.Proofs.Ytmdjhbkpekepgaa
open Go.RowKit
set_option linter.unusedVariables false
set_option linter.unusedSimpArgs false
set_option maxRecDepth 100000

end Go.Proofs.Ytmdjhbkpekepgaa

/- Rows of bytes. -/
namespace Go.Proofs.Ytmdjhbkpekepgaa
open Go.RowKit
set_option linter.unusedVariables false
set_option linter.unusedSimpArgs false
set_option maxRecDepth 100000

theorem elem_byte : ElemOf Try.prog 30 5 1 1 := .mk' (z := .int .u8 0) Try.underlying30 (by kernel_rfl) rfl (by omega)
abbrev byteRow (v : Value) (l : List Int) : Row := intRow 5 .u8 v l
end Go.Proofs.Ytmdjhbkpekepgaa

/- No file; what Parse hands back; what is read, in memory. -/
namespace Go.Proofs.Ytmdjhbkpekepgaa
open Go.RowKit
set_option linter.unusedVariables false
set_option linter.unusedSimpArgs false
set_option maxRecDepth 100000

/-- No file's cells. -/
def noCells : List Value := fileK noF (fun _ => none) (fun _ => 0) none 0
theorem info_file {xs : List Value} (h : xs.length = 103) : (Try.prog.info? 32).map (·.size) = some xs.length := by rw [h]; kernel_rfl
theorem run_zero_file (u : World) : Sem.run Try.prog (zeroValue 32) u = .ok (.agg noCells.toArray) u := by kernel_rfl
theorem FileIn.up {f : FileL} {A : Option Addr} {c : Nat} {A2 : Option Addr} {c2 : Nat} {A3 : Option Addr} {c3 G G' : Nat} {w : World} (h : FileIn f A c A2 c2 A3 c3 G w) (hG : G ≤ G') : FileIn f A c A2 c2 A3 c3 G' w :=
  ⟨h.form, h.max, h.cap, h.bnd, h.see.up hG, h.max2, h.cap2, h.bnd2, h.see2.up hG, h.bytes, h.max3, h.cap3, h.see3.up hG⟩
theorem noF_in (w : World) (G : Nat) : FileIn noF none 0 none 0 none 0 G w where
  form := ⟨rfl, rfl, rfl⟩
  max := Nat.zero_le _
  cap := Nat.le_refl _
  bnd := by intro x hx; rw [(List.mem_replicate.1 (show x ∈ List.replicate 16 (0 : Int) from hx)).2]; omega
  see := .inl rfl
  max2 := Nat.zero_le _
  cap2 := Nat.le_refl _
  bnd2 := by intro x hx; rw [(List.mem_replicate.1 (show x ∈ List.replicate 16 (0 : Int) from hx)).2]; omega
  see2 := .inl rfl
  bytes := fun x hx => by cases hx
  max3 := Nat.zero_le _
  cap3 := Nat.le_refl _
  see3 := .inl rfl
theorem row_in {w : World} {B : Nat} {rs : List Row} {e : TypeId} {k : IntKind} {A : Option Addr} {c : Nat} {l : List Int} (h : Owns B rs w) (hr : intRow e k (.slice A l.length c) l ∈ rs) : Seen w w.heap.size A (ints k l) ∧ l.length ≤ c ∧ c ≤ maxLen := by
  obtain ⟨A2, c2, e2, hs, h1, h2⟩ := h.seen hr
  have e' : (Value.slice A l.length c) = .slice A2 l.length c2 := e2
  obtain ⟨rfl, rfl⟩ : A = A2 ∧ c = c2 := by simpa using e'
  exact ⟨hs, h1, h2⟩
end Go.Proofs.Ytmdjhbkpekepgaa

/- What file's Check, Pack and Parse are to do, as the laws use it. -/
namespace Go.Proofs.Ytmdjhbkpekepgaa
open Go.RowKit
set_option linter.unusedVariables false
set_option linter.unusedSimpArgs false
set_option maxRecDepth 100000

/-- file.Check's contract. -/
def FCheckSpec : Prop := ∀ (f : FileL) (A : Option Addr) (c : Nat) (A2 : Option Addr) (c2 : Nat) (A3 : Option Addr) (c3 G : Nat) (w : World), FileIn f A c A2 c2 A3 c3 G w → G ≤ w.heap.size →
    Calls Try.prog 9 #[fileV f A c A2 c2 A3 c3] w fun e w' => e = .returned (.int .i64 (eFile f)) ∧ Below w.heap.size w w'
/-- file.Pack's contract. -/
def FPackSpec : Prop := ∀ (f : FileL) (A : Option Addr) (c : Nat) (A2 : Option Addr) (c2 : Nat) (A3 : Option Addr) (c3 G : Nat) (w : World), FileIn f A c A2 c2 A3 c3 G w → G ≤ w.heap.size →
    Calls Try.prog 11 #[fileV f A c A2 c2 A3 c3] w fun e w' => ∃ v, e = .returned (.tuple #[v, .int .i64 (eFile f)]) ∧ Owns w.heap.size [byteRow v (oPack f)] w' ∧ Below w.heap.size w w'
/-- Check of no file. -/
theorem noCheck_any (HK : FCheckSpec) (w : World) : Calls Try.prog 9 #[.agg noCells.toArray] w fun e w' => e = .returned (.int .i64 1) ∧ Below w.heap.size w w' := by
  have h := HK noF none 0 none 0 none 0 w.heap.size w (noF_in w _) (Nat.le_refl _)
  have e : eFile noF = 1 := if_pos (.inl (by decide))
  rw [e] at h
  exact h
end Go.Proofs.Ytmdjhbkpekepgaa

/- The reference's outside, in a text of its own. -/
namespace Go.Proofs.Ytmdjhbkpekepgaa
open Go.RowKit
set_option linter.unusedVariables false
set_option linter.unusedSimpArgs false
set_option maxRecDepth 100000

theorem out_yes (n lo hi : Int) (h : n < lo ∨ hi < n) (w : World) : Calls Try.prog 22 #[.int .i64 n, .int .i64 lo, .int .i64 hi] w fun e w' => e = .returned (.bool true) ∧ w' = w := by
  go_enter Try.func22, Try.ntmps22
  go_wp2
  all_goals (go_ret; exact ⟨ret_bool (by simp <;> omega), rfl⟩)
theorem out_no (n lo hi : Int) (h : lo ≤ n ∧ n ≤ hi) (w : World) : Calls Try.prog 22 #[.int .i64 n, .int .i64 lo, .int .i64 hi] w fun e w' => e = .returned (.bool false) ∧ w' = w := by
  go_enter Try.func22, Try.ntmps22
  go_wp2
  all_goals (go_ret; exact ⟨ret_bool (by simp <;> omega), rfl⟩)
end Go.Proofs.Ytmdjhbkpekepgaa

/- quant.Round, clamp, within, Check, checkBoth: their contracts. -/
namespace Go.Proofs.Ytmdjhbkpekepgaa
open Go.RowKit
set_option linter.unusedVariables false
set_option linter.unusedSimpArgs false
set_option maxRecDepth 100000

/-- A long load, also behind a guard that lets it run. -/
theorem wpList_load_long {P : Program} {ops : Array Oper} {rest : List Oper} {op : Oper} {a : Act} {w : World} {Q : Exit → Act → World → Prop} (hgd : Region.wanted op (yielded ops a.tmps) = true) (ty : TypeId) (x : Operand) (ho : op.op = .load ty x)
    (b o : Nat) (hx : a.eval x = .pointer (some ⟨b, o, none⟩)) (cs : List Value) (d : TypeDesc) (hc : w.rangeAt b o cs)
    (hu : P.underlying ty = some d) (hd : d.isRow = true) (hi : (P.info? ty).map (·.size) = some cs.length)
    (h : wpList P ops Q rest (a.put op.dst (.agg cs.toArray)) w) : wpList P ops Q (op :: rest) a w :=
  wpList_step fun K hK => by
    rw [if_pos hgd]
    exact wp_load_mid ty x ho b o hx cs d hc hu hd hi (hK _ _ h)
theorem inB_take {lo hi : Int} {cs : List Int} {k : Nat} {x : Int} (hx : cs[k]? = some x) (h : inB lo hi (cs.take k) = true) (h1 : lo ≤ x) (h2 : x ≤ hi) : inB lo hi (cs.take (k + 1)) = true := by
  rw [take_snoc hx]; unfold inB at *; rw [List.all_append, h]; simp [h1, h2]
theorem inB_not {lo hi : Int} {cs : List Int} {k : Nat} {x : Int} (hx : cs[k]? = some x) (h : ¬ (lo ≤ x ∧ x ≤ hi)) : badB lo hi cs = 1 := by
  unfold badB; rw [if_neg]; intro h1; exact h (inB_at h1 hx)
theorem inB_all {lo hi : Int} {cs : List Int} (hc : cs.length = 64) (h : inB lo hi (cs.take 64) = true) : badB lo hi cs = 0 := by
  rw [List.take_of_length_le (by omega)] at h; unfold badB; rw [if_pos h]
set_option maxHeartbeats 1000000 in
set_option maxRecDepth 100000 in
theorem within_any (cs : List Int) (lo hi : Int) (w : World) (hc : cs.length = 64) :
    Calls Try.prog 35 #[blkV cs, .int .i64 lo, .int .i64 hi] w fun e w' => e = .returned (.int .i64 (badB lo hi cs)) ∧ Below w.heap.size w w' := by
  have hb0 := below1 w (.cells (ints .i64 cs).toArray 23)
  have hr := range_new w (ints .i64 cs) 23
  have Hl : Hid ((ints .i64 cs).length = 64) := by show _ = _; rw [ints_length, hc]
  have Hat : Hid (∀ (k : Nat) (x : Int), cs[k]? = some x → (ints .i64 cs)[k]? = some (.int .i64 x)) := fun _ _ h => ints_at h
  obtain ⟨E, hE⟩ : ∃ E, E = badB lo hi cs := ⟨_, rfl⟩
  rw [← hE]
  have HE := veil hE; clear hE
  unfold blkV
  generalize ints .i64 cs = xs at *
  go_enter Try.func35, Try.ntmps35
  go_wp2_with (first
    | (refine wpList_load_mid rfl 23 (.tmp 3) rfl w.heap.size 0 rfl xs _ hr Try.underlying23 rfl (info_blkn Hl.out) ?_)
    | fail)
  go_loopg [10] 64 (fun gk i wr => ∃ k : Nat, gk = 64 - k ∧ k ≤ 64 ∧ i = .int .i64 (k : Int) ∧ Hid (inB lo hi (cs.take k) = true) ∧ Below w.heap.size w wr)
  case atStart => exact ⟨0, rfl, by omega, rfl, by simp [inB, Hid], hb0⟩
  case round =>
    clear hr hb0
    obtain ⟨k, rfl, hk, rfl, HI, hb⟩ := hrel
    by_cases hlt : k < 64
    · have hltz : (k : Int) < 64 := by omega
      obtain ⟨x, hx⟩ := some_at (xs := cs) (j := k) (by omega)
      have hxs := Hat.out _ _ hx
      by_cases h1 : lo ≤ x ∧ x ≤ hi
      · have h1a := h1.1
        have h1b := h1.2
        have HI2 := veil (inB_take hx HI.out h1.1 h1.2)
        clear HI hx
        go_wp2_with (first
          | (refine wpList_index_arr rfl 23 (.tmp 9) (.tmp 10) rfl 64 3 .i64 Try.underlying23 Try.underlying3 (by kernel_rfl) xs rfl .i64 k rfl (.int .i64 x) hlt hxs ?_)
          | fail)
        go_roundg (64 - (k + 1))
        case rel => exact ⟨k + 1, rfl, by omega, by go_num, HI2, hb⟩
        case measure => omega
      · have h2 := inB_not hx h1
        rw [← HE.out] at h2
        subst h2
        clear HI hx
        go_wp2_with (first
          | (refine wpList_index_arr rfl 23 (.tmp 9) (.tmp 10) rfl 64 3 .i64 Try.underlying23 Try.underlying3 (by kernel_rfl) xs rfl .i64 k rfl (.int .i64 x) hlt hxs ?_)
          | fail)
        all_goals first
          | (exfalso; omega)
          | (go_ret; exact ⟨rfl, hb⟩)
    · obtain rfl : k = 64 := by omega
      have h2 := inB_all hc HI.out
      rw [← HE.out] at h2
      subst h2
      go_wp2
      go_ret
      exact ⟨rfl, hb⟩
set_option maxHeartbeats 1000000 in
set_option maxRecDepth 100000 in
theorem qcheck_any (cs : List Int) (w : World) (hc : cs.length = 64) :
    Calls Try.prog 20 #[blkV cs] w fun e w' => e = .returned (.int .i64 (badB 1 255 cs)) ∧ Below w.heap.size w w' := by
  have hb0 := below1 w (.cells (ints .i64 cs).toArray 23)
  have hr := range_new w (ints .i64 cs) 23
  have Hl : Hid ((ints .i64 cs).length = 64) := by show _ = _; rw [ints_length, hc]
  have HC := veil (fun W => within_any cs 1 255 W hc)
  unfold blkV at *
  generalize ints .i64 cs = xs at *
  go_enter Try.func20, Try.ntmps20
  go_wp2_with (first
    | (refine wpList_load_mid rfl 23 (.tmp 1) rfl w.heap.size 0 rfl xs _ hr Try.underlying23 rfl (info_blkn Hl.out) ?_)
    | fail)
  refine (HC.out _).mono ?_
  rintro e w1 ⟨rfl, hb1⟩
  go_wp2
  go_ret
  exact ⟨rfl, hb0.trans (hb1.mono (by simp))⟩
end Go.Proofs.Ytmdjhbkpekepgaa

/- The reference's clamp and Round: their contracts. -/
namespace Go.Proofs.Ytmdjhbkpekepgaa
open Go.RowKit
set_option linter.unusedVariables false
set_option linter.unusedSimpArgs false
set_option maxRecDepth 100000

end Go.Proofs.Ytmdjhbkpekepgaa

/- The reference's BlockWithin: its contract. -/
namespace Go.Proofs.Ytmdjhbkpekepgaa
open Go.RowKit
set_option linter.unusedVariables false
set_option linter.unusedSimpArgs false
set_option maxRecDepth 100000

theorem inB_bad {lo hi : Int} {cs : List Int} {k : Nat} {x : Int} (hx : cs[k]? = some x) (h : ¬ (lo ≤ x ∧ x ≤ hi)) : inB lo hi cs = false := by
  cases e : inB lo hi cs with
  | false => rfl
  | true => exact absurd (inB_at e hx) h
set_option maxHeartbeats 1000000 in
set_option maxRecDepth 100000 in
theorem bwithin_any (cs : List Int) (lo hi : Int) (w : World) (hc : cs.length = 64) :
    Calls Try.prog 23 #[blkV cs, .int .i64 lo, .int .i64 hi] w fun e w' => e = .returned (.bool (inB lo hi cs)) ∧ Below w.heap.size w w' := by
  have hb0 := below1 w (.cells (ints .i64 cs).toArray 23)
  have hr := range_new w (ints .i64 cs) 23
  have Hl : Hid ((ints .i64 cs).length = 64) := by show _ = _; rw [ints_length, hc]
  have Hat : Hid (∀ (k : Nat) (x : Int), cs[k]? = some x → (ints .i64 cs)[k]? = some (.int .i64 x)) := fun _ _ h => ints_at h
  obtain ⟨E, hE⟩ : ∃ E, E = inB lo hi cs := ⟨_, rfl⟩
  rw [← hE]
  have HE := veil hE; clear hE
  unfold blkV
  generalize ints .i64 cs = xs at *
  go_enter Try.func23, Try.ntmps23
  go_wp2_with (first
    | (refine wpList_load_mid rfl 23 (.tmp 3) rfl w.heap.size 0 rfl xs _ hr Try.underlying23 rfl (info_blkn Hl.out) ?_)
    | fail)
  go_loopg [10] 64 (fun gk i wr => ∃ k : Nat, gk = 64 - k ∧ k ≤ 64 ∧ i = .int .i64 (k : Int) ∧ Hid (inB lo hi (cs.take k) = true) ∧ Below w.heap.size w wr)
  case atStart => exact ⟨0, rfl, by omega, rfl, by simp [inB, Hid], hb0⟩
  case round =>
    clear hr hb0
    obtain ⟨k, rfl, hk, rfl, HI, hb⟩ := hrel
    by_cases hlt : k < 64
    · have hltz : (k : Int) < 64 := by omega
      obtain ⟨x, hx⟩ := some_at (xs := cs) (j := k) (by omega)
      have hxs := Hat.out _ _ hx
      by_cases h1 : lo ≤ x ∧ x ≤ hi
      · have HI2 := veil (inB_take hx HI.out h1.1 h1.2)
        have HO := veil (out_no x lo hi h1 wr)
        clear HI hx
        go_wp2_with (first
          | (refine wpList_index_arr rfl 23 (.tmp 9) (.tmp 10) rfl 64 3 .i64 Try.underlying23 Try.underlying3 (by kernel_rfl) xs rfl .i64 k rfl (.int .i64 x) hlt hxs ?_)
          | fail)
        refine HO.out.mono ?_
        rintro e w1 ⟨rfl, rfl⟩
        go_wp2_with fail
        go_roundg (64 - (k + 1))
        case rel => exact ⟨k + 1, rfl, by omega, by go_num, HI2, hb⟩
        case measure => omega
      · have h2 := inB_bad hx h1
        have HO := veil (out_yes x lo hi (by omega) wr)
        rw [← HE.out] at h2
        subst h2
        clear HI hx
        go_wp2_with (first
          | (refine wpList_index_arr rfl 23 (.tmp 9) (.tmp 10) rfl 64 3 .i64 Try.underlying23 Try.underlying3 (by kernel_rfl) xs rfl .i64 k rfl (.int .i64 x) hlt hxs ?_)
          | fail)
        refine HO.out.mono ?_
        rintro e w1 ⟨rfl, rfl⟩
        go_wp2
        go_ret
        exact ⟨rfl, hb⟩
    · obtain rfl : k = 64 := by omega
      have h2 : inB lo hi cs = true := by have := HI.out; rw [List.take_of_length_le (by omega)] at this; exact this
      rw [← HE.out] at h2
      subst h2
      go_wp2
      go_ret
      exact ⟨rfl, hb⟩
end Go.Proofs.Ytmdjhbkpekepgaa

/- The reference's FileCheck: its contract. -/
namespace Go.Proofs.Ytmdjhbkpekepgaa
open Go.RowKit
set_option linter.unusedVariables false
set_option linter.unusedSimpArgs false
set_option maxRecDepth 100000

theorem eFile_bad {f : FileL} (h : badF f) : eFile f = 1 := by unfold eFile; rw [if_pos h]
theorem eFile_tabs {f : FileL} (h : ¬ badF f) (h2 : eTs f.cs f.syms f.cs2 f.syms2 ≠ 0) : eFile f = eTs f.cs f.syms f.cs2 f.syms2 := by unfold eFile; rw [if_neg h, if_pos h2]
theorem eFile_large {f : FileL} (h : ¬ badF f) (h2 : eTs f.cs f.syms f.cs2 f.syms2 = 0) (h3 : 90000 < f.data.length) : eFile f = 2 := by unfold eFile; rw [if_neg h, if_neg (by rw [h2]; decide), if_pos h3]
theorem eFile_ok {f : FileL} (h : ¬ badF f) (h2 : eTs f.cs f.syms f.cs2 f.syms2 = 0) (h3 : ¬ 90000 < f.data.length) : eFile f = 0 := by unfold eFile; rw [if_neg h, if_neg (by rw [h2]; decide), if_neg h3]
set_option maxRecDepth 100000 in
set_option maxHeartbeats 2000000 in
theorem refFileCheck_any (f : FileL) (A : Option Addr) (c : Nat) (A2 : Option Addr) (c2 : Nat) (A3 : Option Addr) (c3 G : Nat) (w : World) (hf : FileIn f A c A2 c2 A3 c3 G w) (hG : G ≤ w.heap.size) :
    Calls Try.prog 10 #[fileV f A c A2 c2 A3 c3] w fun e w' => e = .returned (.int .i64 (eFile f)) ∧ Below w.heap.size w w' := by
  have hb0 := below1 w (.cells (fileCells f A c A2 c2 A3 c3).toArray 32)
  have hz0 : (w.alloc (.cells (fileCells f A c A2 c2 A3 c3).toArray 32)).heap.size = w.heap.size + 1 := by simp
  have hat := fileAt_of hf.form (range_new w (fileCells f A c A2 c2 A3 c3) 32)
  have HC := veil (fun W (h : FileIn f A c A2 c2 A3 c3 G W) hG => tablesCheck_any f.cs f.syms A c f.cs2 f.syms2 A2 c2 G W h.form.cs h.max h.cap h.bnd h.see h.form.cs2 h.max2 h.cap2 h.bnd2 h.see2 hG)
  have HW := veil (fun W => bwithin_any f.q 1 255 W hf.form.q)
  have H1 := veil (@eFile_bad f)
  have H2 := veil (@eFile_tabs f)
  have H3 := veil (@eFile_large f)
  have H4 := veil (@eFile_ok f)
  have HB : Hid (badF f ↔ f.wide < 1 ∨ 64 < f.wide ∨ f.high < 1 ∨ 64 < f.high ∨ (f.parts ≠ 1 ∧ f.parts ≠ 3) ∨ f.every < 0 ∨ 100 < f.every ∨ inB 1 255 f.q = false) := Iff.rfl
  have Hq : Hid ((ints .i64 f.q).length = 64) := by show _ = _; rw [ints_length, hf.form.q]
  have Ht : Hid ((tabsCells f.cs A f.syms.length c f.cs2 A2 f.syms2.length c2).length = 34) := by show _ = _; unfold tabsCells; rw [List.length_append, tabCells_length hf.form.cs, tabCells_length hf.form.cs2]
  have Hf := veil hf
  clear hf
  obtain ⟨k1, k2, k3, hq, ht, k4, k5⟩ := hat
  unfold fileV
  unfold tabsV at HC
  unfold blkV at HW
  generalize fileCells f A c A2 c2 A3 c3 = zs at *
  generalize tabsCells f.cs A f.syms.length c f.cs2 A2 f.syms2.length c2 = ts at *
  generalize ints .i64 f.q = xs at *
  generalize inB 1 255 f.q = qb at *
  generalize eTs f.cs f.syms f.cs2 f.syms2 = et at *
  generalize eFile f = E at *
  generalize f.wide = wide at *
  generalize f.high = high at *
  generalize f.parts = parts at *
  generalize f.every = every at *
  go_enter Try.func10, Try.ntmps10
  go_wp2_with fail
  by_cases b1 : wide < 1 ∨ 64 < wide
  · refine (out_yes wide 1 64 b1 _).mono ?_
    rintro e _ ⟨rfl, rfl⟩
    have hE := H1.out (HB.out.2 (by omega))
    subst hE
    go_wp2
    go_ret
    exact ⟨rfl, hb0⟩
  refine (out_no wide 1 64 (by omega) _).mono ?_
  rintro e _ ⟨rfl, rfl⟩
  go_wp2_with fail
  by_cases b2 : high < 1 ∨ 64 < high
  · refine (out_yes high 1 64 b2 _).mono ?_
    rintro e _ ⟨rfl, rfl⟩
    have hE := H1.out (HB.out.2 (by omega))
    subst hE
    go_wp2
    go_ret
    exact ⟨rfl, hb0⟩
  refine (out_no high 1 64 (by omega) _).mono ?_
  rintro e _ ⟨rfl, rfl⟩
  by_cases bp : parts ≠ 1 ∧ parts ≠ 3
  · have hE := H1.out (HB.out.2 (by omega))
    subst hE
    have n1 := bp.1
    have n3 := bp.2
    have HX := veil bp
    clear bp
    have d1 : (parts != 1) = true := by simpa using n1
    have d3 : (parts != 3) = true := by simpa using n3
    clear n1 n3
    go_wp2
    go_ret
    exact ⟨rfl, hb0⟩
  have g13 : parts = 1 ∨ parts = 3 := by omega
  have HX := veil bp
  clear bp
  rcases g13 with rfl | rfl
  all_goals
    go_wp2_with fail
    by_cases b5 : every < 0 ∨ 100 < every
    · refine (out_yes every 0 100 b5 _).mono ?_
      rintro e _ ⟨rfl, rfl⟩
      have hE := H1.out (HB.out.2 (by omega))
      subst hE
      go_wp2
      go_ret
      exact ⟨rfl, hb0⟩
    refine (out_no every 0 100 (by omega) _).mono ?_
    rintro e _ ⟨rfl, rfl⟩
    go_wp2_with (first
      | (refine wpList_load_long rfl 23 (.tmp 28) rfl w.heap.size 3 rfl xs _ (by simpa using hq) Try.underlying23 rfl (info_blkn Hq.out) ?_)
      | fail)
    refine (HW.out _).mono ?_
    rintro e w1 ⟨rfl, hb1⟩
    have hbw := hb0.trans (hb1.mono (by rw [hz0]; omega))
    have ht' := range_below ht hb1 (by rw [hz0]; omega)
    have k5' := (hb1.cell (show w.heap.size < _ by rw [hz0]; omega)).trans k5
    have hz1 : w.heap.size + 1 ≤ w1.heap.size := by have := hb1.size; omega
    clear hq ht k1 k2 k3 k4 k5 hb1
    cases qb with
    | false =>
      have hE := H1.out (HB.out.2 (by simp))
      subst hE
      go_wp2
      go_ret
      exact ⟨rfl, hbw⟩
    | true =>
      have hnb : ¬ badF f := fun h => by have := HB.out.1 h; simp at this; omega
      go_wp2_with (first
        | (refine wpList_load_mid rfl 29 (.tmp 33) rfl w.heap.size 67 rfl ts _ (by simpa using ht') Try.underlying29 rfl (by rw [Ht.out]; kernel_rfl) ?_)
        | fail)
      refine (HC.out w1 (Hf.out.below hbw (by omega)) (by omega)).mono ?_
      rintro e w2 ⟨rfl, hb2⟩
      have hbf := hbw.trans (hb2.mono (by omega))
      have k6 := (hb2.cell (show w.heap.size < _ by omega)).trans k5'
      clear k5' hb2 HC HW ht'
      by_cases h0 : et = 0
      · subst h0
        by_cases h1 : 90000 < f.data.length
        · have hE := H3.out hnb rfl h1
          subst hE
          have h2 : (90000 : Int) < f.data.length := by omega
          go_wp2
          go_ret
          exact ⟨rfl, hbf⟩
        · have hE := H4.out hnb rfl h1
          subst hE
          have h2 : ¬ (90000 : Int) < f.data.length := by omega
          go_wp2
          go_ret
          exact ⟨rfl, hbf⟩
      · have hE := H2.out hnb h0
        subst hE
        have hne : (E != 0) = true := by simpa using h0
        clear h0
        go_wp2
        go_ret
        exact ⟨rfl, hbf⟩
end Go.Proofs.Ytmdjhbkpekepgaa

/- A slice of two tables, built; a row just laid. -/
namespace Go.Proofs.Ytmdjhbkpekepgaa
open Go.RowKit
set_option linter.unusedVariables false
set_option linter.unusedSimpArgs false
set_option maxRecDepth 100000

/-- What was just laid is a row of one's own. -/
theorem laid_own (w : World) (e : TypeId) (size n : Nat) (xs : List Value) (hl : xs.length = n * size) (hm : n ≤ maxLen) : Owns w.heap.size [⟨e, size, .slice (some ⟨w.heap.size, 0, none⟩) n n, n, xs⟩] (w.alloc (.cells xs.toArray e)) := by
  refine ⟨by simp, fun x hx => ?_, List.pairwise_singleton _ _⟩
  rw [List.mem_singleton.1 hx]
  refine ⟨hl, .inr ⟨w.heap.size, n, xs.toArray, rfl, Nat.le_refl _, heap_alloc_new w _, Nat.le_refl _, hm, by simpa using hl, ?_⟩⟩
  show xs.toArray.toList.take (n * size) = xs
  rw [← hl]; simp
theorem fill_tabs (xs ys : List Value) (hx : xs.length = 17) (hy : ys.length = 17) (base : Array Value) (hb : base.size = 34) : Instr.fill (fun i => some (i * 17, 17)) base [(0, .agg xs.toArray), (1, .agg ys.toArray)] = some (xs ++ ys).toArray := by
  obtain ⟨r, h1, h2, h3⟩ := Great.fill_dense (s := 17) (by omega) [.agg xs.toArray, .agg ys.toArray] 0 base (by
    intro v hv
    simp only [List.mem_cons, List.not_mem_nil, or_false] at hv
    rcases hv with rfl | rfl
    · simpa [Value.cells] using hx
    · simpa [Value.cells] using hy) (by rw [hb]; simp)
  have e : (([Value.agg xs.toArray, .agg ys.toArray].zipIdx 0).map fun x => (x.2, x.1)) = [(0, .agg xs.toArray), (1, .agg ys.toArray)] := rfl
  rw [e] at h1
  rw [h1]
  congr 1
  apply Array.ext_getElem?
  intro k
  rw [h3 k]
  by_cases hk : k < 34
  · rw [if_pos (by simp; omega)]
    by_cases h17 : k < 17
    · rw [show k / 17 = 0 by omega, show k % 17 = k by omega]
      simp [Value.cells, List.getElem?_append_left (show k < xs.length by omega)]
    · rw [show k / 17 = 1 by omega, show k % 17 = k - 17 by omega]
      simp [Value.cells, List.getElem?_append_right (show xs.length ≤ k by omega), hx]
  · rw [if_neg (by simp; omega), Array.getElem?_eq_none (by omega), Array.getElem?_eq_none (by simp; omega)]
theorem wpList_store_newK {P : Program} {ops : Array Oper} {rest : List Oper} {o : Oper} {a : Act} {Q : Exit → Act → World → Prop} (w0 : World) (n : Nat) (hn : w0.heap.size = n) (hgd : o.guard = none) (t : TypeId) (x y : Operand) (ho : o.op = .store t x y) (c : Array Value) (c' : List Value)
    (hx : a.eval x = .pointer (some ⟨n, 0, none⟩)) (hy : a.eval y = .agg c'.toArray) (hi : (P.info? t).map (·.size) = some c'.length) (hsz : c.size = c'.length) (h1 : ∀ u ∈ c', u.oneCell' = true)
    (h : wpList P ops Q rest (a.put o.dst undef) (w0.alloc (.cells c'.toArray t))) : wpList P ops Q (o :: rest) a (w0.alloc (.cells c t)) := by
  subst hn
  exact wpList_store_new w0 hgd t x y ho c c' hx hy hi hsz h1 h
theorem zero_tab : (Try.prog.info? 27).map (fun i => (i.zero, i.size, i.bytes)) = some (some (.agg #[.int .i64 0, .int .i64 0, .int .i64 0, .int .i64 0, .int .i64 0, .int .i64 0, .int .i64 0, .int .i64 0, .int .i64 0, .int .i64 0, .int .i64 0, .int .i64 0, .int .i64 0, .int .i64 0, .int .i64 0, .int .i64 0, .slice none 0 0]), 17, 152) := by kernel_rfl
/-- In a walk: a slice of two tables. -/
theorem wpList_buildTabs {ops : Array Oper} {rest : List Oper} {o : Oper} {a : Act} {w : World} {Q : Exit → Act → World → Prop} (hg : o.guard = none) (x y : Operand) (ho : o.op = .buildSlice 56 2 #[(0, x), (1, y)]) (xs ys : List Value) (hx : a.eval x = .agg xs.toArray) (hy : a.eval y = .agg ys.toArray) (hlx : xs.length = 17) (hly : ys.length = 17)
    (h : wpList Try.prog ops Q rest (a.put o.dst (.slice (some ⟨w.heap.size, 0, none⟩) 2 2)) (w.alloc (.cells (xs ++ ys).toArray 27))) : wpList Try.prog ops Q (o :: rest) a w := by
  obtain ⟨i0, hi, hz0, hz1, hz2⟩ := info_parts zero_tab
  refine wpList_buildSlice hg 56 27 2 #[(0, x), (1, y)] ho (xs ++ ys).toArray i0 _ Try.underlying56 hi hz0 (by rw [hz1]; omega) (by rw [hz1]; omega) ?_ h
  have e : (#[(0, x), (1, y)].map fun (i, x) => (i, a.eval x)).toList = [(0, .agg xs.toArray), (1, .agg ys.toArray)] := by simp [hx, hy]
  rw [e, hz1]
  exact fill_tabs xs ys hlx hly _ (by simp)
end Go.Proofs.Ytmdjhbkpekepgaa

/- The laws' zigged: the order begins as the document says. -/
namespace Go.Proofs.Ytmdjhbkpekepgaa
open Go.RowKit
set_option linter.unusedVariables false
set_option linter.unusedSimpArgs false
set_option maxRecDepth 100000

theorem zz_form {w : World} {B g c : Nat} {rs : List Row} (h : Owns B (intRow 3 .i64 (.slice (some ⟨g, 0, none⟩) 64 c) zz :: rs) w) : Seen w w.heap.size (some ⟨g, 0, none⟩) (ints .i64 zz) ∧ 64 ≤ c ∧ c ≤ maxLen := by
  obtain ⟨A, c', e, hs, h1, h2⟩ := h.seen (List.mem_cons_self ..)
  simp only [intRow, Value.slice.injEq] at e hs h1
  obtain ⟨e1, e2, e3⟩ := e
  rw [e1, e3]
  exact ⟨hs, by rw [e2]; exact h1, h2⟩
end Go.Proofs.Ytmdjhbkpekepgaa

/- zig.To and zig.From: their contracts. -/
namespace Go.Proofs.Ytmdjhbkpekepgaa
open Go.RowKit
set_option linter.unusedVariables false
set_option linter.unusedSimpArgs false
set_option maxRecDepth 100000

theorem zz_cellK {w : World} {B g : Nat} (h : Seen w B (some ⟨g, 0, none⟩) (ints .i64 zz)) {k : Nat} {x : Int} (hk : zz[k]? = some x) : w.cell? ⟨g, k, none⟩ = some (.int .i64 x) := by
  obtain ⟨g', o, e0, _, hc⟩ := h.cell (ints_at hk)
  injection e0 with e0
  injection e0 with e1 e2
  subst e1 e2
  rwa [Nat.zero_add] at hc
set_option maxHeartbeats 4000000 in
set_option maxRecDepth 100000 in
theorem to_any (cs : List Int) (w : World) (hc : cs.length = 64) :
    Calls Try.prog 26 #[blkV cs] w fun e w' => e = .returned (blkV (toL cs)) ∧ Below w.heap.size w w' := by
  have HA := veil (order_any (box3 cs w))
  obtain ⟨hb3, HB0, HB1, HB2, hz3⟩ := box3_is cs w
  go_enter Try.func26, Try.ntmps26
  go_wp2_with fail
  refine HA.out.mono ?_
  rintro e w2 ⟨g, c, rfl, HO, hb2⟩
  have h1 := (zz_form HO).1
  rw [hz3] at HO hb2
  have HB0' := HB0.below hb2 (by omega)
  have HB1' := HB1.below hb2 (by omega)
  have HB2' := veil (HB2.below hb2 (by omega))
  have hz2 := hb2.size
  have hbw := hb3.trans (hb2.mono (by omega))
  clear HA HB0 HB1 HB2 hb2 h1 hb3
  go_wp2_with fail
  go_loopg [8] 64 (fun gk i wr => ∃ k : Nat, gk = 64 - k ∧ k ≤ 64 ∧ i = .int .i64 (k : Int) ∧ Hid (Blk wr (w.heap.size + 1 + 1) (ints .i64 (toK cs k)) 23) ∧ Hid (w2.grownBy wr (some (w.heap.size + 1 + 1))))
  case atStart => exact ⟨0, rfl, by omega, rfl, veil (by rw [toK_zero]; exact HB2'.out), veil (World.grownBy.refl _ _)⟩
  case round =>
    clear HB2'
    obtain ⟨k, rfl, hk, rfl, HB, HG⟩ := hrel
    have HBX := HB0'.kept HG.out (by simp; omega)
    have HO2 := HO.kept HG.out (by omega)
    have h1 := (zz_form HO2).1
    by_cases hlt : k < 64
    · have hltz : (k : Int) < 64 := by omega
      obtain ⟨⟨n, hn64⟩, hn, _⟩ := zz_at ⟨k, hlt⟩
      simp only at hn
      have hnz : (n : Int) < 64 := by omega
      obtain ⟨x, hx⟩ := some_at (xs := cs) (j := n) (by omega)
      have hcn := zz_cellK h1 hn
      have hcx := HBX.cell (ints_at hx)
      obtain ⟨y, hy⟩ := some_at (xs := toK cs k) (j := k) (by rw [toK_length]; omega)
      have hcy := HB.out.cell (ints_at hy)
      have hfy := HB.out.frozen k
      have HB5 : Hid (Blk (wr.setCell ⟨w.heap.size + 1 + 1, k, none⟩ (.int .i64 x)) (w.heap.size + 1 + 1) (ints .i64 (toK cs (k + 1))) 23) := by
        rw [toK_next hlt hn hx]
        have := HB.out.set k (.int .i64 x)
        rw [show (ints .i64 (toK cs k)).set k (.int .i64 x) = ints .i64 ((toK cs k).set k x) by simp [ints, List.map_set]] at this
        exact this
      have HG5 : Hid (w2.grownBy (wr.setCell ⟨w.heap.size + 1 + 1, k, none⟩ (.int .i64 x)) (some (w.heap.size + 1 + 1))) :=
        HG.out.trans ⟨rfl, rfl, rfl, by simp [World.setCell], fun i _ hi => Below.heap_setCell _ _ _ _ (fun e => hi (by rw [e]))⟩
      clear HB HG HBX HO2 h1 hn hx hy
      go_wp2_with fail
      go_roundg (64 - (k + 1))
      case rel => exact ⟨k + 1, rfl, by omega, by go_num, HB5, HG5⟩
      case measure => omega
    · obtain rfl : k = 64 := by omega
      have HR := HB1'.kept HG.out (by simp)
      have HBr := HB.out
      have Hlen : Hid ((ints .i64 (toK cs 64)).length = 64) := by show _ = _; rw [ints_length, toK_length]
      have hone := ints_one (k := .i64) (l := toK cs 64)
      have hbg : Below w.heap.size w wr := hbw.grown HG.out hbw.size (fun j hj => by injection hj with hj; omega)
      have Hz := veil zeroB_length
      obtain ⟨xs, hxs⟩ : ∃ xs, xs = ints .i64 (toK cs 64) := ⟨_, rfl⟩
      rw [← hxs] at Hlen hone HBr
      have HX := veil hxs
      generalize zeroB = x0 at *
      clear HB HG HBX HO2 h1 hxs
      go_wp2_with (first
        | (refine wpList_load_mid rfl 23 (.tmp 3) rfl (w.heap.size + 1 + 1) 0 rfl xs _ HBr.range Try.underlying23 rfl (info_blkn Hlen.out) ?_)
        | (refine wpList_store_blk wr rfl 23 (.tmp 2) (.tmp 19) rfl (w.heap.size + 1) x0 xs 23 HR rfl rfl (info_blkn Hlen.out) (by rw [Hlen.out, Hz.out]) hone ?_; intro w5 HB5 hg5)
        | fail)
      refine bodyPost_ret (v := .agg xs.toArray) (results_cell_row rfl _ _ (w.heap.size + 1) 23 xs.toArray (0, 0) _ rfl HB5 Try.underlying23 rfl (by simp only [List.size_toArray]; exact info_blkn Hlen.out)) rfl ⟨by rw [HX.out]; rfl, hbg.grown hg5 hbg.size (fun j hj => by injection hj with hj; omega)⟩
end Go.Proofs.Ytmdjhbkpekepgaa

/- The reference's ZigOrder: the same order. -/
namespace Go.Proofs.Ytmdjhbkpekepgaa
open Go.RowKit
set_option linter.unusedVariables false
set_option linter.unusedSimpArgs false
set_option maxRecDepth 100000

/-- What place j of diagonal s adds. -/
def rowR (s j : Nat) : Int := if s % 2 = 0 then 7 - (j : Int) else (j : Int)
def oneR (s j : Nat) : List Int := if 0 ≤ (s : Int) - rowR s j ∧ (s : Int) - rowR s j ≤ 7 then [8 * rowR s j + ((s : Int) - rowR s j)] else []
def innR (s k : Nat) : List Int := (List.range k).flatMap (oneR s)
def outR (s k : Nat) : List Int := (List.range s).flatMap (fun t => innR t 8) ++ innR s k
theorem outR_all : outR 15 0 = zz := by decide +kernel
theorem outR_next (s : Nat) : outR (s + 1) 0 = outR s 8 := by simp [outR, List.range_succ, innR]
theorem outR_yes {s k : Nat} (h : 0 ≤ (s : Int) - rowR s k ∧ (s : Int) - rowR s k ≤ 7) : outR s (k + 1) = outR s k ++ [8 * rowR s k + ((s : Int) - rowR s k)] := by
  have : oneR s k = [8 * rowR s k + ((s : Int) - rowR s k)] := if_pos h
  simp [outR, innR, List.range_succ, this]
theorem outR_no {s k : Nat} (h : ¬ (0 ≤ (s : Int) - rowR s k ∧ (s : Int) - rowR s k ≤ 7)) : outR s (k + 1) = outR s k := by
  have : oneR s k = [] := if_neg h
  simp [outR, innR, List.range_succ, this]
theorem oneR_length (s k : Nat) : (oneR s k).length ≤ 1 := by unfold oneR; split <;> simp
theorem innR_length (s k : Nat) : (innR s k).length ≤ k := by
  induction k with
  | zero => simp [innR]
  | succ k ih => have := oneR_length s k; simp [innR, List.range_succ] at ih ⊢; omega
theorem outR_length (s k : Nat) : (outR s k).length ≤ 8 * s + k := by
  have h1 := innR_length s k
  have h2 : ((List.range s).flatMap (fun t => innR t 8)).length ≤ 8 * s := by
    clear h1
    induction s with
    | zero => simp
    | succ s ih => have := innR_length s 8; simp [List.range_succ] at ih ⊢; omega
  unfold outR; rw [List.length_append]; omega
set_option maxHeartbeats 4000000 in
set_option maxRecDepth 100000 in
theorem refOrder_any (w : World) :
    Calls Try.prog 31 #[] w fun e w' => ∃ g c, e = .returned (.slice (some ⟨g, 0, none⟩) 64 c) ∧ Owns w.heap.size [intRow 3 .i64 (.slice (some ⟨g, 0, none⟩) 64 c) zz] w' ∧ Below w.heap.size w w' := by
  go_enter Try.func31, Try.ntmps31
  go_wp2
  go_loopg [1, 6] 15 (fun gk v i wr => ∃ s : Nat, gk = 15 - s ∧ s ≤ 15 ∧ i = .int .i64 (s : Int) ∧ Hid (Owns w.heap.size [intRow 3 .i64 v (outR s 0)] wr) ∧ Hid (Below w.heap.size w wr))
  case atStart => exact ⟨0, rfl, by omega, rfl, veil ((Owns.start w).fresh _ _), veil (Below.refl _ _)⟩
  case round =>
    obtain ⟨s, rfl, hs, rfl, HO, HB⟩ := hrel
    by_cases hlt : s < 15
    · have hltz : (s : Int) < 15 := by omega
      go_wp2_with fail
      rename World => W0
      go_loopg [1, 9] 8 (fun gk v i wr => ∃ k : Nat, gk = 8 - k ∧ k ≤ 8 ∧ i = .int .i64 (k : Int) ∧ Hid (Owns w.heap.size [intRow 3 .i64 v (outR s k)] wr) ∧ Hid (Below w.heap.size w wr))
      case atStart => exact ⟨0, rfl, by omega, rfl, HO, HB⟩
      case round =>
        clear HO HB
        obtain ⟨k, rfl, hk, rfl, HO, HB⟩ := hrel
        by_cases hkt : k < 8
        · have hktz : (k : Int) < 8 := by omega
          have hrow : Hid (rowR s k = if s % 2 = 0 then 7 - (k : Int) else (k : Int)) := rfl
          have hrb : 0 ≤ rowR s k ∧ rowR s k ≤ 7 := by unfold rowR; split <;> omega
          have hol := outR_length s k
          have HY := veil (outR_yes (s := s) (k := k))
          have HNo := veil (outR_no (s := s) (k := k))
          generalize outR s k = l at *
          generalize rowR s k = r at *
          by_cases he : s % 2 = 0
          · have het : ((s : Int) % 2 == 0) = true := by simp; omega
            have hez : (s : Int).tmod 2 = 0 := by rw [Int.tmod_eq_emod_of_nonneg (by omega)]; omega
            have hr : r = 7 - (k : Int) := by rw [hrow.out, if_pos he]
            subst hr
            clear hrow
            by_cases hin : 0 ≤ (s : Int) - (7 - (k : Int)) ∧ (s : Int) - (7 - (k : Int)) ≤ 7
            · have HC := veil (out_no ((s : Int) - (7 - (k : Int))) 0 7 hin)
              go_wp2_with fail
              refine (HC.out _).mono ?_
              rintro e w2 ⟨rfl, rfl⟩
              go_wp2_with (first
                | (at_builtin; go_loud (refine wpList_ownI _ rfl (.tmp 24) (.tmp 29) _ rfl w.heap.size 3 .i64 8 elemZ u1 l [] rfl HO.out [_] rfl (by unfold maxLen; simp; omega) (by simp; omega) ?_); intro v4 w4 HO4 hb4 hz4)
                | fail)
              go_roundg (8 - (k + 1))
              case rel => exact ⟨k + 1, rfl, by omega, by go_num, veil (by rw [HY.out hin]; exact HO4), veil (HB.out.trans hb4)⟩
              case measure => omega
            · have HC := veil (out_yes ((s : Int) - (7 - (k : Int))) 0 7 (by omega))
              go_wp2_with fail
              refine (HC.out _).mono ?_
              rintro e w2 ⟨rfl, rfl⟩
              go_wp2_with fail
              go_roundg (8 - (k + 1))
              case rel => exact ⟨k + 1, rfl, by omega, by go_num, veil (by rw [HNo.out hin]; exact HO.out), HB⟩
              case measure => omega
          · have het : ((s : Int) % 2 == 0) = false := by simp; omega
            have hez : ¬ (s : Int).tmod 2 = 0 := by rw [Int.tmod_eq_emod_of_nonneg (by omega)]; omega
            have hr : r = (k : Int) := by rw [hrow.out, if_neg he]
            subst hr
            clear hrow
            by_cases hin : 0 ≤ (s : Int) - (k : Int) ∧ (s : Int) - (k : Int) ≤ 7
            · have HC := veil (out_no ((s : Int) - (k : Int)) 0 7 hin)
              go_wp2_with fail
              refine (HC.out _).mono ?_
              rintro e w2 ⟨rfl, rfl⟩
              go_wp2_with (first
                | (at_builtin; go_loud (refine wpList_ownI _ rfl (.tmp 24) (.tmp 29) _ rfl w.heap.size 3 .i64 8 elemZ u1 l [] rfl HO.out [_] rfl (by unfold maxLen; simp; omega) (by simp; omega) ?_); intro v4 w4 HO4 hb4 hz4)
                | fail)
              go_roundg (8 - (k + 1))
              case rel => exact ⟨k + 1, rfl, by omega, by go_num, veil (by rw [HY.out hin]; exact HO4), veil (HB.out.trans hb4)⟩
              case measure => omega
            · have HC := veil (out_yes ((s : Int) - (k : Int)) 0 7 (by omega))
              go_wp2_with fail
              refine (HC.out _).mono ?_
              rintro e w2 ⟨rfl, rfl⟩
              go_wp2_with fail
              go_roundg (8 - (k + 1))
              case rel => exact ⟨k + 1, rfl, by omega, by go_num, veil (by rw [HNo.out hin]; exact HO.out), HB⟩
              case measure => omega
        · obtain rfl : k = 8 := by omega
          rw [← outR_next] at HO
          go_wp2_with fail
          go_roundg (15 - (s + 1))
          case rel => exact ⟨s + 1, rfl, by omega, by go_num, HO, HB⟩
          case measure => omega
    · obtain rfl : s = 15 := by omega
      rw [outR_all] at HO
      obtain ⟨g, c, rfl⟩ := own_some HO.out (by rw [zz_length]; omega)
      rw [zz_length] at HO
      go_wp2
      go_ret
      exact ⟨g, c, rfl, HO.out, HB.out⟩
end Go.Proofs.Ytmdjhbkpekepgaa

/- The reference's ZigTo and ZigFrom: their contracts. -/
namespace Go.Proofs.Ytmdjhbkpekepgaa
open Go.RowKit
set_option linter.unusedVariables false
set_option linter.unusedSimpArgs false
set_option maxRecDepth 100000

set_option maxHeartbeats 4000000 in
set_option maxRecDepth 100000 in
theorem refTo_any (cs : List Int) (w : World) (hc : cs.length = 64) :
    Calls Try.prog 28 #[blkV cs] w fun e w' => e = .returned (blkV (toL cs)) ∧ Below w.heap.size w w' := by
  have HA := veil (refOrder_any (box3 cs w))
  obtain ⟨hb3, HB0, HB1, HB2, hz3⟩ := box3_is cs w
  go_enter Try.func28, Try.ntmps28
  go_wp2_with fail
  refine HA.out.mono ?_
  rintro e w2 ⟨g, c, rfl, HO, hb2⟩
  have h1 := (zz_form HO).1
  rw [hz3] at HO hb2
  have HB0' := HB0.below hb2 (by omega)
  have HB1' := HB1.below hb2 (by omega)
  have HB2' := veil (HB2.below hb2 (by omega))
  have hz2 := hb2.size
  have hbw := hb3.trans (hb2.mono (by omega))
  clear HA HB0 HB1 HB2 hb2 h1 hb3
  go_wp2_with fail
  go_loopg [8] 64 (fun gk i wr => ∃ k : Nat, gk = 64 - k ∧ k ≤ 64 ∧ i = .int .i64 (k : Int) ∧ Hid (Blk wr (w.heap.size + 1 + 1) (ints .i64 (toK cs k)) 23) ∧ Hid (w2.grownBy wr (some (w.heap.size + 1 + 1))))
  case atStart => exact ⟨0, rfl, by omega, rfl, veil (by rw [toK_zero]; exact HB2'.out), veil (World.grownBy.refl _ _)⟩
  case round =>
    clear HB2'
    obtain ⟨k, rfl, hk, rfl, HB, HG⟩ := hrel
    have HBX := HB0'.kept HG.out (by simp; omega)
    have HO2 := HO.kept HG.out (by omega)
    have h1 := (zz_form HO2).1
    by_cases hlt : k < 64
    · have hltz : (k : Int) < 64 := by omega
      obtain ⟨⟨n, hn64⟩, hn, _⟩ := zz_at ⟨k, hlt⟩
      simp only at hn
      have hnz : (n : Int) < 64 := by omega
      obtain ⟨x, hx⟩ := some_at (xs := cs) (j := n) (by omega)
      have hcn := zz_cellK h1 hn
      have hcx := HBX.cell (ints_at hx)
      obtain ⟨y, hy⟩ := some_at (xs := toK cs k) (j := k) (by rw [toK_length]; omega)
      have hcy := HB.out.cell (ints_at hy)
      have hfy := HB.out.frozen k
      have HB5 : Hid (Blk (wr.setCell ⟨w.heap.size + 1 + 1, k, none⟩ (.int .i64 x)) (w.heap.size + 1 + 1) (ints .i64 (toK cs (k + 1))) 23) := by
        rw [toK_next hlt hn hx]
        have := HB.out.set k (.int .i64 x)
        rw [show (ints .i64 (toK cs k)).set k (.int .i64 x) = ints .i64 ((toK cs k).set k x) by simp [ints, List.map_set]] at this
        exact this
      have HG5 : Hid (w2.grownBy (wr.setCell ⟨w.heap.size + 1 + 1, k, none⟩ (.int .i64 x)) (some (w.heap.size + 1 + 1))) :=
        HG.out.trans ⟨rfl, rfl, rfl, by simp [World.setCell], fun i _ hi => Below.heap_setCell _ _ _ _ (fun e => hi (by rw [e]))⟩
      clear HB HG HBX HO2 h1 hn hx hy
      go_wp2_with fail
      go_roundg (64 - (k + 1))
      case rel => exact ⟨k + 1, rfl, by omega, by go_num, HB5, HG5⟩
      case measure => omega
    · obtain rfl : k = 64 := by omega
      have HR := HB1'.kept HG.out (by simp)
      have HBr := HB.out
      have Hlen : Hid ((ints .i64 (toK cs 64)).length = 64) := by show _ = _; rw [ints_length, toK_length]
      have hone := ints_one (k := .i64) (l := toK cs 64)
      have hbg : Below w.heap.size w wr := hbw.grown HG.out hbw.size (fun j hj => by injection hj with hj; omega)
      have Hz := veil zeroB_length
      obtain ⟨xs, hxs⟩ : ∃ xs, xs = ints .i64 (toK cs 64) := ⟨_, rfl⟩
      rw [← hxs] at Hlen hone HBr
      have HX := veil hxs
      generalize zeroB = x0 at *
      clear HB HG HBX HO2 h1 hxs
      go_wp2_with (first
        | (refine wpList_load_mid rfl 23 (.tmp 3) rfl (w.heap.size + 1 + 1) 0 rfl xs _ HBr.range Try.underlying23 rfl (info_blkn Hlen.out) ?_)
        | (refine wpList_store_blk wr rfl 23 (.tmp 2) (.tmp 19) rfl (w.heap.size + 1) x0 xs 23 HR rfl rfl (info_blkn Hlen.out) (by rw [Hlen.out, Hz.out]) hone ?_; intro w5 HB5 hg5)
        | fail)
      refine bodyPost_ret (v := .agg xs.toArray) (results_cell_row rfl _ _ (w.heap.size + 1) 23 xs.toArray (0, 0) _ rfl HB5 Try.underlying23 rfl (by simp only [List.size_toArray]; exact info_blkn Hlen.out)) rfl ⟨by rw [HX.out]; rfl, hbg.grown hg5 hbg.size (fun j hj => by injection hj with hj; omega)⟩
end Go.Proofs.Ytmdjhbkpekepgaa
