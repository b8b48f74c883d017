/- Texts shared by the claims of this seat, in one. -/
import Derived.Test.YtmdjhbkpekepgaaBd3
import Derived.Test.YtmdjhbkpekepgaaBd1
import Derived.Deep.RegionHeld3
import Derived.Test.YtmdjhbkpekepgaaBd4
import Derived.Deep.Cut
import Derived.Deep.DeepCutAuto
import Derived.StillTailTactics
import Derived.Test.YtmdjhbkpekepgaaBd2
import Derived.Test.YtmdjhbkpekepgaaRows
import Derived.Lib.SliceRun
/- What file's reader reads, in numbers: also where the bytes end too soon. -/
namespace Go.Proofs.Ytmdjhbkpekepgaa
open Go.RowKit
set_option linter.unusedVariables false
set_option linter.unusedSimpArgs false
set_option maxRecDepth 100000

/-- Bytes as a number. -/
def numL (l : List Int) : Int := l.foldl (fun n x => 256 * n + x) 0
theorem numL_snoc (l : List Int) (x : Int) : numL (l ++ [x]) = 256 * numL l + x := by simp [numL, List.foldl_append]
theorem numL_one (l : List Int) : numL (l.take 1) = l.getD 0 0 := by cases l <;> simp [numL]
theorem numL_two {l : List Int} (h : 2 ≤ l.length) : numL (l.take 2) = 256 * l.getD 0 0 + l.getD 1 0 := by
  match l, h with
  | a :: b :: l, _ => simp [numL]
theorem numL_bnd {l : List Int} (h : Bytes l) (hl : l.length ≤ 2) : 0 ≤ numL l ∧ numL l ≤ 65535 := by
  match l, hl with
  | [], _ => simp [numL]
  | [a], _ => have := h a (by simp); simp [numL]; omega
  | [a, b], _ => have := h a (by simp); have := h b (by simp); simp [numL]; omega
theorem Bytes.drop' {l : List Int} (h : Bytes l) (n : Nat) : Bytes (l.drop n) := fun x hx => h x (List.mem_of_mem_drop hx)
theorem Bytes.take' {l : List Int} (h : Bytes l) (n : Nat) : Bytes (l.take n) := fun x hx => h x (List.mem_of_mem_take hx)
/-- A table's counts, as they are read. -/
def cntR (r : List Int) : List Int := (List.range 16).map fun j => numL ((r.drop (2 * j)).take 2)
theorem cntR_length (r : List Int) : (cntR r).length = 16 := by simp [cntR]
theorem cntR_at (r : List Int) {j : Nat} (hj : j < 16) : (cntR r)[j]? = some (numL ((r.drop (2 * j)).take 2)) := by
  unfold cntR; rw [List.getElem?_map, List.getElem?_range hj]; rfl
theorem cntR_is {r : List Int} (h : 32 ≤ r.length) : cntR r = cntN 16 r := by
  unfold cntR cntN
  refine List.map_congr_left fun j hj => ?_
  have h1 := List.mem_range.1 hj
  rw [numL_two (by rw [List.length_drop]; omega)]
  simp [List.getD_eq_getElem?_getD, List.getElem?_drop]
theorem cntR_bnd {r : List Int} (h : Bytes r) : ∀ x ∈ cntR r, 0 ≤ x ∧ x ≤ 65535 := by
  intro x hx
  obtain ⟨j, _, rfl⟩ := List.mem_map.1 hx
  exact numL_bnd ((h.drop' _).take' 2) (by rw [List.length_take]; omega)
theorem sumW_bnd {l : List Int} (h : ∀ x ∈ l, 0 ≤ x ∧ x ≤ 65535) : 0 ≤ sumW l ∧ sumW l ≤ 65535 * l.length := by
  induction l with
  | nil => simp [sumW]
  | cons x l ih => have h1 := h x (by simp); have h2 := ih fun y hy => h y (by simp [hy]); simp only [sumW, List.foldr_cons, List.length_cons] at h2 ⊢; omega
def lenR (r : List Int) : Nat := (sumW (cntR r)).toNat
theorem lenR_is {r : List Int} (h : Bytes r) : (lenR r : Int) = sumW (cntR r) ∧ lenR r ≤ 1048560 := by
  have h1 := sumW_bnd (cntR_bnd h)
  rw [cntR_length] at h1
  unfold lenR; omega
/-- A table's symbols; what is left behind it; whether it is cut off. -/
def symR (r : List Int) : List Int := (r.drop 32).take (lenR r)
def restR (r : List Int) : List Int := r.drop (32 + lenR r)
def shortR (r : List Int) : Bool := decide (r.length < 32 + lenR r)
theorem short_next (s : Bool) {n m : Nat} (r : List Int) (hm : 0 < m) : (s || decide (r.length < n) || decide ((r.drop n).length < m)) = (s || decide (r.length < n + m)) := by
  rw [List.length_drop]
  cases s
  · simp only [Bool.false_or, ← Bool.decide_or]; congr 1; apply propext; omega
  · simp
theorem short_tab (s : Bool) (r : List Int) : (s || decide (r.length < 32) || decide ((r.drop 32).length < lenR r)) = (s || shortR r) := by
  rw [List.length_drop]
  unfold shortR
  cases s
  · simp only [Bool.false_or, ← Bool.decide_or]; congr 1; apply propext; omega
  · simp
/-- What file reads behind the first two bytes. -/
def qR (r : List Int) : List Int := (List.range 64).map fun i => r.getD (4 + i) 0
theorem qR_length (r : List Int) : (qR r).length = 64 := by simp [qR]
theorem qR_is {r : List Int} (h : 68 ≤ r.length) : qR r = (r.drop 4).take 64 := by
  apply List.ext_getElem?
  intro i
  unfold qR
  rw [List.getElem?_map, List.getElem?_take, List.getElem?_drop]
  by_cases hi : i < 64
  · rw [List.getElem?_range hi, if_pos hi, Option.map_some, getD_some (by omega)]
  · rw [if_neg hi, List.getElem?_eq_none (by simp; omega)]; rfl
def fileR (r : List Int) : FileL :=
  { wide := r.getD 0 0, high := r.getD 1 0, parts := r.getD 2 0, q := fromL (qR r), cs := cntR (r.drop 68), syms := symR (r.drop 68),
    cs2 := cntR (restR (r.drop 68)), syms2 := symR (restR (r.drop 68)), every := r.getD 3 0, data := restR (restR (r.drop 68)) }
def fshortR (s : Bool) (r : List Int) : Bool := s || decide (r.length < 68) || shortR (r.drop 68) || shortR (restR (r.drop 68))
theorem fileR_form (r : List Int) : (fileR r).Form := ⟨fromK_length _ _, cntR_length _, cntR_length _⟩
theorem drop_getD (r : List Int) (n i : Nat) : (r.drop n).getD i 0 = r.getD (n + i) 0 := by simp [List.getD_eq_getElem?_getD, List.getElem?_drop]
theorem parts_of {bs : List Int} (h : fshortR (decide (bs.length < 2)) (bs.drop 2) = false) : ¬ shortF bs ∧ fileR (bs.drop 2) = readF bs ∧ 70 ≤ bs.length := by
  unfold fshortR shortR at h
  simp only [Bool.or_eq_false_iff, decide_eq_false_iff_not] at h
  obtain ⟨⟨⟨h1, h2⟩, h3⟩, h4⟩ := h
  have e0 : (bs.drop 2).drop 68 = bs.drop 70 := by rw [List.drop_drop]
  rw [e0] at h3 h4
  rw [List.length_drop] at h2 h3
  have c1 : cntR (bs.drop 70) = cntN 16 (bs.drop 70) := cntR_is (by rw [List.length_drop]; omega)
  have l1 : lenR (bs.drop 70) = n1F bs := by unfold lenR n1F; rw [c1]
  rw [l1] at h3
  have r1 : restR (bs.drop 70) = bs.drop (102 + n1F bs) := by unfold restR; rw [l1, List.drop_drop]; congr 1; omega
  rw [r1] at h4
  rw [List.length_drop] at h4
  have c2 : cntR (bs.drop (102 + n1F bs)) = cntN 16 (bs.drop (102 + n1F bs)) := cntR_is (by rw [List.length_drop]; omega)
  have l2 : lenR (bs.drop (102 + n1F bs)) = n2F bs := by unfold lenR n2F; rw [c2]
  rw [l2] at h4
  refine ⟨by unfold shortF; omega, ?_, by omega⟩
  unfold fileR readF
  rw [e0, r1, c1, c2]
  unfold symR restR
  rw [l1, l2, qR_is (by rw [List.length_drop]; omega)]
  simp only [drop_getD, List.drop_drop]
  congr 1
  · congr 1; congr 1; omega
  · congr 1; omega
theorem short_of {bs : List Int} (h : fshortR (decide (bs.length < 2)) (bs.drop 2) = true) : shortF bs := by
  have e0 : (bs.drop 2).drop 68 = bs.drop 70 := by rw [List.drop_drop]
  unfold fshortR shortR at h
  rw [e0] at h
  by_cases h70 : bs.length < 102
  · exact .inl h70
  have c1 : cntR (bs.drop 70) = cntN 16 (bs.drop 70) := cntR_is (by rw [List.length_drop]; omega)
  have l1 : lenR (bs.drop 70) = n1F bs := by unfold lenR n1F; rw [c1]
  have r1 : restR (bs.drop 70) = bs.drop (102 + n1F bs) := by unfold restR; rw [l1, List.drop_drop]; congr 1; omega
  rw [l1, r1] at h
  by_cases h71 : bs.length < 102 + n1F bs
  · exact .inr (.inl h71)
  by_cases h72 : bs.length < 134 + n1F bs
  · exact .inr (.inr (.inl h72))
  have c2 : cntR (bs.drop (102 + n1F bs)) = cntN 16 (bs.drop (102 + n1F bs)) := cntR_is (by rw [List.length_drop]; omega)
  have l2 : lenR (bs.drop (102 + n1F bs)) = n2F bs := by unfold lenR n2F; rw [c2]
  rw [l2] at h
  simp only [Bool.or_eq_true, decide_eq_true_eq, List.length_drop] at h
  exact .inr (.inr (.inr (by omega)))
/-- Counts made of bytes are their bytes. -/
theorem w2s_cntN : ∀ (n : Nat) (l : List Int), Bytes l → 2 * n ≤ l.length → w2s (cntN n l) = l.take (2 * n)
  | 0, l, _, _ => by simp [cntN, w2s]
  | n + 1, l, hb, hl => by
    have e : cntN (n + 1) l = cntN n l ++ [256 * l.getD (2 * n) 0 + l.getD (2 * n + 1) 0] := by unfold cntN; rw [List.range_succ, List.map_append]; rfl
    have g1 := getD_some (cs := l) (k := 2 * n) (by omega)
    have g2 := getD_some (cs := l) (k := 2 * n + 1) (by omega)
    have b1 := hb _ (List.mem_of_getElem? g1)
    have b2 := hb _ (List.mem_of_getElem? g2)
    rw [e, w2s_app, w2s_cntN n l hb (by omega), show 2 * (n + 1) = 2 * n + 1 + 1 by omega, take_snoc g2, take_snoc g1, List.append_assoc]
    congr 1
    show [(256 * l.getD (2 * n) 0 + l.getD (2 * n + 1) 0) / 256, (256 * l.getD (2 * n) 0 + l.getD (2 * n + 1) 0) % 256] = [l.getD (2 * n) 0, l.getD (2 * n + 1) 0]
    congr 1
    · omega
    · congr 1; omega
theorem take_add' (l : List Int) (n m : Nat) : l.take (n + m) = l.take n ++ (l.drop n).take m := by rw [List.take_add]
theorem pack_read {bs : List Int} (hb : Bytes bs) (h : ¬ shortF bs) (h2 : bs.take 2 = [77, 90]) : packF (readF bs) = bs := by
  unfold shortF at h
  have e1 : w2s (cntN 16 (bs.drop 70)) = (bs.drop 70).take 32 := w2s_cntN 16 _ (hb.drop' _) (by rw [List.length_drop]; omega)
  have e2 : w2s (cntN 16 (bs.drop (102 + n1F bs))) = (bs.drop (102 + n1F bs)).take 32 := w2s_cntN 16 _ (hb.drop' _) (by rw [List.length_drop]; omega)
  have hq : toL (fromL ((bs.drop 6).take 64)) = (bs.drop 6).take 64 := to_from (by rw [List.length_take, List.length_drop]; omega)
  have hh : headF (readF bs) = bs.take 70 := by
    have g : ∀ i, i < 70 → bs[i]? = some (bs.getD i 0) := fun i hi => getD_some (by omega)
    have t6 : bs.take 6 = [77, 90, bs.getD 2 0, bs.getD 3 0, bs.getD 4 0, bs.getD 5 0] := by
      rw [take_snoc (g 5 (by omega)), take_snoc (g 4 (by omega)), take_snoc (g 3 (by omega)), take_snoc (g 2 (by omega)), h2]; rfl
    show [77, 90, bs.getD 2 0, bs.getD 3 0, bs.getD 4 0, bs.getD 5 0] ++ toL (fromL ((bs.drop 6).take 64)) = _
    rw [hq, ← t6, show (70 : Nat) = 6 + 64 from rfl, take_add']
  have d1 : bs.drop 70 = (bs.drop 70).take 32 ++ bs.drop 102 := by have := List.take_append_drop 32 (bs.drop 70); rw [List.drop_drop] at this; exact this.symm
  have d2 : bs.drop 102 = (bs.drop 102).take (n1F bs) ++ bs.drop (102 + n1F bs) := by have := List.take_append_drop (n1F bs) (bs.drop 102); rw [List.drop_drop] at this; exact this.symm
  have d3 : bs.drop (102 + n1F bs) = (bs.drop (102 + n1F bs)).take 32 ++ bs.drop (134 + n1F bs) := by
    have := List.take_append_drop 32 (bs.drop (102 + n1F bs)); rw [List.drop_drop, show 102 + n1F bs + 32 = 134 + n1F bs by omega] at this; exact this.symm
  have d4 : bs.drop (134 + n1F bs) = (bs.drop (134 + n1F bs)).take (n2F bs) ++ bs.drop (134 + n1F bs + n2F bs) := by have := List.take_append_drop (n2F bs) (bs.drop (134 + n1F bs)); rw [List.drop_drop] at this; exact this.symm
  rw [packF, hh]
  unfold tabB
  show bs.take 70 ++ ((w2s (cntN 16 (bs.drop 70)) ++ (bs.drop 102).take (n1F bs)) ++ ((w2s (cntN 16 (bs.drop (102 + n1F bs))) ++ (bs.drop (134 + n1F bs)).take (n2F bs)) ++ bs.drop (134 + n1F bs + n2F bs))) = bs
  rw [e1, e2]
  have e4 := List.take_append_drop 70 bs
  rw [d1, d2, d3, d4] at e4
  simp only [List.append_assoc] at e4 ⊢
  exact e4
theorem pack_head {bs : List Int} (h : packF (readF bs) = bs) : bs.take 2 = [77, 90] := by rw [← h]; rfl
end Go.Proofs.Ytmdjhbkpekepgaa

/- A drawn region driven by hand: what may be taken first is taken first, where its result goes is told. No program is named here. -/
namespace Go.Proofs.Ytmdjhbkpekepgaa
open Go.RowKit
set_option linter.unusedVariables false
set_option linter.unusedSimpArgs false
set_option maxRecDepth 100000
section
variable {P : Program} {ops : Array Oper} {Q : Exit → Act → World → Prop} {md : Region.Mode} {S : World → Prop} {fuel : Nat} {listed : Array Bool} {ts : List Value} {w : World}
end
end Go.Proofs.Ytmdjhbkpekepgaa

/- file's reader: take, number; bytes.Clone: their contracts. -/
namespace Go.Proofs.Ytmdjhbkpekepgaa
open Go.RowKit
set_option linter.unusedVariables false
set_option linter.unusedSimpArgs false
set_option maxRecDepth 100000

/-- A reader in memory: what is left, and whether more was asked for. -/
structure RdAt (w : World) (R G : Nat) (r : List Int) (s : Bool) : Prop where
  low : G ≤ R
  bytes : Bytes r
  len : r.length ≤ 91000
  blk : ∃ A c, Blk w R [.slice A r.length c, .bool s] 58 ∧ Seen w G A (ints .u8 r) ∧ r.length ≤ c
theorem RdAt.lt {w : World} {R G : Nat} {r : List Int} {s : Bool} (h : RdAt w R G r s) : R < w.heap.size := by obtain ⟨A, c, h1, _⟩ := h.blk; exact h1.lt
theorem RdAt.kept {w w' : World} {R G b : Nat} {r : List Int} {s : Bool} (h : RdAt w R G r s) (hg : w.grownBy w' (some b)) (hb : R < b) : RdAt w' R G r s := by
  have hl := h.lt
  have hG := h.low
  obtain ⟨A, c, h1, h2, h3⟩ := h.blk
  exact ⟨h.low, h.bytes, h.len, A, c, h1.kept hg (by simp; omega), h2.grown hg (by omega) (by omega), h3⟩
theorem RdAt.below {w w' : World} {R G B : Nat} {r : List Int} {s : Bool} (h : RdAt w R G r s) (hb : Below B w w') (hB : R < B) : RdAt w' R G r s := by
  have hG := h.low
  obtain ⟨A, c, h1, h2, h3⟩ := h.blk
  exact ⟨h.low, h.bytes, h.len, A, c, h1.below hb hB, h2.below hb (by omega), h3⟩
theorem grown_of_below {w w' : World} {R : Nat} (h : Below w.heap.size w w') : w.grownBy w' (some R) := ⟨h.os, h.tape, h.output, h.size, fun k hk _ => h.block k hk⟩
theorem Owns.callG {B R : Nat} {rs ts : List Row} {w w' : World} (h : Owns B rs w) (hg : w.grownBy w' (some R)) (hR : R < B) (h2 : Owns w.heap.size ts w') : Owns B (ts ++ rs) w' := by
  have hB := h.base
  have hk := h.kept hg hR
  refine ⟨Nat.le_trans hB hg.size, fun x hx => ?_, List.pairwise_append.2 ⟨h2.apart, h.apart, fun a ha b hb' g hg hgb => ?_⟩⟩
  · rcases List.mem_append.1 hx with hx | hx
    · exact own_base (h2.each x hx) hB
    · exact hk.each x hx
  · have h3 := ((h2.each a ha).lt g hg).1
    have h4 := ((h.each b hb').lt g hgb).2
    omega
/-- What take hands back. -/
def TakeRes (R G n : Nat) (r : List Int) (s : Bool) (w : World) (e : Ending) (w' : World) : Prop := ∃ A' c', e = .returned (.slice A' (r.take n).length c') ∧ Seen w' G A' (ints .u8 (r.take n)) ∧ (r.take n).length ≤ c' ∧ RdAt w' R G (r.drop n) (s || decide (r.length < n)) ∧ w.grownBy w' (some R)
set_option maxHeartbeats 1000000 in
theorem take_any (R G n : Nat) (r : List Int) (s : Bool) (w : World) (h : RdAt w R G r s) (hn : n ≤ 10000000) :
    Calls Try.prog 29 #[.pointer (some ⟨R, 0, none⟩), .int .i64 (n : Int)] w (TakeRes R G n r s w) := by
  have hRw := h.lt
  have hlow := h.low
  have hlen := h.len
  obtain ⟨A, c, hB, hs, hc⟩ := h.blk
  have Hby := veil h.bytes
  have k0 := hB.cell (i := 0) (v := .slice A r.length c) rfl
  have k1 := hB.cell (i := 1) (v := .bool s) rfl
  have z0 := hB.frozen 0
  have z1 := hB.frozen 1
  have HB := veil hB
  have Hs := veil hs
  clear h hB hs
  go_enter Try.func29, Try.ntmps29
  by_cases hlt : r.length < n
  · have hltz : (r.length : Int) < (n : Int) := by omega
    have hg1 := grown_setCell w R 1 (.bool true)
    have hB1 : Blk (w.setCell ⟨R, 1, none⟩ (.bool true)) R [.slice A r.length c, .bool true] 58 := HB.out.set 1 (.bool true)
    have hs1 := Hs.out.grown hg1 (by omega) (by omega)
    obtain ⟨W1, hW1⟩ : ∃ W1, W1 = w.setCell ⟨R, 1, none⟩ (.bool true) := ⟨_, rfl⟩
    rw [← hW1] at hg1 hB1 hs1
    have k2 := hB1.cell (i := 0) (v := .slice A r.length c) rfl
    have z2 := hB1.frozen 0
    have hsl := fun u => run_cutB_to A r.length c r.length (by omega) u
    have hse := fun u => run_cutB_end A r.length c r.length (Nat.le_refl _) u
    obtain ⟨A9, hA9, hs9⟩ := cutB_drop hs1 (show r.length ≤ r.length from Nat.le_refl _) hc
    rw [hA9, List.drop_length, List.length_nil] at hse
    rw [List.drop_length] at hs9
    have hg2 := grown_setCell W1 R 0 (.slice A9 0 (c - r.length))
    have hB2 : Blk (W1.setCell ⟨R, 0, none⟩ (.slice A9 0 (c - r.length))) R [.slice A9 0 (c - r.length), .bool true] 58 := hB1.set 0 (.slice A9 0 (c - r.length))
    have hz1 := hg1.size
    have hs2 := hs9.grown hg2 (by omega) (by omega)
    have hs3 := hs1.grown hg2 (by omega) (by omega)
    have Hfin : Hid (TakeRes R G n r s w (.returned (.slice A r.length c)) (W1.setCell ⟨R, 0, none⟩ (.slice A9 0 (c - r.length)))) := by
      show TakeRes _ _ _ _ _ _ _ _
      unfold TakeRes
      have e1 : r.take n = r := List.take_of_length_le (by omega)
      have e2 : r.drop n = [] := List.drop_of_length_le (by omega)
      have e3 : (s || decide (r.length < n)) = true := by simp [hlt]
      rw [e1, e2, e3]
      exact ⟨A, c, rfl, hs3, hc, ⟨hlow, fun x hx => (by cases hx), by simp, A9, c - r.length, hB2, hs2, by simp⟩, hg1.trans hg2⟩
    have HW1 := veil hW1
    clear hg1 hB1 hs1 hs9 hg2 hB2 hs2 hs3 hW1 hA9 hlt
    go_upto_region 2 with fail
    go_upto_region 3 with fail
    rw [← HW1.out]
    go_wp2_with fail
    go_ret
    exact Hfin.out
  · have hltz : ¬ (r.length : Int) < (n : Int) := by omega
    have hsl := fun u => run_cutB_to A r.length c n (by omega) u
    have hse := fun u => run_cutB_end A r.length c n (by omega) u
    obtain ⟨A9, hA9, hs9⟩ := cutB_drop Hs.out (show n ≤ r.length by omega) hc
    rw [hA9] at hse
    have hg2 := grown_setCell w R 0 (.slice A9 (r.drop n).length (c - n))
    have hB2 : Blk (w.setCell ⟨R, 0, none⟩ (.slice A9 (r.drop n).length (c - n))) R [.slice A9 (r.drop n).length (c - n), .bool s] 58 := HB.out.set 0 (.slice A9 (r.drop n).length (c - n))
    have hs2 := hs9.grown hg2 (by omega) (by omega)
    have hs3 := (cutB_take (h := n) Hs.out).grown hg2 (by omega) (by omega)
    have Hfin : Hid (TakeRes R G n r s w (.returned (.slice A n c)) (w.setCell ⟨R, 0, none⟩ (.slice A9 (r.drop n).length (c - n)))) := by
      show TakeRes _ _ _ _ _ _ _ _
      unfold TakeRes
      have e1 : (r.take n).length = n := by rw [List.length_take]; omega
      have e3 : (s || decide (r.length < n)) = s := by simp [hlt]
      rw [e1, e3]
      exact ⟨A, c, rfl, hs3, by omega, ⟨hlow, Hby.out.drop' _, by rw [List.length_drop]; omega, A9, c - n, hB2, hs2, by rw [List.length_drop]; omega⟩, hg2⟩
    obtain ⟨m, hm⟩ : ∃ m, m = (r.drop n).length := ⟨_, rfl⟩
    rw [← hm] at hse Hfin
    clear hg2 hB2 hs2 hs3 hs9 hA9 hlt hm
    go_wp2_with fail
    go_ret
    exact Hfin.out
/-- What number hands back. -/
def NumRes (R G n : Nat) (r : List Int) (s : Bool) (w : World) (e : Ending) (w' : World) : Prop := e = .returned (.int .i64 (numL (r.take n))) ∧ RdAt w' R G (r.drop n) (s || decide (r.length < n)) ∧ w.grownBy w' (some R)
set_option maxHeartbeats 1000000 in
theorem number_any (R G n : Nat) (r : List Int) (s : Bool) (w : World) (h : RdAt w R G r s) (hn : n ≤ 2) :
    Calls Try.prog 41 #[.pointer (some ⟨R, 0, none⟩), .int .i64 (n : Int)] w (NumRes R G n r s w) := by
  have HT := veil (take_any R G n r s w h (by omega))
  have Hby : Hid (Bytes (r.take n)) := h.bytes.take' n
  have hl2 : (r.take n).length ≤ 2 := by rw [List.length_take]; omega
  clear h
  go_enter Try.func41, Try.ntmps41
  go_wp2_with fail
  refine HT.out.mono ?_
  rintro e w1 ⟨A', c', rfl, hs, hc, hR, hg⟩
  have HF := veil (show w.grownBy w1 (some R) ∧ RdAt w1 R G (r.drop n) (s || decide (r.length < n)) from ⟨hg, hR⟩)
  have HN : Hid (NumRes R G n r s w (.returned (.int .i64 (numL (r.take n)))) w1) := ⟨rfl, hR, hg⟩
  obtain ⟨l, hl⟩ : ∃ l, l = r.take n := ⟨_, rfl⟩
  rw [← hl] at hs hc HN Hby hl2 ⊢
  have Hs := veil hs
  have HI0 : Hid ((0 : Int) = numL (l.take 0)) := by show _ = _; simp [numL]
  clear HT hR hg hs hl HF
  go_wp2_with fail
  go_loopg [5, 7, 12] l.length (fun gk nv xv iv wr => ∃ (k : Nat) (z : Int), gk = l.length - k ∧ k ≤ l.length ∧ iv = .int .i64 (k : Int) ∧ nv = .int .i64 z ∧ Hid (z = numL (l.take k)) ∧ 0 ≤ z ∧ z ≤ 65535 ∧ wr = w1)
  case atStart => exact ⟨0, 0, rfl, Nat.zero_le _, rfl, rfl, HI0, by omega, by omega, rfl⟩
  case round =>
    clear HI0
    obtain ⟨k, z, rfl, hk, rfl, rfl, HI, hz0, hz1, rfl⟩ := hrel
    by_cases hlt : k < l.length
    · have hltz : (k : Int) < (l.length : Int) := by omega
      obtain ⟨gs, os, x, hA, hgs, hx, hcx⟩ := Hs.out.int hlt
      subst hA
      have hx8 := Hby.out x (List.mem_of_getElem? hx)
      have hn2 : numL (l.take (k + 1)) = 256 * z + x := by rw [take_snoc hx, numL_snoc, ← HI.out]
      have hb := numL_bnd (Hby.out.take' (k + 1)) (by rw [List.length_take]; omega)
      rw [hn2] at hb
      have HI2 : Hid (256 * z + x = numL (l.take (k + 1))) := hn2.symm
      have e3 : IntKind.i64.wrap x = x := by rw [IntKind.wrap_i64]; omega
      have eo : bits BinOp.or IntKind.i64 (z * 256) x = 256 * z + x := by
        have h9 := or_byte z x hz0 hz1 hx8
        rwa [show IntKind.i64.wrap (z * 256) = z * 256 by rw [IntKind.wrap_i64]; omega] at h9
      clear hx HI hgs hn2
      go_wp2_with fail
      go_roundg (l.length - (k + 1))
      case rel => exact ⟨k + 1, 256 * z + x, rfl, by omega, by go_num, rfl, HI2, hb.1, hb.2, rfl⟩
      case measure => omega
    · obtain rfl : k = l.length := by omega
      have hh := HI.out
      rw [List.take_of_length_le (Nat.le_refl _)] at hh
      subst hh
      clear HI hlt
      go_wp2_with fail
      go_ret
      exact HN.out
end Go.Proofs.Ytmdjhbkpekepgaa

/- file's reader: table: its contract. -/
namespace Go.Proofs.Ytmdjhbkpekepgaa
open Go.RowKit
set_option linter.unusedVariables false
set_option linter.unusedSimpArgs false
set_option maxRecDepth 100000

def tabZ : List Value := tabCells (List.replicate 16 0) none 0 0
theorem run_zero_tab (u : World) : Sem.run Try.prog (zeroValue 27) u = .ok (.agg tabZ.toArray) u := by kernel_rfl
theorem tabCells_set {cs : List Int} {A : Option Addr} {n c j : Nat} (x : Int) (hc : cs.length = 16) (hj : j < 16) : (tabCells cs A n c).set j (.int .i64 x) = tabCells (cs.set j x) A n c := by
  unfold tabCells; rw [set_fst _ (by rw [ints_length]; omega), ints_setF]
theorem tabCells_at {cs : List Int} {A : Option Addr} {n c j : Nat} {x : Int} (hx : cs[j]? = some x) : (tabCells cs A n c)[j]? = some (.int .i64 x) := by
  unfold tabCells
  have := (List.getElem?_eq_some_iff.1 (ints_at (k := .i64) hx)).1
  rw [List.getElem?_append_left this]; exact ints_at hx
theorem tabCells_syms {cs : List Int} {A A' : Option Addr} {n c n' c' : Nat} (hc : cs.length = 16) : (tabCells cs A n c).set 16 (.slice A' n' c') = tabCells cs A' n' c' := by
  unfold tabCells
  have := set_mid (a := ints .i64 cs) (b := [.slice A n c]) (n := 16) 0 (.slice A' n' c') (by rw [ints_length, hc])
  exact this
/-- The world when a table's cells are laid. -/
def startT (w : World) : World := (w.alloc (.cells tabZ.toArray 27)).alloc (.cells tabZ.toArray 27)
theorem startT_is (w : World) : Below w.heap.size w (startT w) ∧ Blk (startT w) w.heap.size tabZ 27 ∧ Blk (startT w) (w.heap.size + 1) tabZ 27 ∧ (startT w).heap.size = w.heap.size + 2 := by
  have hz1 : (w.alloc (.cells tabZ.toArray 27)).heap.size = w.heap.size + 1 := by simp
  have hb1 := below1 w (.cells tabZ.toArray 27)
  have hb2 := below1 (w.alloc (.cells tabZ.toArray 27)) (.cells tabZ.toArray 27)
  have H2 := Blk.new (w.alloc (.cells tabZ.toArray 27)) tabZ 27
  rw [hz1] at H2
  exact ⟨hb1.trans (hb2.mono (by omega)), (Blk.new w tabZ 27).below hb2 (by omega), H2, by unfold startT; simp⟩
/-- What table hands back. -/
def TabRes (R G : Nat) (r : List Int) (s : Bool) (w : World) (e : Ending) (w' : World) : Prop := ∃ A' c', e = .returned (tabV (cntR r) A' (symR r).length c') ∧ Owns w.heap.size [intRow 3 .i64 (.slice A' (symR r).length c') (symR r)] w' ∧ RdAt w' R G (restR r) (s || shortR r) ∧ w.grownBy w' (some R)
set_option maxRecDepth 100000 in
set_option maxHeartbeats 2000000 in
theorem table_any (R G : Nat) (r : List Int) (s : Bool) (w : World) (h : RdAt w R G r s) :
    Calls Try.prog 43 #[.pointer (some ⟨R, 0, none⟩)] w (TabRes R G r s w) := by
  have hzv := run_zero_tab
  have hby := h.bytes
  have hRw := h.lt
  have hlow := h.low
  have hlenr := h.len
  obtain ⟨hb0, HB0, HB1, hz0⟩ := startT_is w
  obtain ⟨W0, hW0⟩ : ∃ W0, W0 = startT w := ⟨_, rfl⟩
  rw [← hW0] at hb0 HB0 HB1 hz0
  unfold startT at hW0
  have HW0 := veil hW0
  have hR0 := h.below hb0 hRw
  obtain ⟨T, hT⟩ : ∃ T, T = w.heap.size + 1 := ⟨_, rfl⟩
  have hTR : R < T := by omega
  have hcl := cntR_length r
  have Hcl := veil hcl
  have hbd := cntR_bnd hby
  have Hbd := veil hbd
  have Hby := veil hby
  have hlen := lenR_is hby
  have Hlen := veil hlen
  rw [← hT] at HB1
  have HX0 : Hid (Blk W0 T (tabCells (partC (cntR r) 0) none 0 0) 27) := by show Blk _ _ _ _; rw [partC_0]; exact HB1
  have HR0 : Hid (RdAt W0 R G (r.drop (2 * 0)) (s || decide (r.length < 2 * 0))) := by show RdAt _ _ _ _ _; simpa using hR0
  have HG0 : Hid (w.grownBy W0 (some R)) := grown_of_below hb0
  have HZ0 : Hid ((0 : Int) = sumW ((cntR r).take 0)) := by show _ = _; simp [sumW]
  have HB0' := veil HB0
  have hsz0 : w.heap.size + 2 ≤ W0.heap.size := by omega
  clear hW0 hR0 HB1 HB0 hb0 h hcl hbd hby hlen
  go_enter Try.func43, Try.ntmps43
  go_upto_region 2 with fail
  rw [← HW0.out, ← hT]
  have hTw : w.heap.size < T := by omega
  have hT0 : T < W0.heap.size := by omega
  clear HW0 hT
  go_wp2_with fail
  go_loopg [4, 5, 8] 16 (fun gk zv kv iv wr => ∃ (k : Nat) (z : Int), gk = 16 - k ∧ k ≤ 16 ∧ iv = .int .i64 (k : Int) ∧ zv = .int .i64 z ∧ Hid (z = sumW ((cntR r).take k)) ∧ 0 ≤ z ∧ z ≤ 65535 * k ∧ Hid (Blk wr T (tabCells (partC (cntR r) k) none 0 0) 27) ∧ Hid (Blk wr w.heap.size tabZ 27) ∧ Hid (RdAt wr R G (r.drop (2 * k)) (s || decide (r.length < 2 * k))) ∧ Hid (w.grownBy wr (some R)))
  case atStart => exact ⟨0, 0, rfl, by omega, rfl, rfl, HZ0, by omega, by omega, HX0, HB0', HR0, HG0⟩
  case round =>
    clear HZ0 HX0 HB0' HR0 HG0
    obtain ⟨k, z, rfl, hk, rfl, rfl, HZ, hz0, hz1, HX, HB, HR, HG⟩ := hrel
    by_cases hlt : k < 16
    · have hltz : (k : Int) < 16 := by omega
      have HN := veil (number_any R G 2 (r.drop (2 * k)) (s || decide (r.length < 2 * k)) wr HR.out (by omega))
      obtain ⟨x, hx⟩ : ∃ x, x = numL ((r.drop (2 * k)).take 2) := ⟨_, rfl⟩
      have hxk : (cntR r)[k]? = some x := by rw [hx]; exact cntR_at r hlt
      have hxb := Hbd.out x (List.mem_of_getElem? hxk)
      go_wp2_with fail
      refine HN.out.mono ?_
      rintro e w2 ⟨rfl, hR2, hg2⟩
      rw [← hx]
      have hz2 := hg2.size
      have hXl := HX.out.lt
      have HX2 := HX.out.kept hg2 (by simp; omega)
      have hpl := partC_length Hcl.out (show k ≤ 16 by omega)
      have k5 := HX2.cell (i := k) (v := .int .i64 0) (tabCells_at (partC_at Hcl.out hlt))
      have f5 := HX2.frozen k
      have hset := HX2.set k (.int .i64 x)
      rw [tabCells_set x hpl hlt, partC_next hxk Hcl.out] at hset
      have hg3 := grown_setCell w2 T k (.int .i64 x)
      have HB3 := veil ((HB.out.kept hg2 (by simp; omega)).kept hg3 (by simp; omega))
      have HR3 : Hid (RdAt (w2.setCell ⟨T, k, none⟩ (.int .i64 x)) R G (r.drop (2 * (k + 1))) (s || decide (r.length < 2 * (k + 1)))) := by
        show RdAt _ _ _ _ _
        have h9 := hR2.kept hg3 hTR
        rw [List.drop_drop, short_next _ _ (by omega)] at h9
        exact h9
      have HG3 := veil (grown_set (k := k) (v := .int .i64 x) (HG.out.trans hg2) (show w.heap.size ≤ T by omega))
      have HX3 := veil hset
      have c5 := HX3.out.cell (i := k) (v := .int .i64 x) (tabCells_at (by rw [← partC_next hxk Hcl.out, List.getElem?_set_self (by rw [hpl]; exact hlt)]))
      have HZ3 : Hid (z + x = sumW ((cntR r).take (k + 1))) := by show _ = _; rw [sumW_take hxk, ← HZ.out]
      have e7 : IntKind.i64.wrap (z + x) = z + x := by rw [IntKind.wrap_i64]; omega
      clear hset hg3 hg2 hR2 HX2 HN HZ HX HB HR HG hx hxk hpl
      go_wp2_with fail
      go_roundg (16 - (k + 1))
      case rel => exact ⟨k + 1, z + x, rfl, by omega, by go_num, rfl, HZ3, by omega, by omega, HX3, HB3, HR3, HG3⟩
      case measure => omega
    · obtain rfl : k = 16 := by omega
      have hz := HZ.out
      rw [List.take_of_length_le (by rw [Hcl.out]; omega)] at hz
      obtain ⟨hl1, hl2⟩ := Hlen.out
      rw [← hz] at hl1
      have hX := HX.out
      rw [partC_16 Hcl.out] at hX
      have hRr := HR.out
      obtain ⟨n, hn⟩ : ∃ n, n = lenR r := ⟨_, rfl⟩
      rw [← hn] at hl1 hl2
      subst hl1
      have HN := veil (take_any R G n (r.drop (2 * 16)) (s || decide (r.length < 2 * 16)) wr hRr (by omega))
      have Hn := veil hn
      have HXv := veil hX
      clear hz hRr hX HZ HX HR hn
      go_wp2_with fail
      refine HN.out.mono ?_
      rintro e w2 ⟨A9, c9, rfl, hs9, hc9, hR2, hg2⟩
      have hz2 := hg2.size
      have hXl := HXv.out.lt
      have hS : (r.drop (2 * 16)).take n = symR r := by unfold symR; rw [Hn.out]
      rw [hS] at hs9 hc9 ⊢
      have hrest : (r.drop (2 * 16)).drop n = restR r := by rw [List.drop_drop]; unfold restR; rw [Hn.out]
      have hsh : (s || decide (r.length < 2 * 16) || decide ((r.drop (2 * 16)).length < n)) = (s || shortR r) := by rw [Hn.out]; exact short_tab s r
      rw [hrest, hsh] at hR2
      have HX2 := veil (HXv.out.kept hg2 (by simp; omega))
      have HB2 := veil (HB.out.kept hg2 (by simp; omega))
      have HR2 := veil hR2
      have HG2 := veil (HG.out.trans hg2)
      have HS9 := veil hs9
      have Hsy : Hid (Bytes (symR r)) := veil ((Hby.out.drop' _).take' _)
      have hsyl : (symR r).length ≤ 1048560 := by unfold symR; rw [List.length_take, ← Hn.out]; omega
      obtain ⟨B, hB⟩ : ∃ B, B = w2.heap.size := ⟨_, rfl⟩
      have HO2 : Hid (Owns B [intRow 3 .i64 (.slice none 0 0) ((symR r).take 0)] w2) := by show Owns _ _ _; rw [hB]; exact (Owns.start w2).fresh _ _
      have hTB : T < B := by omega
      have hwB : w.heap.size ≤ B := by omega
      have hB2 : w2.heap.size ≤ B := by omega
      obtain ⟨S, hSS⟩ : ∃ S, S = symR r := ⟨_, rfl⟩
      rw [← hSS] at HS9 Hsy hsyl HO2 hc9 ⊢
      have HSS := veil hSS
      have HX2' : Hid (Blk w2 T (tabCells (cntR r) none 0 0) 27) := HX2
      have HW2 : Hid (Below B w2 w2) := Below.refl _ _
      clear hS hs9 hrest hsh hR2 hg2 HXv HB HG HN hB hSS hlt hl2 HX2
      go_wp2_with fail
      go_loopg [7, 27] S.length (fun gk xv iv wr => ∃ (j : Nat) (A' : Option Addr) (c' : Nat), gk = S.length - j ∧ j ≤ S.length ∧ iv = .int .i64 (j : Int) ∧ Hid (Blk wr T (tabCells (cntR r) A' j c') 27) ∧ Hid (Blk wr w.heap.size tabZ 27) ∧ Hid (Owns B [intRow 3 .i64 (.slice A' j c') (S.take j)] wr) ∧ Hid (RdAt wr R G (restR r) (s || shortR r)) ∧ Hid (w.grownBy wr (some R)) ∧ Hid (w2.grownBy wr (some T)))
      case atStart => exact ⟨0, none, 0, rfl, Nat.zero_le _, rfl, HX2', HB2, HO2, HR2, HG2, veil (World.grownBy.refl _ _)⟩
      case round =>
        clear HX2' HB2 HO2 HR2 HG2 HW2
        obtain ⟨j, A', c', rfl, hj, rfl, HX, HB, HO, HR, HG, HK⟩ := hrel
        by_cases hjt : j < S.length
        · have hjz : (j : Int) < (S.length : Int) := by omega
          obtain ⟨x, hx⟩ := some_at hjt
          obtain ⟨g2, o2, e2, _, hcx⟩ := (HS9.out.grown HK.out (by omega) (by omega)).cell (ints_at hx)
          subst e2
          have hx8 := Hsy.out x (List.mem_of_getElem? hx)
          have e3 : IntKind.i64.wrap x = x := by rw [IntKind.wrap_i64]; omega
          have htl : (S.take j).length = j := by rw [List.length_take]; omega
          have hk16 := HX.out.cell (tabCells_last (A := A') (n := j) (c := c') Hcl.out)
          have htk := take_snoc hx
          have Htk := veil htk; have Htl := veil htl
          clear htk htl hx
          obtain ⟨Tk, hTk⟩ : ∃ Tk, Tk = S.take j := ⟨_, rfl⟩
          rw [← hTk] at HO Htl Htk
          clear hTk
          go_wp2_with (first
            | (at_builtin; go_loud (refine wpList_ownI _ rfl (.tmp 32) (.tmp 35) _ rfl B 3 .i64 8 elem_int (.slice A' j c') Tk _ rfl HO.out [x] rfl (by rw [Htl.out]; unfold maxLen; simp; omega) (by rw [Htl.out]; simp; omega) ?_); intro v6 w6 HO6 hb6 hz6; obtain ⟨A6, c6, hv6, _, _, _⟩ := HO6.seen (List.mem_cons_self ..); obtain rfl : v6 = .slice A6 (j + 1) c6 := (show v6 = .slice A6 (Tk ++ [x]).length c6 from hv6).trans (by rw [List.length_append, Htl.out]; rfl); have hX6 := HX.out.below hb6 (by omega); have k6 := hX6.cell (tabCells_last (A := A') (n := j) (c := c') Hcl.out); have f6 := hX6.frozen 16; have HX6 := veil hX6; have HO6' := veil HO6; clear hX6 hv6 HO6)
            | fail)
          have hgr := grown_setCell w6 T 16 (.slice A6 (j + 1) c6)
          have hzw := HG.out.size
          have hz2w := HK.out.size
          have hset := HX6.out.set 16 (.slice A6 (j + 1) c6)
          rw [tabCells_syms Hcl.out] at hset
          have hHB := veil ((HB.out.below hb6 (by omega)).kept hgr (by simp; omega))
          have hHR := veil ((HR.out.below hb6 (by omega)).kept hgr hTR)
          have hHO := HO6'.out.setCell (a := ⟨T, 16, none⟩) (by show T < B; omega) (.slice A6 (j + 1) c6)
          rw [← Htk.out] at hHO
          have hHG := veil (grown_set (k := 16) (v := .slice A6 (j + 1) c6) (grown_below HG.out hb6 hwB) (show w.heap.size ≤ T by omega))
          have hHK := veil ((grown_below HK.out hb6 hB2).trans hgr)
          have HX7 := veil hset
          have HHO := veil hHO
          clear hgr hHO HO6' hb6 HX HB HR HO HG HK Htk hset HX6
          go_roundg (S.length - (j + 1))
          case rel => exact ⟨j + 1, A6, c6, rfl, by omega, by go_num, HX7, hHB, HHO, hHR, hHG, hHK⟩
          case measure => omega
        · obtain rfl : j = S.length := by omega
          have hO := HO.out
          rw [List.take_of_length_le (Nat.le_refl _)] at hO
          have HFin : Hid (∀ w', wr.grownBy w' (some w.heap.size) → TabRes R G r s w (.returned (.agg (tabCells (cntR r) A' S.length c').toArray)) w') := by
            show ∀ _, _ → _
            intro w' hg
            rw [HSS.out] at hO ⊢
            exact ⟨A', c', rfl, (hO.kept hg (by omega)).down hwB, HR.out.kept hg (by omega), ⟨hg.os.trans HG.out.os, hg.tape.trans HG.out.tape, hg.output.trans HG.out.output, Nat.le_trans HG.out.size hg.size, fun q hq hne => (hg.block q (by have := HG.out.size; omega) (fun e => by injection e with e; omega)).trans (HG.out.block q hq hne)⟩⟩
          have Hxl : Hid ((tabCells (cntR r) A' S.length c').length = 17) := tabCells_length Hcl.out
          have Hzl : Hid (tabZ.length = 17) := rfl
          have hone := tabCells_one (cs := cntR r) (A := A') (n := S.length) (c := c')
          have hXr := HX.out.range
          have hBr := HB.out
          obtain ⟨xs, hxs⟩ : ∃ xs, xs = tabCells (cntR r) A' S.length c' := ⟨_, rfl⟩
          rw [← hxs] at HFin Hxl hone hXr
          obtain ⟨x0, hx0⟩ : ∃ x0, x0 = tabZ := ⟨_, rfl⟩
          rw [← hx0] at hBr Hzl
          clear hxs hx0 HX HB HO HR HG HK hO hjt
          go_wp2_with (first
            | (refine wpList_load_mid rfl 27 (.tmp 3) rfl T 0 rfl xs _ hXr Try.underlying27 rfl (by rw [Hxl.out]; exact info_tab) ?_)
            | (refine wpList_store_blk wr rfl 27 (.tmp 2) (.tmp 39) rfl w.heap.size x0 xs 27 hBr rfl rfl (by rw [Hxl.out]; exact info_tab) (by rw [Hxl.out, Hzl.out]) hone ?_; intro w5 HB5 hg5)
            | fail)
          refine bodyPost_ret (v := .agg xs.toArray) (results_cell_row rfl _ _ w.heap.size 27 xs.toArray (0, 0) _ rfl HB5 Try.underlying27 rfl (by simp only [List.size_toArray]; rw [Hxl.out]; exact info_tab)) rfl (HFin.out _ hg5)
end Go.Proofs.Ytmdjhbkpekepgaa

/- bytes.Clone: its contract. -/
namespace Go.Proofs.Ytmdjhbkpekepgaa
open Go.RowKit
set_option linter.unusedVariables false
set_option linter.unusedSimpArgs false
set_option maxRecDepth 100000

theorem clone_any (A : Option Addr) (c G : Nat) (xs : List Int) (w : World) (hs : Seen w G A (ints .u8 xs)) (hm : xs.length ≤ 1048576) (hG : G ≤ w.heap.size) :
    Calls Try.prog 44 #[.slice A xs.length c] w fun e w' => ∃ v, e = .returned v ∧ Owns w.heap.size [byteRow v xs] w' ∧ Below w.heap.size w w' := by
  rcases A with _ | ad
  · obtain rfl : xs = [] := by
      rcases hs with h | ⟨g, o, h, _⟩
      · simpa [ints] using h
      · cases h
    have heq := fun u => Lib.run_eql_slice_nil (P := Try.prog) u 30 5 none 0 c 0 0 Try.underlying30
    go_enter Try.func44, Try.ntmps44
    go_wp2_with fail
    go_ret
    exact ⟨_, rfl, (Owns.start w).fresh _ _, Below.refl _ _⟩
  · have hO0 := (Owns.start w).made 5 1 #[] 0 (Nat.zero_le _) rfl
    have hb0 := below1 w (.cells #[] 5)
    have hs' := (hs.alloc hG (.cells #[] 5)).up (show G ≤ (w.alloc (.cells #[] 5)).heap.size by simp; omega)
    have heq := fun u => Lib.run_eql_slice_nil (P := Try.prog) u 30 5 (some ad) xs.length c 0 0 Try.underlying30
    go_enter Try.func44, Try.ntmps44
    go_wp2_with (first
      | (at_builtin; go_loud (refine wpList_ownV _ rfl (.tmp 5) (.tmp 6) _ rfl w.heap.size 5 1 1 elem_byte (.slice (some ⟨w.heap.size, 0, none⟩) 0 0) 0 [] [] rfl hO0 _ (some ad) xs.length c (ints .u8 xs) rfl hs' (by rw [ints_length]; omega) ints_one (by unfold maxLen; omega) (by omega) ?_); intro v1 w1 HO1 hb1)
      | fail)
    have e1 : byteRow v1 xs = ⟨5, 1, v1, 0 + xs.length, [] ++ ints .u8 xs⟩ := by unfold byteRow intRow; simp
    go_ret
    exact ⟨v1, rfl, by rw [e1]; exact HO1, hb0.trans hb1⟩
end Go.Proofs.Ytmdjhbkpekepgaa

/- file's reader: file: its contract. -/
namespace Go.Proofs.Ytmdjhbkpekepgaa
open Go.RowKit
set_option linter.unusedVariables false
set_option linter.unusedSimpArgs false
set_option maxRecDepth 100000

theorem setCells_in {b : Nat} {t : TypeId} {post : List Value} : ∀ (vs xs pre : List Value) (w : World), vs.length = xs.length → Blk w b (pre ++ (xs ++ post)) t → Blk (w.setCells b pre.length vs) b (pre ++ (vs ++ post)) t ∧ w.grownBy (w.setCells b pre.length vs) (some b)
  | [], xs, pre, w, hl, h => by
    have : xs = [] := List.length_eq_zero_iff.1 hl.symm
    subst this
    exact ⟨h, World.grownBy.refl w _⟩
  | v :: vs, [], pre, w, hl, h => by simp at hl
  | v :: vs, x :: xs, pre, w, hl, h => by
    have h1 := h.set pre.length v
    have e1 : (pre ++ (x :: xs ++ post)).set pre.length v = (pre ++ [v]) ++ (xs ++ post) := by simp [List.set_append]
    rw [e1] at h1
    obtain ⟨h2, h3⟩ := setCells_in vs xs (pre ++ [v]) _ (by simpa using hl) h1
    have e2 : (pre ++ [v]).length = pre.length + 1 := by simp
    rw [e2] at h2 h3
    refine ⟨by simpa [World.setCells] using h2, ?_⟩
    exact (grown_setCell w b pre.length v).trans h3
/-- A value into the middle of a block that is known. -/
theorem wpList_store_in {P : Program} {ops : Array Oper} {rest : List Oper} {o : Oper} {a : Act} {Q : Exit → Act → World → Prop} (w : World) (hgd : o.guard = none) (t : TypeId) (x y : Operand) (ho : o.op = .store t x y) (b n : Nat) (pre xs post ys : List Value) (e : TypeId) (hn : pre.length = n) (hB : Blk w b (pre ++ (xs ++ post)) e)
    (hx : a.eval x = .pointer (some ⟨b, n, none⟩)) (hy : a.eval y = .agg ys.toArray) (hi : (P.info? t).map (·.size) = some ys.length) (hl : ys.length = xs.length) (h1 : ∀ u ∈ ys, u.oneCell' = true)
    (h : ∀ w', Blk w' b (pre ++ (ys ++ post)) e → w.grownBy w' (some b) → wpList P ops Q rest (a.put o.dst undef) w') : wpList P ops Q (o :: rest) a w := by
  subst hn
  obtain ⟨h2, h3⟩ := setCells_in ys xs pre w hl hB
  refine wpList_store_mid hgd t x y ho b pre.length ys.toArray hx hy (fun j hj => ⟨?_, hB.frozen _⟩) (by simpa using hi) (all_oneCell_toArray h1) (h _ h2 h3)
  obtain ⟨u, hu⟩ := some_at (xs := xs) (j := j) (by simp at hj; omega)
  have hk : (pre ++ (xs ++ post))[pre.length + j]? = some u := by
    rw [List.getElem?_append_right (by omega), Nat.add_sub_cancel_left, List.getElem?_append_left (List.getElem?_eq_some_iff.1 hu).1]; exact hu
  rw [hB.cell hk]; rfl
def partQ (l : List Int) (j : Nat) : List Int := l.take j ++ List.replicate (64 - j) 0
theorem partQ_0 (l : List Int) : partQ l 0 = List.replicate 64 0 := by simp [partQ]
theorem partQ_64 {l : List Int} (h : l.length = 64) : partQ l 64 = l := by unfold partQ; rw [List.take_of_length_le (by omega)]; simp
theorem partQ_next {l : List Int} {j : Nat} {x : Int} (h : l[j]? = some x) (hl : l.length = 64) : (partQ l j).set j x = partQ l (j + 1) := by
  have hj := (List.getElem?_eq_some_iff.1 h).1
  unfold partQ
  rw [take_snoc h, show 64 - j = (64 - (j + 1)) + 1 by omega, List.replicate_succ, List.set_append_right _ _ (by rw [List.length_take]; omega), List.length_take, show j - min j l.length = 0 by omega, List.set_cons_zero, List.append_assoc]; rfl
theorem partQ_at {l : List Int} {j : Nat} (hl : l.length = 64) (hj : j < 64) : (partQ l j)[j]? = some 0 := by
  unfold partQ
  rw [List.getElem?_append_right (by rw [List.length_take]; omega), List.length_take, show j - min j l.length = 0 by omega, List.getElem?_replicate, if_pos (by omega)]
theorem RdAt.kept' {w w' : World} {R G b : Nat} {r : List Int} {s : Bool} (h : RdAt w R G r s) (hg : w.grownBy w' (some b)) (hb : R < b) : RdAt w' R G r s := h.kept hg hb
theorem number_at (R G k : Nat) (r : List Int) (s : Bool) (w : World) (h : RdAt w R G (r.drop k) (s || decide (r.length < k))) :
    Calls Try.prog 41 #[.pointer (some ⟨R, 0, none⟩), .int .i64 1] w fun e w' => e = .returned (.int .i64 (r.getD k 0)) ∧ RdAt w' R G (r.drop (k + 1)) (s || decide (r.length < k + 1)) ∧ w.grownBy w' (some R) := by
  refine (number_any R G 1 (r.drop k) (s || decide (r.length < k)) w h (by omega)).mono ?_
  rintro e w' ⟨rfl, h2, h3⟩
  rw [numL_one, drop_getD, Nat.add_zero]
  rw [List.drop_drop, short_next _ _ (by omega)] at h2
  exact ⟨rfl, h2, h3⟩
/-- The world when a file's cells are laid. -/
def startF (w : World) : World := (w.alloc (.cells noCells.toArray 32)).alloc (.cells noCells.toArray 32)
theorem startF_is (w : World) : Below w.heap.size w (startF w) ∧ Blk (startF w) w.heap.size noCells 32 ∧ Blk (startF w) (w.heap.size + 1) noCells 32 ∧ (startF w).heap.size = w.heap.size + 2 := by
  have hz1 : (w.alloc (.cells noCells.toArray 32)).heap.size = w.heap.size + 1 := by simp
  have hb1 := below1 w (.cells noCells.toArray 32)
  have hb2 := below1 (w.alloc (.cells noCells.toArray 32)) (.cells noCells.toArray 32)
  have H2 := Blk.new (w.alloc (.cells noCells.toArray 32)) noCells 32
  rw [hz1] at H2
  exact ⟨hb1.trans (hb2.mono (by omega)), (Blk.new w noCells 32).below hb2 (by omega), H2, by unfold startF; simp⟩
def zQ : List Value := ints .i64 (List.replicate 64 0)
theorem run_zero_blk (u : World) : Sem.run Try.prog (zeroValue 23) u = .ok (.agg zQ.toArray) u := by kernel_rfl
theorem fc_q (f : FileL) (A : Option Addr) (c : Nat) (A2 : Option Addr) (c2 : Nat) (A3 : Option Addr) (c3 : Nat) : fileCells f A c A2 c2 A3 c3 = [.int .i64 f.wide, .int .i64 f.high, .int .i64 f.parts] ++ (ints .i64 f.q ++ (tabsCells f.cs A f.syms.length c f.cs2 A2 f.syms2.length c2 ++ [.int .i64 f.every, .slice A3 f.data.length c3])) := rfl
theorem fc_t1 (f : FileL) (A : Option Addr) (c : Nat) (A2 : Option Addr) (c2 : Nat) (A3 : Option Addr) (c3 : Nat) : fileCells f A c A2 c2 A3 c3 = ([.int .i64 f.wide, .int .i64 f.high, .int .i64 f.parts] ++ ints .i64 f.q) ++ (tabCells f.cs A f.syms.length c ++ (tabCells f.cs2 A2 f.syms2.length c2 ++ [.int .i64 f.every, .slice A3 f.data.length c3])) := by
  unfold fileCells tabsCells; simp only [List.append_assoc]
theorem fc_t2 (f : FileL) (A : Option Addr) (c : Nat) (A2 : Option Addr) (c2 : Nat) (A3 : Option Addr) (c3 : Nat) : fileCells f A c A2 c2 A3 c3 = ([.int .i64 f.wide, .int .i64 f.high, .int .i64 f.parts] ++ ints .i64 f.q ++ tabCells f.cs A f.syms.length c) ++ (tabCells f.cs2 A2 f.syms2.length c2 ++ [.int .i64 f.every, .slice A3 f.data.length c3]) := by
  unfold fileCells tabsCells; simp only [List.append_assoc]
/-- The first four numbers' file. -/
def f4 (a0 a1 a2 a3 : Int) : FileL := { noF with wide := a0, high := a1, parts := a2, every := a3 }
theorem set_f4 (a0 a1 a2 a3 : Int) : ((((fileCells noF none 0 none 0 none 0).set 0 (.int .i64 a0)).set 1 (.int .i64 a1)).set 2 (.int .i64 a2)).set 101 (.int .i64 a3) = fileCells (f4 a0 a1 a2 a3) none 0 none 0 none 0 := by rfl
theorem f4_q (a0 a1 a2 a3 : Int) : (ints .i64 (f4 a0 a1 a2 a3).q).length = 64 := by rfl
/-- What file hands back. -/
def FlRes (R G : Nat) (r : List Int) (s : Bool) (w : World) (e : Ending) (w' : World) : Prop := ∃ A1 c1 A2 c2 A3 c3, e = .returned (fileV (fileR r) A1 c1 A2 c2 A3 c3) ∧
  Owns w.heap.size [byteRow (.slice A3 (fileR r).data.length c3) (fileR r).data, intRow 3 .i64 (.slice A2 (fileR r).syms2.length c2) (fileR r).syms2, intRow 3 .i64 (.slice A1 (fileR r).syms.length c1) (fileR r).syms] w' ∧ RdAt w' R G [] (fshortR s r) ∧ w.grownBy w' (some R)
set_option maxRecDepth 100000 in
set_option maxHeartbeats 2000000 in
theorem file_any (R G : Nat) (r : List Int) (s : Bool) (w : World) (h : RdAt w R G r s) :
    Calls Try.prog 30 #[.pointer (some ⟨R, 0, none⟩)] w (FlRes R G r s w) := by
  have hzv := run_zero_file
  have hzb := run_zero_blk
  have hby := h.bytes
  have hRw := h.lt
  have hlow := h.low
  have hlenr := h.len
  obtain ⟨hb0, HB0, HB1, hz0⟩ := startF_is w
  obtain ⟨W0, hW0⟩ : ∃ W0, W0 = startF w := ⟨_, rfl⟩
  rw [← hW0] at hb0 HB0 HB1 hz0
  unfold startF at hW0
  have HW0 := veil hW0
  have hR0 := h.below hb0 hRw
  obtain ⟨F, hF⟩ : ∃ F, F = w.heap.size + 1 := ⟨_, rfl⟩
  have hFR : R < F := by omega
  rw [← hF] at HB1
  have HR0 : Hid (RdAt W0 R G (r.drop 0) (s || decide (r.length < 0))) := by show RdAt _ _ _ _ _; simpa using hR0
  have HG0 : Hid (w.grownBy W0 (some R)) := grown_of_below hb0
  have HB0' := veil HB0
  have HX0 : Hid (Blk W0 F (fileCells noF none 0 none 0 none 0) 32) := HB1
  obtain ⟨a0, ha0⟩ : ∃ a, a = r.getD 0 0 := ⟨_, rfl⟩
  obtain ⟨a1, ha1⟩ : ∃ a, a = r.getD 1 0 := ⟨_, rfl⟩
  obtain ⟨a2, ha2⟩ : ∃ a, a = r.getD 2 0 := ⟨_, rfl⟩
  obtain ⟨a3, ha3⟩ : ∃ a, a = r.getD 3 0 := ⟨_, rfl⟩
  have Ha0 := veil ha0; have Ha1 := veil ha1; have Ha2 := veil ha2; have Ha3 := veil ha3
  clear ha0 ha1 ha2 ha3
  have HC0 := veil (number_at R G 0 r s W0 HR0.out)
  rw [← Ha0.out] at HC0
  clear hW0 hR0 HB1 HB0 hb0 h
  go_enter Try.func30, Try.ntmps30
  go_upto_region 2 with fail
  rw [← HW0.out, ← hF]
  have hFw : w.heap.size < F := by omega
  have hF0 : F < W0.heap.size := by omega
  clear HW0 hF hz0
  go_wp2_with fail
  refine HC0.out.mono ?_
  rintro e w1 ⟨rfl, hR1, hg1⟩
  have HC1 := veil (number_at R G 1 r s w1 hR1)
  rw [← Ha1.out] at HC1
  have HG1 := veil (HG0.out.trans hg1)
  have HB1 := veil (HB0'.out.kept hg1 (by simp; omega))
  have HX1 := veil (HX0.out.kept hg1 (by simp; omega))
  have hz1 := hg1.size
  clear HC0 HG0 HB0' HX0 hR1 hg1
  go_wp2_with fail
  refine HC1.out.mono ?_
  rintro e w2 ⟨rfl, hR2, hg2⟩
  have HC2 := veil (number_at R G 2 r s w2 hR2)
  rw [← Ha2.out] at HC2
  have HG2 := veil (HG1.out.trans hg2)
  have HB2 := veil (HB1.out.kept hg2 (by simp; omega))
  have HX2 := veil (HX1.out.kept hg2 (by simp; omega))
  have hz2 := hg2.size
  clear HC1 HG1 HB1 HX1 hR2 hg2
  go_wp2_with fail
  refine HC2.out.mono ?_
  rintro e w3 ⟨rfl, hR3, hg3⟩
  have HC3 := veil (number_at R G 3 r s w3 hR3)
  rw [← Ha3.out] at HC3
  have HG3 := veil (HG2.out.trans hg3)
  have HB3 := veil (HB2.out.kept hg3 (by simp; omega))
  have HX3 := veil (HX2.out.kept hg3 (by simp; omega))
  have hz3 := hg3.size
  clear HC2 HG2 HB2 HX2 hR3 hg3
  go_wp2_with fail
  refine HC3.out.mono ?_
  rintro e w4 ⟨rfl, hR4, hg4⟩
  have HG4 := veil (HG3.out.trans hg4)
  have HB4 := veil (HB3.out.kept hg4 (by simp; omega))
  have HX4 := veil (HX3.out.kept hg4 (by simp; omega))
  have HR4 := veil hR4
  have hz4 := hg4.size
  have k0 := HX4.out.cell (i := 0) (v := .int .i64 0) rfl
  have k1 := HX4.out.cell (i := 1) (v := .int .i64 0) rfl
  have k2 := HX4.out.cell (i := 2) (v := .int .i64 0) rfl
  have k3 := HX4.out.cell (i := 101) (v := .int .i64 0) rfl
  have f0 := HX4.out.frozen 0
  have f1 := HX4.out.frozen 1
  have f2 := HX4.out.frozen 2
  have f3 := HX4.out.frozen 101
  clear HC3 HG3 HB3 HX3 hR4 hg4
  go_upto_region 4 with fail
  obtain ⟨Wf, hWf⟩ : ∃ Wf, Wf = (((w4.setCell ⟨F, 0, none⟩ (.int .i64 a0)).setCell ⟨F, 1, none⟩ (.int .i64 a1)).setCell ⟨F, 2, none⟩ (.int .i64 a2)).setCell ⟨F, 101, none⟩ (.int .i64 a3) := ⟨_, rfl⟩
  rw [← hWf]
  have hgf : w4.grownBy Wf (some F) := by
    rw [hWf]; exact (((grown_setCell w4 F 0 (.int .i64 a0)).trans (grown_setCell _ F 1 (.int .i64 a1))).trans (grown_setCell _ F 2 (.int .i64 a2))).trans (grown_setCell _ F 101 (.int .i64 a3))
  have hzf : Wf.heap.size = w4.heap.size := by rw [hWf]; simp [World.setCell]
  have hXf : Blk Wf F (fileCells (f4 a0 a1 a2 a3) none 0 none 0 none 0) 32 := by
    rw [hWf, ← set_f4]; exact (((HX4.out.set 0 (.int .i64 a0)).set 1 (.int .i64 a1)).set 2 (.int .i64 a2)).set 101 (.int .i64 a3)
  have hGf : w.grownBy Wf (some R) := ⟨hgf.os.trans HG4.out.os, hgf.tape.trans HG4.out.tape, hgf.output.trans HG4.out.output, Nat.le_trans HG4.out.size hgf.size, fun q hq hne => (hgf.block q (by have := HG4.out.size; omega) (fun e => by injection e with e; omega)).trans (HG4.out.block q hq hne)⟩
  have hBf := HB4.out.kept hgf (by simp; omega)
  have hRf := HR4.out.kept hgf hFR
  have hwf := HG4.out.size
  have hb5 := below1 Wf (.cells zQ.toArray 23)
  have hz5 : (Wf.alloc (.cells zQ.toArray 23)).heap.size = w4.heap.size + 1 := by simp [hzf]
  have HQ5 := Blk.new Wf zQ 23
  rw [hzf] at HQ5
  obtain ⟨W5, hW5⟩ : ∃ W5, W5 = Wf.alloc (.cells zQ.toArray 23) := ⟨_, rfl⟩
  rw [← hW5] at hb5 hz5 HQ5 ⊢
  have hwfz : w.heap.size ≤ Wf.heap.size := hGf.size
  have HX5 := veil (hXf.below hb5 (by omega))
  have HB5 := veil (hBf.below hb5 (by omega))
  have HR5 : Hid (RdAt W5 R G (r.drop (4 + 0)) (s || decide (r.length < 4 + 0))) := veil (hRf.below hb5 (by omega))
  have HG5 := veil (grown_below hGf hb5 hwfz)
  obtain ⟨Q, hQ⟩ : ∃ Q, Q = w4.heap.size := ⟨_, rfl⟩
  rw [← hQ] at HQ5 ⊢
  have hFQ : F < Q := by omega
  have hwQ : w.heap.size ≤ Q := by omega
  have HQ5' : Hid (Blk W5 Q (ints .i64 (partQ (qR r) 0)) 23) := by show Blk _ _ _ _; rw [partQ_0]; exact HQ5
  have Hql := veil (qR_length r)
  clear hW5 hWf hgf hzf hXf hGf hBf hRf hb5 hz5 HQ5 hQ HX4 HB4 HR4 HG4 k0 k1 k2 k3 f0 f1 f2 f3 hwfz hwf hz4 hz3 hz2 hz1 HR0
  go_wp2_with fail
  go_loopg [5, 18] 64 (fun gk kv iv wr => ∃ k : Nat, gk = 64 - k ∧ k ≤ 64 ∧ iv = .int .i64 (k : Int) ∧ Hid (Blk wr Q (ints .i64 (partQ (qR r) k)) 23) ∧ Hid (Blk wr F (fileCells (f4 a0 a1 a2 a3) none 0 none 0 none 0) 32) ∧ Hid (Blk wr w.heap.size noCells 32) ∧ Hid (RdAt wr R G (r.drop (4 + k)) (s || decide (r.length < 4 + k))) ∧ Hid (w.grownBy wr (some R)))
  case atStart => exact ⟨0, rfl, by omega, rfl, HQ5', HX5, HB5, HR5, HG5⟩
  case round =>
    clear HQ5' HX5 HB5 HR5 HG5
    obtain ⟨k, rfl, hk, rfl, HQ, HX, HB, HR, HG⟩ := hrel
    by_cases hlt : k < 64
    · have hltz : (k : Int) < 64 := by omega
      obtain ⟨x, hx⟩ : ∃ x, x = r.getD (4 + k) 0 := ⟨_, rfl⟩
      have hxk : (qR r)[k]? = some x := by rw [hx]; unfold qR; rw [List.getElem?_map, List.getElem?_range hlt]; rfl
      have HN := veil (number_at R G (4 + k) r s wr HR.out)
      rw [← hx] at HN
      have Hxk := veil hxk
      have hQl := HQ.out.lt
      clear hx hxk
      go_wp2_with fail
      refine HN.out.mono ?_
      rintro e w6 ⟨rfl, hR6, hg6⟩
      have hz6 := hg6.size
      have hX6 := HX.out.kept hg6 (by simp; omega)
      have hB6 := HB.out.kept hg6 (by simp; omega)
      have hQ6 := HQ.out.kept hg6 (by simp; omega)
      have k5 := hQ6.cell (i := k) (v := .int .i64 0) (ints_at (partQ_at Hql.out hlt))
      have f5 := hQ6.frozen k
      have hset := hQ6.set k (.int .i64 x)
      rw [ints_setF, partQ_next Hxk.out Hql.out] at hset
      have hg7 := grown_setCell w6 Q k (.int .i64 x)
      have HQ7 := veil hset
      have HX7 := veil (hX6.kept hg7 (by simp; omega))
      have HB7 := veil (hB6.kept hg7 (by simp; omega))
      have HR7 := veil (hR6.kept hg7 (by omega))
      have HG7 := veil (grown_set (k := k) (v := .int .i64 x) (HG.out.trans hg6) hwQ)
      clear HN HQ HX HB HR HG hX6 hB6 hQ6 hset hg7 hg6 hR6 Hxk
      go_wp2_with fail
      go_roundg (64 - (k + 1))
      case rel => exact ⟨k + 1, rfl, by omega, by go_num, HQ7, HX7, HB7, HR7, HG7⟩
      case measure => omega
    · obtain rfl : k = 64 := by omega
      have hQr := HQ.out
      rw [partQ_64 Hql.out] at hQr
      have hQv := hQr.range
      have HRr := veil HR.out
      have Hqv : Hid ((ints .i64 (qR r)).length = 64) := by show _ = _; rw [ints_length, Hql.out]
      have HFr := veil (from_any (qR r) wr Hql.out)
      unfold blkV at HFr
      obtain ⟨xs, hxs⟩ : ∃ xs, xs = ints .i64 (qR r) := ⟨_, rfl⟩
      rw [← hxs] at hQv Hqv HFr
      have hQl := HQ.out.lt
      clear hxs HQ hQr hlt HR
      go_wp2_with (first
        | (refine wpList_load_mid rfl 23 (.tmp 4) rfl Q 0 rfl xs _ hQv Try.underlying23 rfl (info_blkn Hqv.out) ?_)
        | fail)
      refine HFr.out.mono ?_
      rintro e w6 ⟨rfl, hb6⟩
      have hz6 := hb6.size
      have hGz := HG.out.size
      have Hyv : Hid ((ints .i64 (fromL (qR r))).length = 64) := by show _ = _; rw [ints_length]; exact fromK_length _ _
      have hyo := ints_one (k := .i64) (l := fromL (qR r))
      have hX6 := HX.out.below hb6 (by omega)
      rw [fc_q] at hX6
      have HB6 := veil (HB.out.below hb6 (by omega))
      have HR6 := veil (HRr.out.below hb6 (by omega))
      have HG6 := veil (grown_below HG.out hb6 hGz)
      have hql := f4_q a0 a1 a2 a3
      obtain ⟨f1, hf1⟩ : ∃ f1 : FileL, f1 = { f4 a0 a1 a2 a3 with q := fromL (qR r) } := ⟨_, rfl⟩
      have Hmk : Hid (∀ W, Blk W F ([.int .i64 (f4 a0 a1 a2 a3).wide, .int .i64 (f4 a0 a1 a2 a3).high, .int .i64 (f4 a0 a1 a2 a3).parts] ++ (ints .i64 (fromL (qR r)) ++ (tabsCells (f4 a0 a1 a2 a3).cs none (f4 a0 a1 a2 a3).syms.length 0 (f4 a0 a1 a2 a3).cs2 none (f4 a0 a1 a2 a3).syms2.length 0 ++ [.int .i64 (f4 a0 a1 a2 a3).every, .slice none (f4 a0 a1 a2 a3).data.length 0]))) 32 → Blk W F (fileCells f1 none 0 none 0 none 0) 32) := by
        show ∀ _, _ → _
        intro W h; rw [hf1, fc_q]; exact h
      have Hf1 : Hid (f1 = { f4 a0 a1 a2 a3 with q := fromL (qR r) }) := hf1
      obtain ⟨ys, hys⟩ : ∃ ys, ys = ints .i64 (fromL (qR r)) := ⟨_, rfl⟩
      rw [← hys] at Hyv hyo Hmk ⊢
      obtain ⟨pre, hpre⟩ : ∃ pre : List Value, pre = [.int .i64 (f4 a0 a1 a2 a3).wide, .int .i64 (f4 a0 a1 a2 a3).high, .int .i64 (f4 a0 a1 a2 a3).parts] := ⟨_, rfl⟩
      have hpl : pre.length = 3 := by rw [hpre]; rfl
      rw [← hpre] at hX6 Hmk
      obtain ⟨post, hpost⟩ : ∃ post : List Value, post = tabsCells (f4 a0 a1 a2 a3).cs none (f4 a0 a1 a2 a3).syms.length 0 (f4 a0 a1 a2 a3).cs2 none (f4 a0 a1 a2 a3).syms2.length 0 ++ [.int .i64 (f4 a0 a1 a2 a3).every, .slice none (f4 a0 a1 a2 a3).data.length 0] := ⟨_, rfl⟩
      rw [← hpost] at hX6 Hmk
      obtain ⟨xq, hxq⟩ : ∃ xq, xq = ints .i64 (f4 a0 a1 a2 a3).q := ⟨_, rfl⟩
      rw [← hxq] at hX6 hql
      clear hys hpre hpost hxq hf1 hb6 HX HB HRr HG hQv HFr
      go_wp2_with (first
        | (refine wpList_store_in w6 rfl 23 (.tmp 28) (.tmp 27) rfl F 3 pre xq post ys 32 hpl hX6 rfl rfl (info_blkn Hyv.out) (by rw [Hyv.out, hql]) hyo ?_; intro w7 HX7 hg7)
        | fail)
      have hz7 := hg7.size
      have hX7 := Hmk.out _ HX7
      have HX7' := veil hX7
      have HB7 := veil (HB6.out.kept hg7 (by simp; omega))
      have hR7 := HR6.out.kept hg7 hFR
      rw [show 4 + 64 = 68 from rfl] at hR7
      have HR7 := veil hR7
      have HG7 : Hid (w.grownBy w7 (some R)) := ⟨hg7.os.trans HG6.out.os, hg7.tape.trans HG6.out.tape, hg7.output.trans HG6.out.output, Nat.le_trans HG6.out.size hg7.size, fun q hq hne => (hg7.block q (by omega) (fun e => by injection e with e; omega)).trans (HG6.out.block q hq hne)⟩
      clear HX7 hX7 hR7 hX6 hg7 HB6 HR6 HG6 Hmk hyo hpl hql
      obtain ⟨B, hB⟩ : ∃ B, B = w7.heap.size := ⟨_, rfl⟩
      have hFB : F < B := by omega
      have hwB : w.heap.size < B := by omega
      obtain ⟨r1, hr1⟩ : ∃ r1, r1 = r.drop 68 := ⟨_, rfl⟩
      obtain ⟨s1, hs1⟩ : ∃ s1, s1 = (s || decide (r.length < 68)) := ⟨_, rfl⟩
      rw [← hr1, ← hs1] at HR7
      have Hr1 := veil hr1; have Hs1 := veil hs1
      have HT1 := veil (table_any R G r1 s1 w7 HR7.out)
      clear hr1 hs1 HR7
      go_wp2_with fail
      refine HT1.out.mono ?_
      rintro e w8 ⟨A1, c1, rfl, hO8, hR8, hg8⟩
      rw [← hB] at hO8
      have hz8 := hg8.size
      have hX8 := HX7'.out.kept hg8 (by simp; omega)
      rw [fc_t1] at hX8
      have HB8 := veil (HB7.out.kept hg8 (by simp; omega))
      have HG8 := veil (HG7.out.trans hg8)
      have HO8 := veil hO8
      have HR8 := veil hR8
      have hx17 := tabCells_length (A := none) (n := f1.syms.length) (c := 0) (show f1.cs.length = 16 by rw [Hf1.out]; rfl)
      have Hy17 : Hid ((tabCells (cntR r1) A1 (symR r1).length c1).length = 17) := tabCells_length (cntR_length r1)
      have hyo := tabCells_one (cs := cntR r1) (A := A1) (n := (symR r1).length) (c := c1)
      have hpl : ([.int .i64 f1.wide, .int .i64 f1.high, .int .i64 f1.parts] ++ ints .i64 f1.q : List Value).length = 67 := by
        rw [List.length_append, ints_length, Hf1.out]; show 3 + (fromK (qR r) 64).length = 67; rw [fromK_length]
      obtain ⟨f2, hf2⟩ : ∃ f2 : FileL, f2 = { f1 with cs := cntR r1, syms := symR r1 } := ⟨_, rfl⟩
      have Hf2 := veil hf2
      have Hmk : Hid (∀ W, Blk W F (([.int .i64 f1.wide, .int .i64 f1.high, .int .i64 f1.parts] ++ ints .i64 f1.q) ++ (tabCells (cntR r1) A1 (symR r1).length c1 ++ (tabCells f1.cs2 none f1.syms2.length 0 ++ [.int .i64 f1.every, .slice none f1.data.length 0]))) 32 → Blk W F (fileCells f2 A1 c1 none 0 none 0) 32) := by
        show ∀ _, _ → _
        intro W h; rw [hf2, fc_t1]; exact h
      unfold tabV
      obtain ⟨ys, hys⟩ : ∃ ys, ys = tabCells (cntR r1) A1 (symR r1).length c1 := ⟨_, rfl⟩
      rw [← hys] at Hy17 hyo Hmk ⊢
      obtain ⟨pre, hpre⟩ : ∃ pre : List Value, pre = [.int .i64 f1.wide, .int .i64 f1.high, .int .i64 f1.parts] ++ ints .i64 f1.q := ⟨_, rfl⟩
      rw [← hpre] at hX8 Hmk hpl
      obtain ⟨post, hpost⟩ : ∃ post : List Value, post = tabCells f1.cs2 none f1.syms2.length 0 ++ [.int .i64 f1.every, .slice none f1.data.length 0] := ⟨_, rfl⟩
      rw [← hpost] at hX8 Hmk
      obtain ⟨xt, hxt⟩ : ∃ xt, xt = tabCells f1.cs none f1.syms.length 0 := ⟨_, rfl⟩
      rw [← hxt] at hX8 hx17
      clear hys hpre hpost hxt hf2 hO8 hR8 HT1 HX7' HB7 HG7 hg8
      go_wp2_with (first
        | (refine wpList_store_in w8 rfl 27 (.tmp 32) (.tmp 30) rfl F 67 pre xt post ys 32 hpl hX8 rfl rfl (by rw [Hy17.out]; exact info_tab) (by rw [Hy17.out, hx17]) hyo ?_; intro w9 HX9 hg9)
        | fail)
      have hz9 := hg9.size
      have HX9' := veil (Hmk.out _ HX9)
      have HB9 := veil (HB8.out.kept hg9 (by simp; omega))
      have HR9 := HR8.out.kept hg9 hFR
      have HO9 := veil (HO8.out.kept hg9 hFB)
      have HG9 : Hid (w.grownBy w9 (some R)) := ⟨hg9.os.trans HG8.out.os, hg9.tape.trans HG8.out.tape, hg9.output.trans HG8.out.output, Nat.le_trans HG8.out.size hg9.size, fun q hq hne => (hg9.block q (by omega) (fun e => by injection e with e; omega)).trans (HG8.out.block q hq hne)⟩
      obtain ⟨r2, hr2⟩ : ∃ r2, r2 = restR r1 := ⟨_, rfl⟩
      obtain ⟨s2, hs2⟩ : ∃ s2, s2 = (s1 || shortR r1) := ⟨_, rfl⟩
      rw [← hr2, ← hs2] at HR9
      have Hr2 := veil hr2; have Hs2 := veil hs2
      have HT2 := veil (table_any R G r2 s2 w9 HR9)
      clear hr2 hs2 HR9 HX9 hX8 hg9 HB8 HR8 HO8 HG8 Hmk hyo hpl hx17 Hy17
      go_wp2_with fail
      refine HT2.out.mono ?_
      rintro e w10 ⟨A2, c2, rfl, hO10, hR10, hg10⟩
      have hz10 := hg10.size
      have hX10 := HX9'.out.kept hg10 (by simp; omega)
      rw [fc_t2] at hX10
      have HB10 := veil (HB9.out.kept hg10 (by simp; omega))
      have HG10 := veil (HG9.out.trans hg10)
      have HO10 := veil (HO9.out.callG hg10 (by omega) hO10)
      have HR10 := veil hR10
      have hx17 := tabCells_length (A := none) (n := f2.syms2.length) (c := 0) (show f2.cs2.length = 16 by rw [Hf2.out, Hf1.out]; rfl)
      have Hy17 : Hid ((tabCells (cntR r2) A2 (symR r2).length c2).length = 17) := tabCells_length (cntR_length r2)
      have hyo := tabCells_one (cs := cntR r2) (A := A2) (n := (symR r2).length) (c := c2)
      have hpl : ([.int .i64 f2.wide, .int .i64 f2.high, .int .i64 f2.parts] ++ ints .i64 f2.q ++ tabCells f2.cs A1 f2.syms.length c1 : List Value).length = 84 := by
        rw [List.length_append, List.length_append, ints_length, tabCells_length (by rw [Hf2.out]; exact cntR_length _), Hf2.out, Hf1.out]; show 3 + (fromK (qR r) 64).length + 17 = 84; rw [fromK_length]
      obtain ⟨f3, hf3⟩ : ∃ f3 : FileL, f3 = { f2 with cs2 := cntR r2, syms2 := symR r2 } := ⟨_, rfl⟩
      have Hf3 := veil hf3
      have Hmk : Hid (∀ W, Blk W F (([.int .i64 f2.wide, .int .i64 f2.high, .int .i64 f2.parts] ++ ints .i64 f2.q ++ tabCells f2.cs A1 f2.syms.length c1) ++ (tabCells (cntR r2) A2 (symR r2).length c2 ++ [.int .i64 f2.every, .slice none f2.data.length 0])) 32 → Blk W F (fileCells f3 A1 c1 A2 c2 none 0) 32) := by
        show ∀ _, _ → _
        intro W h; rw [hf3, fc_t2]; exact h
      unfold tabV
      obtain ⟨ys2, hys2⟩ : ∃ ys, ys = tabCells (cntR r2) A2 (symR r2).length c2 := ⟨_, rfl⟩
      rw [← hys2] at Hy17 hyo Hmk ⊢
      obtain ⟨pre2, hpre2⟩ : ∃ pre : List Value, pre = [.int .i64 f2.wide, .int .i64 f2.high, .int .i64 f2.parts] ++ ints .i64 f2.q ++ tabCells f2.cs A1 f2.syms.length c1 := ⟨_, rfl⟩
      rw [← hpre2] at hX10 Hmk hpl
      obtain ⟨post2, hpost2⟩ : ∃ post : List Value, post = [.int .i64 f2.every, .slice none f2.data.length 0] := ⟨_, rfl⟩
      rw [← hpost2] at hX10 Hmk
      obtain ⟨xt2, hxt2⟩ : ∃ xt, xt = tabCells f2.cs2 none f2.syms2.length 0 := ⟨_, rfl⟩
      rw [← hxt2] at hX10 hx17
      clear hys2 hpre2 hpost2 hxt2 hf3 hO10 hR10 HT2 HX9' HB9 HG9 HO9 hg10
      go_wp2_with (first
        | (refine wpList_store_in w10 rfl 27 (.tmp 36) (.tmp 34) rfl F 84 pre2 xt2 post2 ys2 32 hpl hX10 rfl rfl (by rw [Hy17.out]; exact info_tab) (by rw [Hy17.out, hx17]) hyo ?_; intro w11 HX11 hg11; obtain ⟨Ar, cr, hBr, hsr, hcr⟩ := (HR10.out.kept hg11 hFR).blk; have k0 := hBr.cell (i := 0) (v := .slice Ar (restR r2).length cr) rfl)
        | fail)
      have hz11 := hg11.size
      have HX11' := veil (Hmk.out _ HX11)
      have HB11 := veil (HB10.out.kept hg11 (by simp; omega))
      have hR11 := HR10.out.kept hg11 hFR
      have HO11 := veil (HO10.out.kept hg11 hFB)
      have HG11 : Hid (w.grownBy w11 (some R)) := ⟨hg11.os.trans HG10.out.os, hg11.tape.trans HG10.out.tape, hg11.output.trans HG10.out.output, Nat.le_trans HG10.out.size hg11.size, fun q hq hne => (hg11.block q (by omega) (fun e => by injection e with e; omega)).trans (HG10.out.block q hq hne)⟩
      obtain ⟨r3, hr3⟩ : ∃ r3, r3 = restR r2 := ⟨_, rfl⟩
      obtain ⟨s3, hs3⟩ : ∃ s3, s3 = (s2 || shortR r2) := ⟨_, rfl⟩
      rw [← hr3] at hR11 ⊢
      rw [← hs3] at hR11
      have Hr3 := veil hr3; have Hs3 := veil hs3
      have hl3 := hR11.len
      have HT3 := veil (take_any R G r3.length r3 s3 w11 hR11 (by omega))
      clear hr3 hs3 hR11 hBr hsr hcr k0 HX11 hX10 hg11 HB10 HR10 HO10 HG10 Hmk hyo hpl hx17 Hy17
      refine HT3.out.mono ?_
      rintro e w12 ⟨A9, c9, rfl, hs12, hc12, hR12, hg12⟩
      rw [List.take_of_length_le (Nat.le_refl _)] at hs12 hc12 ⊢
      rw [List.drop_length, show (s3 || decide (r3.length < r3.length)) = s3 by simp] at hR12
      have hz12 := hg12.size
      have HX12 := veil (HX11'.out.kept hg12 (by simp; omega))
      have HB12 := veil (HB11.out.kept hg12 (by simp; omega))
      have HG12 := veil (HG11.out.trans hg12)
      have HO12 := veil (HO11.out.kept hg12 (show R < B by omega))
      have HR12 := veil hR12
      have HCl := veil (clone_any A9 c9 G r3 w12 hs12 (by omega) (by omega))
      clear hs12 hc12 hR12 hg12 HX11' HB11 HG11 HO11 HT3
      go_wp2_with fail
      refine HCl.out.mono ?_
      rintro e w13 ⟨vd, rfl, hO13, hb13⟩
      obtain ⟨A3, c3, hv3, hs3', hcc3, hcm3⟩ := hO13.seen (List.mem_cons_self ..)
      obtain rfl : vd = .slice A3 r3.length c3 := hv3
      have hz13 := hb13.size
      have hX13 := HX12.out.below hb13 (by omega)
      have hform3 : f3.Form := by rw [Hf3.out, Hf2.out, Hf1.out]; exact ⟨fromK_length _ _, cntR_length _, cntR_length _⟩
      have k5 := hX13.cell (fget_data (f := f3) (a := fun i => if i = 0 then A1 else A2) (c := fun i => if i = 0 then c1 else c2) (A3 := none) (c3 := 0) hform3)
      have f5 := hX13.frozen 102
      have hset := hX13.set 102 (.slice A3 r3.length c3)
      have hfd := fset_data (f := f3) (a := fun i => if i = 0 then A1 else A2) (c := fun i => if i = 0 then c1 else c2) (A3 := none) (c3 := 0) hform3 A3 r3 c3
      have hset2 : Blk (w13.setCell ⟨F, 102, none⟩ (.slice A3 r3.length c3)) F (fileCells (fileR r) A1 c1 A2 c2 A3 c3) 32 := by
        have e : fileR r = { f3 with data := r3 } := by
          rw [Hf3.out, Hf2.out, Hf1.out]
          unfold fileR f4
          rw [Hr3.out, Hr2.out, Hr1.out, Ha0.out, Ha1.out, Ha2.out, Ha3.out]
        rw [e]
        change (fileCells f3 A1 c1 A2 c2 none 0).set 102 (.slice A3 r3.length c3) = fileCells { f3 with data := r3 } A1 c1 A2 c2 A3 c3 at hfd
        rw [← hfd]; exact hset
      have hgs := grown_setCell w13 F 102 (.slice A3 r3.length c3)
      have hO14 := ((HO12.out.call hb13 hO13).kept hgs hFB).down (Nat.le_of_lt hwB)
      have hR14 := (HR12.out.below hb13 (by omega)).kept hgs hFR
      have hB14 := (HB12.out.below hb13 (by omega)).kept hgs (by simp; omega)
      have hG13 := grown_below HG12.out hb13 (by omega)
      have hG14 := grown_set (k := 102) (v := .slice A3 r3.length c3) hG13 (show w.heap.size ≤ F by omega)
      obtain ⟨W, hW⟩ : ∃ W, W = w13.setCell ⟨F, 102, none⟩ (.slice A3 r3.length c3) := ⟨_, rfl⟩
      rw [← hW] at hset2 hO14 hR14 hB14 hG14
      have HFin : Hid (∀ w', W.grownBy w' (some w.heap.size) → FlRes R G r s w (.returned (.agg (fileCells (fileR r) A1 c1 A2 c2 A3 c3).toArray)) w') := by
        show ∀ _, _ → _
        intro w' hg
        have e1 : (fileR r).syms = symR r1 := by rw [Hr1.out]; rfl
        have e2 : (fileR r).syms2 = symR r2 := by rw [Hr2.out, Hr1.out]; rfl
        have e3 : (fileR r).data = r3 := by rw [Hr3.out, Hr2.out, Hr1.out]; rfl
        have e4 : fshortR s r = s3 := by rw [Hs3.out, Hs2.out, Hs1.out, Hr2.out, Hr1.out]; rfl
        refine ⟨A1, c1, A2, c2, A3, c3, rfl, ?_, ?_, ⟨hg.os.trans hG14.os, hg.tape.trans hG14.tape, hg.output.trans hG14.output, Nat.le_trans hG14.size hg.size, fun q hq hne => (hg.block q (by have := hG14.size; omega) (fun e => by injection e with e; omega)).trans (hG14.block q hq hne)⟩⟩
        · rw [e1, e2, e3]
          refine ⟨Nat.le_trans hO14.base hg.size, fun x hx => (hO14.each x hx).kept hg ?_, hO14.apart⟩
          have hxB : ∀ g, x.v.ownBlock = some g → B ≤ g := fun g hgx => ((((HO12.out.call hb13 hO13).kept hgs hFB).each x hx).lt g hgx).1
          cases hv : x.v.ownBlock with
          | none => exact .inl rfl
          | some g => exact .inr fun e => by injection e with e; have := hxB g hv; omega
        · rw [e4]; exact hR14.kept' hg (by omega)
      have HW := veil hW
      have Hlen : Hid ((fileCells (fileR r) A1 c1 A2 c2 A3 c3).length = 103) := fileCells_length (fileR_form r) _ _ _ _ _ _
      have hone := fileCells_one (f := fileR r) (A := A1) (c := c1) (A2 := A2) (c2 := c2) (A3 := A3) (c3 := c3)
      have hXr := hset2.range
      have Hnl : Hid (noCells.length = 103) := noCells_length
      obtain ⟨xs, hxs⟩ : ∃ xs, xs = fileCells (fileR r) A1 c1 A2 c2 A3 c3 := ⟨_, rfl⟩
      rw [← hxs] at HFin Hlen hone hXr
      obtain ⟨x0, hx0⟩ : ∃ x0, x0 = noCells := ⟨_, rfl⟩
      rw [← hx0] at hB14 Hnl
      clear hzv hzb hx0 hxs hset2 hset hfd hgs hO14 hR14 hG13 hG14 hW hO13 hb13 hX13 hs3' HX12 HB12 HG12 HO12 HR12 HCl hform3
      go_upto_region 13 with fail
      rw [← HW.out]
      go_wp2_with (first
        | (refine wpList_load_mid rfl 32 (.tmp 3) rfl F 0 rfl xs _ hXr Try.underlying32 rfl (info_file Hlen.out) ?_)
        | (refine wpList_store_blk W rfl 32 (.tmp 2) (.tmp 46) rfl w.heap.size x0 xs 32 hB14 rfl rfl (info_file Hlen.out) (by rw [Hlen.out, Hnl.out]) hone ?_; intro w15 HB15 hg15)
        | fail)
      refine bodyPost_ret (v := .agg xs.toArray) (results_cell_row rfl _ _ w.heap.size 32 xs.toArray (0, 0) _ rfl HB15 Try.underlying32 rfl (by simpa using info_file Hlen.out)) rfl (HFin.out _ hg15)
end Go.Proofs.Ytmdjhbkpekepgaa
