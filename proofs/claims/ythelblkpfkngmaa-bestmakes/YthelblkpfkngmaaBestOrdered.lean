/- best.ordered: its contract. -/
import Derived.Test.YthelblkpfkngmaaBlk
import Derived.Test.YthelblkpfkngmaaTabSet
import Derived.Test.YthelblkpfkngmaaBestMap
import Derived.Test.YthelblkpfkngmaaConcat
namespace Go.Proofs.Ythelblkpfkngmaa
open Go.RowKit
set_option linter.unusedVariables false
set_option linter.unusedSimpArgs false

/-- The symbols below j whose length is i + 1. -/
def selS (L : Int → Nat) (j i : Nat) : List Int := (upTo j).filter fun s => L s == i + 1
/-- The symbols in the table's order: k lengths are over, j symbols of the next. -/
def ordS (L : Int → Nat) (n k j : Nat) : List Int := (List.range k).flatMap (selS L n) ++ selS L j k
/-- The counts. -/
def ordC (L : Int → Nat) (n k j : Nat) : List Int := (List.range 16).map fun i => if i < k then ((selS L n i).length : Int) else if i = k then ((selS L j i).length : Int) else 0
section
variable {L : Int → Nat} {n k j : Nat}
theorem selS_zero (L : Int → Nat) (i : Nat) : selS L 0 i = [] := rfl
theorem selS_yes (h : L (j : Int) = k + 1) : selS L (j + 1) k = selS L j k ++ [(j : Int)] := by
  unfold selS; rw [upTo_succ, List.filter_append]; simp [h]
theorem selS_no (h : L (j : Int) ≠ k + 1) : selS L (j + 1) k = selS L j k := by
  unfold selS; rw [upTo_succ, List.filter_append]; simp [h]
theorem selS_len (L : Int → Nat) (j i : Nat) : (selS L j i).length ≤ j := by
  unfold selS; have := List.length_filter_le (fun s => L s == i + 1) (upTo j); rw [upTo_length] at this; exact this
theorem ordS_yes (h : L (j : Int) = k + 1) : ordS L n k (j + 1) = ordS L n k j ++ [(j : Int)] := by
  unfold ordS; rw [selS_yes h, List.append_assoc]
theorem ordS_no (h : L (j : Int) ≠ k + 1) : ordS L n k (j + 1) = ordS L n k j := by
  unfold ordS; rw [selS_no h]
theorem ordS_next : ordS L n (k + 1) 0 = ordS L n k n := by
  unfold ordS; rw [List.range_succ, List.flatMap_append, selS_zero]; simp
theorem ordC_next : ordC L n (k + 1) 0 = ordC L n k n := by
  unfold ordC
  refine List.map_congr_left fun i _ => ?_
  rw [selS_zero]
  by_cases h1 : i < k
  · rw [if_pos (by omega), if_pos h1]
  · by_cases h2 : i = k
    · subst h2; rw [if_pos (by omega), if_neg (by omega), if_pos rfl]
    · rw [if_neg (by omega), if_neg h1, if_neg h2]; split <;> rfl
theorem ordC_length (L : Int → Nat) (n k j : Nat) : (ordC L n k j).length = 16 := by simp [ordC]
theorem ordC_at (h : k < 16) : (ordC L n k j)[k]? = some ((selS L j k).length : Int) := by
  unfold ordC; simp [h]
theorem ordC_no (h : L (j : Int) ≠ k + 1) : ordC L n k (j + 1) = ordC L n k j := by
  unfold ordC
  refine List.map_congr_left fun i _ => ?_
  by_cases h2 : i = k
  · subst h2; rw [selS_no h]
  · rw [if_neg h2, if_neg h2]
theorem ordC_yes (hk : k < 16) (h : L (j : Int) = k + 1) : ordC L n k (j + 1) = (ordC L n k j).set k (((selS L j k).length : Int) + 1) := by
  apply List.ext_getElem?
  intro i
  rw [List.getElem?_set]
  by_cases e : k = i
  · subst e
    rw [if_pos rfl, ordC_at hk, selS_yes h, if_pos (by rw [ordC_length]; exact hk)]
    simp
  · rw [if_neg e]
    unfold ordC
    simp only [List.getElem?_map]
    by_cases hi : i < 16
    · simp [hi, show ¬ i = k from fun h => e h.symm]
    · simp [hi]
theorem flatMap_len {α β : Type} (l : List α) (f : α → List β) (m : Nat) (h : ∀ x ∈ l, (f x).length ≤ m) : (l.flatMap f).length ≤ m * l.length := by
  induction l with
  | nil => simp
  | cons a l ih =>
    have h1 := h a (by simp)
    have h2 := ih fun x hx => h x (by simp [hx])
    simp only [List.flatMap_cons, List.length_append, List.length_cons, Nat.mul_add]; omega
theorem ordS_len (hk : k ≤ 16) (hj : j ≤ n) (hn : n ≤ 256) : (ordS L n k j).length ≤ 8192 := by
  unfold ordS
  have h1 := flatMap_len (List.range k) (selS L n) n fun i _ => selS_len L n i
  have h2 := selS_len L j k
  rw [List.length_range] at h1
  have h3 : n * k ≤ 256 * 16 := Nat.mul_le_mul hn hk
  rw [List.length_append]; omega
end
theorem size_setCell (w : World) (a : Addr) (v : Value) : (w.setCell a v).heap.size = w.heap.size := by simp [World.setCell]
theorem ordC_zero (L : Int → Nat) (n : Nat) : ordC L n 0 0 = List.replicate 16 0 := by
  unfold ordC
  apply List.ext_getElem?
  intro i
  by_cases hi : i < 16
  · simp only [List.getElem?_map, List.getElem?_range hi, List.getElem?_replicate, if_pos hi, Option.map_some, selS_zero]; simp
  · simp [hi]
theorem ordS_zero (L : Int → Nat) (n : Nat) : ordS L n 0 0 = [] := by simp [ordS, selS_zero]
def tab0 (w : World) : World := w.alloc (.cells (tabCells (List.replicate 16 0) none 0 0).toArray 25)
theorem tab0_size (w : World) : (tab0 w).heap.size = w.heap.size + 1 := by simp [tab0]
/-- What both loops hold. -/
def TabIs (W : World) (cs ss : List Int) (w : World) : Prop :=
  ∃ A c, Blk w (W.heap.size + 1) (tabCells cs A ss.length c) 25 ∧ Owns (W.heap.size + 2) [intRow 3 .i64 (.slice A ss.length c) ss] w ∧ Below (W.heap.size + 1) (tab0 W) w

set_option maxHeartbeats 4000000 in
set_option maxRecDepth 100000 in
theorem ordered_any (mb n N : Nat) (f : Int → Option Int) (L : Int → Nat) (w : World) (HM : MapN w mb N f) (hf : ∀ s : Nat, s < n → (f (s : Int)).getD 0 = (L (s : Int) : Int)) (hn : n ≤ 256) :
    Calls Try.prog 28 #[.map (some mb), .int .i64 n] w fun e w' => ∃ A c, e = .returned (tabV (ordC L n 16 0) A (ordS L n 16 0).length c) ∧ Owns w.heap.size [intRow 3 .i64 (.slice A (ordS L n 16 0).length c) (ordS L n 16 0)] w' ∧ Below w.heap.size w w' := by
  have Hf := veil hf; clear hf
  have hmb := HM.lt
  have hb0 : Below w.heap.size w (tab0 w) := below1 _ _
  have hst : TabIs w (ordC L n 0 0) (ordS L n 0 0) ((tab0 w).alloc (.cells (tabCells (List.replicate 16 0) none 0 0).toArray 25)) := by
    rw [ordC_zero, ordS_zero]
    refine ⟨none, 0, ?_, ?_, ?_⟩
    · have := Blk.new (tab0 w) (tabCells (List.replicate 16 0) none 0 0) 25
      rw [tab0_size] at this; exact this
    · exact (Owns.nil (by simp [tab0_size])).fresh _ _
    · have := below1 (tab0 w) (.cells (tabCells (List.replicate 16 0) none 0 0).toArray 25)
      rw [tab0_size] at this; exact this
  have Hst := veil hst; clear hst
  go_enter Try.func28, Try.ntmps28
  go_wp2
  go_loopg [8] 16 (fun gk i wr => ∃ k : Nat, gk = 16 - k ∧ k ≤ 16 ∧ i = .int .i64 (k : Int) ∧ TabIs w (ordC L n k 0) (ordS L n k 0) wr)
  case atStart => exact ⟨0, rfl, by omega, rfl, Hst.out⟩
  case round =>
    clear Hst
    obtain ⟨k, rfl, hk, rfl, hT⟩ := hrel
    have HT := veil hT; clear hT
    by_cases hlt : k < 16
    · have hltz : (k : Int) < 16 := by omega
      go_wp2_with fail
      go_loopg [12] n (fun gk i wr => ∃ j : Nat, gk = n - j ∧ j ≤ n ∧ i = .int .i64 (j : Int) ∧ TabIs w (ordC L n k j) (ordS L n k j) wr)
      case atStart => exact ⟨0, rfl, by omega, rfl, HT.out⟩
      case round =>
        clear HT
        obtain ⟨j, rfl, hj, rfl, A2, c2, HB, HO, hbel⟩ := hrel
        have hbw : Below w.heap.size w wr := hb0.trans (hbel.mono (by omega))
        have HMr := HM.below hbw hmb
        have hss := ordS_len (L := L) hk hj hn
        by_cases hjn : j < n
        · have hjz : (j : Int) < (n : Int) := by omega
          have hlk := HMr.look1 (x := (j : Int)) (wf_of (by omega))
          rw [Hf.out j hjn] at hlk
          by_cases hq : L (j : Int) = k + 1
          · rw [hq, show ((k + 1 : Nat) : Int) = (k : Int) + 1 by omega] at hlk
            have HB1 := veil (show Blk (wr.setCell ⟨w.heap.size + 1, k, none⟩ (.int .i64 (((selS L j k).length : Int) + 1))) (w.heap.size + 1) (tabCells (ordC L n k (j + 1)) A2 (ordS L n k j).length c2) 25 by
              have h5 := HB.set k (.int .i64 (((selS L j k).length : Int) + 1))
              rw [tab_set_count (by rw [ordC_length]; exact hlt), ← ordC_yes hlt hq] at h5
              exact h5)
            have HO1 : Owns (w.heap.size + 2) [intRow 3 .i64 (.slice A2 (ordS L n k j).length c2) (ordS L n k j)] (wr.setCell ⟨w.heap.size + 1, k, none⟩ (.int .i64 (((selS L j k).length : Int) + 1))) := HO.setCell (by simp) _
            have hb1 : Below (w.heap.size + 1) (tab0 w) (wr.setCell ⟨w.heap.size + 1, k, none⟩ (.int .i64 (((selS L j k).length : Int) + 1))) := hbel.setCell (by simp) _
            have dk := HB.cell (tab_count (A := A2) (n := (ordS L n k j).length) (c := c2) (ordC_at (L := L) (n := n) (j := j) hlt))
            have fk := HB.frozen k
            have d16 := HB.cell (tabCells_last (A := A2) (n := (ordS L n k j).length) (c := c2) (ordC_length L n k j))
            have f16 := HB.frozen 16
            have hk16 : ¬ k = 16 := by omega
            have hsl := selS_len L j k
            have HOy := veil (ordS_yes (L := L) (n := n) hq)
            have hwb := HB.lt
            have Hbel := veil hbel
            clear HB HO hq HMr hbel hbw
            generalize (selS L j k).length = q at *
            generalize ordS L n k j = ss at *
            go_wp2_with (first
              | (at_builtin; go_loud (refine wpList_ownS _ rfl (.tmp 29) (.tmp 31) _ rfl (w.heap.size + 2) 3 .i64 8 elemN (.slice A2 ss.length c2) ss [] rfl HO1 [_] (ss.length + 1) rfl (by rw [size_setCell]; rfl) (by unfold maxLen; simp; omega) (by simp; omega) ?_); intro A4 c4 w4 HO4 hb4 hz4; have HB4 := HB1.out.below hb4 (Nat.lt_succ_self _); have d16' := HB4.cell (tabCells_last (ordC_length L n k (j + 1))); have f16' := HB4.frozen 16)
              | fail)
            have HB5 : Blk (w4.setCell ⟨w.heap.size + 1, 16, none⟩ (.slice A4 (ss.length + 1) c4)) (w.heap.size + 1) (tabCells (ordC L n k (j + 1)) A4 (ss ++ [(j : Int)]).length c4) 25 := by
              have h5 := HB4.set 16 (.slice A4 (ss.length + 1) c4)
              rw [tab_set_syms (ordC_length L n k (j + 1))] at h5
              rw [List.length_append]; exact h5
            have HO5 : Owns (w.heap.size + 2) [intRow 3 .i64 (.slice A4 (ss ++ [(j : Int)]).length c4) (ss ++ [(j : Int)])] (w4.setCell ⟨w.heap.size + 1, 16, none⟩ (.slice A4 (ss.length + 1) c4)) := by
              have h5 := HO4.setCell (a := ⟨w.heap.size + 1, 16, none⟩) (by simp) (.slice A4 (ss.length + 1) c4)
              rw [List.length_append]; exact h5
            have hb5 : Below (w.heap.size + 1) (tab0 w) (w4.setCell ⟨w.heap.size + 1, 16, none⟩ (.slice A4 (ss.length + 1) c4)) := (hb1.trans (hb4.mono (by omega))).setCell (by simp) _
            go_roundg (n - (j + 1))
            case rel => exact ⟨j + 1, rfl, by omega, by go_num, A4, c4, by rw [HOy.out]; exact HB5, by rw [HOy.out]; exact HO5, hb5⟩
            case measure => omega
          · have hne : ((L (j : Int) : Int) == (k : Int) + 1) = false := by simp; omega
            have HT : Hid (TabIs w (ordC L n k (j + 1)) (ordS L n k (j + 1)) wr) := by
              rw [ordC_no hq, ordS_no hq]; exact ⟨A2, c2, HB, HO, hbel⟩
            clear HB HO hq HMr hbel hbw
            generalize L (j : Int) = q at *
            go_wp2_with fail
            go_roundg (n - (j + 1))
            case rel => exact ⟨j + 1, rfl, by omega, by go_num, HT.out⟩
            case measure => omega
        · have hjz : ¬ (j : Int) < (n : Int) := by omega
          obtain rfl : j = n := by omega
          have HT : Hid (TabIs w (ordC L j (k + 1) 0) (ordS L j (k + 1) 0) wr) := by
            rw [ordC_next, ordS_next]; exact ⟨A2, c2, HB, HO, hbel⟩
          clear HB HO HMr hbel hbw
          go_wp2_with fail
          go_roundg (16 - (k + 1))
          case rel => exact ⟨k + 1, rfl, by omega, by go_num, HT.out⟩
          case measure => omega
    · have hltz : ¬ (k : Int) < 16 := by omega
      have HK : Hid (k = 16) := by show k = 16; omega
      obtain ⟨A2, c2, HB, HO, hbel⟩ := HT.out
      have hbw : Below w.heap.size w wr := hb0.trans (hbel.mono (by omega))
      have HB0 : Blk wr w.heap.size (tabCells (List.replicate 16 0) none 0 0) 25 := (Blk.new w (tabCells (List.replicate 16 0) none 0 0) 25).below hbel (Nat.lt_succ_self _)
      rw [HK.out] at HB HO
      have hl17 := tabCells_length (A := A2) (n := (ordS L n 16 0).length) (c := c2) (ordC_length L n 16 0)
      have Hl := veil hl17
      have hone := tabCells_one (cs := ordC L n 16 0) (A := A2) (n := (ordS L n 16 0).length) (c := c2)
      have hrl : (List.replicate 16 (0 : Int)).length = 16 := by simp
      have Hl0 := veil (tabCells_length (A := none) (n := 0) (c := 0) hrl)
      clear HT hrl
      obtain ⟨xs, hxs⟩ : ∃ xs, xs = tabCells (ordC L n 16 0) A2 (ordS L n 16 0).length c2 := ⟨_, rfl⟩
      obtain ⟨x0, hx0⟩ : ∃ xs, xs = tabCells (List.replicate 16 0) none 0 0 := ⟨_, rfl⟩
      rw [← hxs] at HB hl17 Hl hone
      rw [← hx0] at HB0 Hl0
      have HX := veil hxs
      clear hxs hx0 hl17
      go_wp2_with (first
        | (refine wpList_load_mid rfl 25 (.tmp 5) rfl (w.heap.size + 1) 0 rfl xs _ HB.range Try.underlying25 rfl (by rw [Hl.out]; exact info_tab) ?_)
        | (refine wpList_store_blk wr rfl 25 (.tmp 4) (.tmp 36) rfl w.heap.size x0 xs 25 HB0 rfl rfl (by rw [Hl.out]; exact info_tab) (by rw [Hl.out, Hl0.out]) hone ?_; intro w5 HB5 hg5)
        | fail)
      refine bodyPost_ret (v := .agg xs.toArray) (results_cell_row rfl _ _ w.heap.size 25 xs.toArray (0, 0) _ rfl HB5 Try.underlying25 rfl (by simp only [List.size_toArray]; rw [Hl.out]; exact info_tab)) rfl ⟨A2, c2, by rw [HX.out], (HO.kept hg5 (by omega)).down (by omega), hbw.grown hg5 hbw.size (fun j hj => by injection hj with hj; omega)⟩
end Go.Proofs.Ythelblkpfkngmaa
