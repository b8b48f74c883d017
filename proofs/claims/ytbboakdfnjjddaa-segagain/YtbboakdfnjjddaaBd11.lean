/- Texts shared by the claims of this seat, in one. -/
import Derived.Test.YtbboakdfnjjddaaBd2
import Derived.Test.YtbboakdfnjjddaaBd1
import Derived.Test.YtbboakdfnjjddaaBd10
import Derived.Test.YtbboakdfnjjddaaBd8
import Derived.Test.YtbboakdfnjjddaaBd9
import Derived.Test.YtbboakdfnjjddaaBd7
import Derived.Test.YtbboakdfnjjddaaBd3
import Derived.Test.YtbboakdfnjjddaaRows
/- Cells of a table, written. -/
namespace Go.Proofs.Ytbboakdfnjjddaa
open Go.RowKit
set_option linter.unusedVariables false
set_option linter.unusedSimpArgs false
set_option maxRecDepth 100000

def upTo (n : Nat) : List Int := (List.range n).map Int.ofNat
theorem upTo_length (n : Nat) : (upTo n).length = n := by simp [upTo]
theorem upTo_succ (n : Nat) : upTo (n + 1) = upTo n ++ [(n : Int)] := by simp [upTo, List.range_succ]
theorem tab_set_count {cs : List Int} {A : Option Addr} {n c k : Nat} {x : Int} (hk : k < cs.length) : (tabCells cs A n c).set k (.int .i64 x) = tabCells (cs.set k x) A n c := by
  unfold tabCells
  rw [List.set_append_left _ _ (by rw [ints_length]; exact hk)]
  simp [ints, List.map_set]
theorem tab_set_syms {cs : List Int} {A A' : Option Addr} {n n' c c' : Nat} (h : cs.length = 16) : (tabCells cs A n c).set 16 (.slice A' n' c') = tabCells cs A' n' c' := by
  unfold tabCells; rw [List.set_append_right _ _ (by rw [ints_length]; omega), ints_length, h]; rfl
theorem tab_count {cs : List Int} {A : Option Addr} {n c k : Nat} {x : Int} (h : cs[k]? = some x) : (tabCells cs A n c)[k]? = some (.int .i64 x) := by
  unfold tabCells
  rw [List.getElem?_append_left (by rw [ints_length]; exact (List.getElem?_eq_some_iff.1 h).1)]
  exact ints_at h
end Go.Proofs.Ytbboakdfnjjddaa

/- best.ordered: its contract. -/
namespace Go.Proofs.Ytbboakdfnjjddaa
open Go.RowKit
set_option linter.unusedVariables false
set_option linter.unusedSimpArgs false
set_option maxRecDepth 100000

/-- The symbols below j whose length is i + 1. -/
def selS (L : Int → Nat) (j i : Nat) : List Int := (upTo j).filter fun s => L s == i + 1
/-- The symbols in the table's order: k lengths are over, j symbols of the next. -/
def ordS (L : Int → Nat) (n k j : Nat) : List Int := (List.range k).flatMap (selS L n) ++ selS L j k
/-- The counts. -/
def ordC (L : Int → Nat) (n k j : Nat) : List Int := (List.range 16).map fun i => if i < k then ((selS L n i).length : Int) else if i = k then ((selS L j i).length : Int) else 0
section
variable {L : Int → Nat} {n k j : Nat}
theorem selS_zero (L : Int → Nat) (i : Nat) : selS L 0 i = [] := rfl
theorem selS_yes (h : L (j : Int) = k + 1) : selS L (j + 1) k = selS L j k ++ [(j : Int)] := by
  unfold selS; rw [upTo_succ, List.filter_append]; simp [h]
theorem selS_no (h : L (j : Int) ≠ k + 1) : selS L (j + 1) k = selS L j k := by
  unfold selS; rw [upTo_succ, List.filter_append]; simp [h]
theorem selS_len (L : Int → Nat) (j i : Nat) : (selS L j i).length ≤ j := by
  unfold selS; have := List.length_filter_le (fun s => L s == i + 1) (upTo j); rw [upTo_length] at this; exact this
theorem ordS_yes (h : L (j : Int) = k + 1) : ordS L n k (j + 1) = ordS L n k j ++ [(j : Int)] := by
  unfold ordS; rw [selS_yes h, List.append_assoc]
theorem ordS_no (h : L (j : Int) ≠ k + 1) : ordS L n k (j + 1) = ordS L n k j := by
  unfold ordS; rw [selS_no h]
theorem ordS_next : ordS L n (k + 1) 0 = ordS L n k n := by
  unfold ordS; rw [List.range_succ, List.flatMap_append, selS_zero]; simp
theorem ordC_next : ordC L n (k + 1) 0 = ordC L n k n := by
  unfold ordC
  refine List.map_congr_left fun i _ => ?_
  rw [selS_zero]
  by_cases h1 : i < k
  · rw [if_pos (by omega), if_pos h1]
  · by_cases h2 : i = k
    · subst h2; rw [if_pos (by omega), if_neg (by omega), if_pos rfl]
    · rw [if_neg (by omega), if_neg h1, if_neg h2]; split <;> rfl
theorem ordC_length (L : Int → Nat) (n k j : Nat) : (ordC L n k j).length = 16 := by simp [ordC]
theorem ordC_at (h : k < 16) : (ordC L n k j)[k]? = some ((selS L j k).length : Int) := by
  unfold ordC; simp [h]
theorem ordC_no (h : L (j : Int) ≠ k + 1) : ordC L n k (j + 1) = ordC L n k j := by
  unfold ordC
  refine List.map_congr_left fun i _ => ?_
  by_cases h2 : i = k
  · subst h2; rw [selS_no h]
  · rw [if_neg h2, if_neg h2]
theorem ordC_yes (hk : k < 16) (h : L (j : Int) = k + 1) : ordC L n k (j + 1) = (ordC L n k j).set k (((selS L j k).length : Int) + 1) := by
  apply List.ext_getElem?
  intro i
  rw [List.getElem?_set]
  by_cases e : k = i
  · subst e
    rw [if_pos rfl, ordC_at hk, selS_yes h, if_pos (by rw [ordC_length]; exact hk)]
    simp
  · rw [if_neg e]
    unfold ordC
    simp only [List.getElem?_map]
    by_cases hi : i < 16
    · simp [hi, show ¬ i = k from fun h => e h.symm]
    · simp [hi]
theorem flatMap_len {α β : Type} (l : List α) (f : α → List β) (m : Nat) (h : ∀ x ∈ l, (f x).length ≤ m) : (l.flatMap f).length ≤ m * l.length := by
  induction l with
  | nil => simp
  | cons a l ih =>
    have h1 := h a (by simp)
    have h2 := ih fun x hx => h x (by simp [hx])
    simp only [List.flatMap_cons, List.length_append, List.length_cons, Nat.mul_add]; omega
theorem ordS_len (hk : k ≤ 16) (hj : j ≤ n) (hn : n ≤ 256) : (ordS L n k j).length ≤ 8192 := by
  unfold ordS
  have h1 := flatMap_len (List.range k) (selS L n) n fun i _ => selS_len L n i
  have h2 := selS_len L j k
  rw [List.length_range] at h1
  have h3 : n * k ≤ 256 * 16 := Nat.mul_le_mul hn hk
  rw [List.length_append]; omega
end
theorem size_setCell (w : World) (a : Addr) (v : Value) : (w.setCell a v).heap.size = w.heap.size := by simp [World.setCell]
theorem ordC_zero (L : Int → Nat) (n : Nat) : ordC L n 0 0 = List.replicate 16 0 := by
  unfold ordC
  apply List.ext_getElem?
  intro i
  by_cases hi : i < 16
  · simp only [List.getElem?_map, List.getElem?_range hi, List.getElem?_replicate, if_pos hi, Option.map_some, selS_zero]; simp
  · simp [hi]
theorem ordS_zero (L : Int → Nat) (n : Nat) : ordS L n 0 0 = [] := by simp [ordS, selS_zero]
def tab0 (w : World) : World := w.alloc (.cells (tabCells (List.replicate 16 0) none 0 0).toArray 34)
theorem tab0_size (w : World) : (tab0 w).heap.size = w.heap.size + 1 := by simp [tab0]
/-- What both loops hold. -/
def TabIs (W : World) (cs ss : List Int) (w : World) : Prop :=
  ∃ A c, Blk w (W.heap.size + 1) (tabCells cs A ss.length c) 34 ∧ Owns (W.heap.size + 2) [intRow 3 .i64 (.slice A ss.length c) ss] w ∧ Below (W.heap.size + 1) (tab0 W) w

set_option maxHeartbeats 4000000 in
set_option maxRecDepth 100000 in
theorem ordered_any (mb n N : Nat) (f : Int → Option Int) (L : Int → Nat) (w : World) (HM : MapN w mb N f) (hf : ∀ s : Nat, s < n → (f (s : Int)).getD 0 = (L (s : Int) : Int)) (hn : n ≤ 256) :
    Calls Try.prog 94 #[.map (some mb), .int .i64 n] w fun e w' => ∃ A c, e = .returned (tabV (ordC L n 16 0) A (ordS L n 16 0).length c) ∧ Owns w.heap.size [intRow 3 .i64 (.slice A (ordS L n 16 0).length c) (ordS L n 16 0)] w' ∧ Below w.heap.size w w' := by
  have Hf := veil hf; clear hf
  have hmb := HM.lt
  have hb0 : Below w.heap.size w (tab0 w) := below1 _ _
  have hst : TabIs w (ordC L n 0 0) (ordS L n 0 0) ((tab0 w).alloc (.cells (tabCells (List.replicate 16 0) none 0 0).toArray 34)) := by
    rw [ordC_zero, ordS_zero]
    refine ⟨none, 0, ?_, ?_, ?_⟩
    · have := Blk.new (tab0 w) (tabCells (List.replicate 16 0) none 0 0) 34
      rw [tab0_size] at this; exact this
    · exact (Owns.nil (by simp [tab0_size])).fresh _ _
    · have := below1 (tab0 w) (.cells (tabCells (List.replicate 16 0) none 0 0).toArray 34)
      rw [tab0_size] at this; exact this
  have Hst := veil hst; clear hst
  go_enter Try.func94, Try.ntmps94
  go_wp2
  go_loopg [8] 16 (fun gk i wr => ∃ k : Nat, gk = 16 - k ∧ k ≤ 16 ∧ i = .int .i64 (k : Int) ∧ TabIs w (ordC L n k 0) (ordS L n k 0) wr)
  case atStart => exact ⟨0, rfl, by omega, rfl, Hst.out⟩
  case round =>
    clear Hst
    obtain ⟨k, rfl, hk, rfl, hT⟩ := hrel
    have HT := veil hT; clear hT
    by_cases hlt : k < 16
    · have hltz : (k : Int) < 16 := by omega
      go_wp2_with fail
      go_loopg [12] n (fun gk i wr => ∃ j : Nat, gk = n - j ∧ j ≤ n ∧ i = .int .i64 (j : Int) ∧ TabIs w (ordC L n k j) (ordS L n k j) wr)
      case atStart => exact ⟨0, rfl, by omega, rfl, HT.out⟩
      case round =>
        clear HT
        obtain ⟨j, rfl, hj, rfl, A2, c2, HB, HO, hbel⟩ := hrel
        have hbw : Below w.heap.size w wr := hb0.trans (hbel.mono (by omega))
        have HMr := HM.below hbw hmb
        have hss := ordS_len (L := L) hk hj hn
        by_cases hjn : j < n
        · have hjz : (j : Int) < (n : Int) := by omega
          have hlk := HMr.look1 (x := (j : Int)) (wf_of (by omega))
          rw [Hf.out j hjn] at hlk
          by_cases hq : L (j : Int) = k + 1
          · rw [hq, show ((k + 1 : Nat) : Int) = (k : Int) + 1 by omega] at hlk
            have HB1 := veil (show Blk (wr.setCell ⟨w.heap.size + 1, k, none⟩ (.int .i64 (((selS L j k).length : Int) + 1))) (w.heap.size + 1) (tabCells (ordC L n k (j + 1)) A2 (ordS L n k j).length c2) 34 by
              have h5 := HB.set k (.int .i64 (((selS L j k).length : Int) + 1))
              rw [tab_set_count (by rw [ordC_length]; exact hlt), ← ordC_yes hlt hq] at h5
              exact h5)
            have HO1 : Owns (w.heap.size + 2) [intRow 3 .i64 (.slice A2 (ordS L n k j).length c2) (ordS L n k j)] (wr.setCell ⟨w.heap.size + 1, k, none⟩ (.int .i64 (((selS L j k).length : Int) + 1))) := HO.setCell (by simp) _
            have hb1 : Below (w.heap.size + 1) (tab0 w) (wr.setCell ⟨w.heap.size + 1, k, none⟩ (.int .i64 (((selS L j k).length : Int) + 1))) := hbel.setCell (by simp) _
            have dk := HB.cell (tab_count (A := A2) (n := (ordS L n k j).length) (c := c2) (ordC_at (L := L) (n := n) (j := j) hlt))
            have fk := HB.frozen k
            have d16 := HB.cell (tabCells_last (A := A2) (n := (ordS L n k j).length) (c := c2) (ordC_length L n k j))
            have f16 := HB.frozen 16
            have hk16 : ¬ k = 16 := by omega
            have hsl := selS_len L j k
            have HOy := veil (ordS_yes (L := L) (n := n) hq)
            have hwb := HB.lt
            have Hbel := veil hbel
            clear HB HO hq HMr hbel hbw
            generalize (selS L j k).length = q at *
            generalize ordS L n k j = ss at *
            go_wp2_with (first
              | (at_builtin; go_loud (refine wpList_ownS _ rfl (.tmp 29) (.tmp 31) _ rfl (w.heap.size + 2) 3 .i64 8 elemN (.slice A2 ss.length c2) ss [] rfl HO1 [_] (ss.length + 1) rfl (by rw [size_setCell]; rfl) (by unfold maxLen; simp; omega) (by simp; omega) ?_); intro A4 c4 w4 HO4 hb4 hz4; have HB4 := HB1.out.below hb4 (Nat.lt_succ_self _); have d16' := HB4.cell (tabCells_last (ordC_length L n k (j + 1))); have f16' := HB4.frozen 16)
              | fail)
            have HB5 : Blk (w4.setCell ⟨w.heap.size + 1, 16, none⟩ (.slice A4 (ss.length + 1) c4)) (w.heap.size + 1) (tabCells (ordC L n k (j + 1)) A4 (ss ++ [(j : Int)]).length c4) 34 := by
              have h5 := HB4.set 16 (.slice A4 (ss.length + 1) c4)
              rw [tab_set_syms (ordC_length L n k (j + 1))] at h5
              rw [List.length_append]; exact h5
            have HO5 : Owns (w.heap.size + 2) [intRow 3 .i64 (.slice A4 (ss ++ [(j : Int)]).length c4) (ss ++ [(j : Int)])] (w4.setCell ⟨w.heap.size + 1, 16, none⟩ (.slice A4 (ss.length + 1) c4)) := by
              have h5 := HO4.setCell (a := ⟨w.heap.size + 1, 16, none⟩) (by simp) (.slice A4 (ss.length + 1) c4)
              rw [List.length_append]; exact h5
            have hb5 : Below (w.heap.size + 1) (tab0 w) (w4.setCell ⟨w.heap.size + 1, 16, none⟩ (.slice A4 (ss.length + 1) c4)) := (hb1.trans (hb4.mono (by omega))).setCell (by simp) _
            go_roundg (n - (j + 1))
            case rel => exact ⟨j + 1, rfl, by omega, by go_num, A4, c4, by rw [HOy.out]; exact HB5, by rw [HOy.out]; exact HO5, hb5⟩
            case measure => omega
          · have hne : ((L (j : Int) : Int) == (k : Int) + 1) = false := by simp; omega
            have HT : Hid (TabIs w (ordC L n k (j + 1)) (ordS L n k (j + 1)) wr) := by
              rw [ordC_no hq, ordS_no hq]; exact ⟨A2, c2, HB, HO, hbel⟩
            clear HB HO hq HMr hbel hbw
            generalize L (j : Int) = q at *
            go_wp2_with fail
            go_roundg (n - (j + 1))
            case rel => exact ⟨j + 1, rfl, by omega, by go_num, HT.out⟩
            case measure => omega
        · have hjz : ¬ (j : Int) < (n : Int) := by omega
          obtain rfl : j = n := by omega
          have HT : Hid (TabIs w (ordC L j (k + 1) 0) (ordS L j (k + 1) 0) wr) := by
            rw [ordC_next, ordS_next]; exact ⟨A2, c2, HB, HO, hbel⟩
          clear HB HO HMr hbel hbw
          go_wp2_with fail
          go_roundg (16 - (k + 1))
          case rel => exact ⟨k + 1, rfl, by omega, by go_num, HT.out⟩
          case measure => omega
    · have hltz : ¬ (k : Int) < 16 := by omega
      have HK : Hid (k = 16) := by show k = 16; omega
      obtain ⟨A2, c2, HB, HO, hbel⟩ := HT.out
      have hbw : Below w.heap.size w wr := hb0.trans (hbel.mono (by omega))
      have HB0 : Blk wr w.heap.size (tabCells (List.replicate 16 0) none 0 0) 34 := (Blk.new w (tabCells (List.replicate 16 0) none 0 0) 34).below hbel (Nat.lt_succ_self _)
      rw [HK.out] at HB HO
      have hl17 := tabCells_length (A := A2) (n := (ordS L n 16 0).length) (c := c2) (ordC_length L n 16 0)
      have Hl := veil hl17
      have hone := tabCells_one (cs := ordC L n 16 0) (A := A2) (n := (ordS L n 16 0).length) (c := c2)
      have hrl : (List.replicate 16 (0 : Int)).length = 16 := by simp
      have Hl0 := veil (tabCells_length (A := none) (n := 0) (c := 0) hrl)
      clear HT hrl
      obtain ⟨xs, hxs⟩ : ∃ xs, xs = tabCells (ordC L n 16 0) A2 (ordS L n 16 0).length c2 := ⟨_, rfl⟩
      obtain ⟨x0, hx0⟩ : ∃ xs, xs = tabCells (List.replicate 16 0) none 0 0 := ⟨_, rfl⟩
      rw [← hxs] at HB hl17 Hl hone
      rw [← hx0] at HB0 Hl0
      have HX := veil hxs
      clear hxs hx0 hl17
      go_wp2_with (first
        | (refine wpList_load_mid rfl 34 (.tmp 5) rfl (w.heap.size + 1) 0 rfl xs _ HB.range Try.underlying34 rfl (by rw [Hl.out]; exact info_tab) ?_)
        | (refine wpList_store_blk wr rfl 34 (.tmp 4) (.tmp 36) rfl w.heap.size x0 xs 34 HB0 rfl rfl (by rw [Hl.out]; exact info_tab) (by rw [Hl.out, Hl0.out]) hone ?_; intro w5 HB5 hg5)
        | fail)
      refine bodyPost_ret (v := .agg xs.toArray) (results_cell_row rfl _ _ w.heap.size 34 xs.toArray (0, 0) _ rfl HB5 Try.underlying34 rfl (by simp only [List.size_toArray]; rw [Hl.out]; exact info_tab)) rfl ⟨A2, c2, by rw [HX.out], (HO.kept hg5 (by omega)).down (by omega), hbw.grown hg5 hbw.size (fun j hj => by injection hj with hj; omega)⟩
end Go.Proofs.Ytbboakdfnjjddaa

/- Tables and the lengths of their words: a table that may be leaves room; the table made of lengths has just these. -/
namespace Go.Proofs.Ytbboakdfnjjddaa
open Go.RowKit
set_option linter.unusedVariables false
set_option linter.unusedSimpArgs false
set_option maxRecDepth 100000

/-- The lengths of the words of these counts. -/
def lensFrom : Nat → List Nat → List Nat
  | _, [] => []
  | k, n :: ns => List.replicate n (k + 1) ++ lensFrom (k + 1) ns
theorem codesFrom_lens : ∀ (ns : List Nat) (k c : Nat) (l : List (Nat × Nat)), codesFrom k c ns = some l → l.map (·.1) = lensFrom k ns := by
  intro ns
  induction ns with
  | nil => intro k c l h; simp [codesFrom] at h; subst h; rfl
  | cons n ns ih =>
    intro k c l h
    unfold codesFrom at h
    split at h
    · cases hq : codesFrom (k + 1) (2 * (c + n)) ns with
      | none => simp [hq] at h
      | some m =>
        simp [hq] at h
        subst h
        rw [List.map_append, ih _ _ _ hq, lensFrom]
        congr 1
        rw [List.map_map, List.eq_replicate_iff]
        refine ⟨by simp, ?_⟩
        intro b hb
        simp at hb
        exact hb.2.symm
    · cases h
theorem roomOf_lens : ∀ (ns : List Nat) (k : Nat), roomOf k ns = sumF (lensFrom k ns) (fun n => 2 ^ (16 - n))
  | [], k => rfl
  | n :: ns, k => by
    rw [roomOf, lensFrom, sumF_append, roomOf_lens ns (k + 1)]
    congr 1
    have : sumF (List.replicate n (k + 1)) (fun n => 2 ^ (16 - n)) = n * 2 ^ (16 - (k + 1)) := by simp [sumF, List.map_replicate, List.sum_replicate_nat]
    rw [this, show 16 - (k + 1) = 15 - k by omega]
/-! ### which length a symbol has -/
theorem lenF_none {ws : List (Int × Nat × Nat)} {s : Int} (h : s ∉ ws.map (·.1)) : lenF ws s = none := by
  induction ws using snoc_ind with
  | h0 => rfl
  | h1 ws t ih =>
    rw [lenF_snoc]
    simp only [List.map_append, List.mem_append, not_or] at h
    unfold upd
    rw [if_neg (by intro e; apply h.2; simp [e]), ih h.1]
theorem lenF_mem {ws : List (Int × Nat × Nat)} (hn : (ws.map (·.1)).Nodup) {t : Int × Nat × Nat} (h : t ∈ ws) : lenF ws t.1 = some (t.2.1 : Int) := by
  induction ws using snoc_ind with
  | h0 => cases h
  | h1 ws u ih =>
    rw [lenF_snoc]
    rw [List.map_append, List.nodup_append] at hn
    unfold upd
    rcases List.mem_append.1 h with h | h
    · rw [if_neg (hn.2.2 _ (List.mem_map_of_mem h) _ (by simp)), ih hn.1 h]
    · simp at h; subst h; simp
/-- The length that a table gives a symbol; 0 if it gives none. -/
def tabL (cs syms : List Int) (s : Int) : Nat := ((lenF (outWords cs syms) s).getD 0).toNat
section
variable {cs syms zs : List Int}
theorem tab_some (hcs : cs.length = 16) (h : checkErr cs syms = 0) {s : Int} (hs : s ∈ syms) : ∃ n : Nat, lenF (outWords cs syms) s = some (n : Int) ∧ 1 ≤ n ∧ n ≤ 16 := by
  obtain ⟨l, hf, e, hl⟩ := fine_of h
  have hm : (outWords cs syms).map (·.1) = syms := by rw [e]; exact mkWords_fst hl
  rw [← hm] at hs
  obtain ⟨t, ht, rfl⟩ := List.mem_map.1 hs
  have hw := words_small hcs h t ht
  exact ⟨t.2.1, lenF_mem (by rw [hm]; exact hf.nodup) ht, hw.2.2.1, hw.2.2.2⟩
theorem tab_none (h : checkErr cs syms = 0) {s : Int} (hs : s ∉ syms) : lenF (outWords cs syms) s = none := by
  obtain ⟨l, hf, e, hl⟩ := fine_of h
  have hm : (outWords cs syms).map (·.1) = syms := by rw [e]; exact mkWords_fst hl
  exact lenF_none (by rw [hm]; exact hs)
theorem tab_lens (h : checkErr cs syms = 0) : syms.map (tabL cs syms) = lensFrom 0 (nats cs) := by
  obtain ⟨l, hf, e, hl⟩ := fine_of h
  have hm : (outWords cs syms).map (·.1) = syms := by rw [e]; exact mkWords_fst hl
  rw [← codesFrom_lens (nats cs) 0 0 l hf.code]
  apply List.ext_getElem?
  intro i
  by_cases hi : i < syms.length
  · obtain ⟨s, hs⟩ := some_at hi
    obtain ⟨p, hp⟩ := some_at (xs := l) (j := i) (by omega)
    have ht : (s, p.1, p.2) ∈ outWords cs syms := by
      rw [e]
      refine List.mem_of_getElem? (i := i) ?_
      unfold mkWords
      rw [List.getElem?_zipWith, hs, hp]
    have := lenF_mem (by rw [hm]; exact hf.nodup) ht
    rw [List.getElem?_map, List.getElem?_map, hs, hp]
    simp only [Option.map_some, tabL]
    simp only at this
    rw [this]; simp
  · rw [List.getElem?_eq_none (by simp; omega), List.getElem?_eq_none (by simp; omega)]
/-! ### what a table costs -/
theorem costSum_eq {f : Int → Option Int} (hf : ∀ s, 0 ≤ (f s).getD 0) (l : List (Int × Int)) (h : ∀ p ∈ l, 0 ≤ p.2) : costSum f l = ((sumF (l.filter fun p => decide (0 < p.2)) fun p => p.2.toNat * ((f p.1).getD 0).toNat : Nat) : Int) := by
  induction l with
  | nil => rfl
  | cons p l ih =>
    have h1 := ih fun q hq => h q (by simp [hq])
    have h2 := h p (by simp)
    have e : costSum f (p :: l) = p.2 * (f p.1).getD 0 + costSum f l := by simp [costSum]
    rw [e, h1]
    by_cases hp : 0 < p.2
    · rw [List.filter_cons_of_pos (by simpa using hp), sumF_cons, Int.natCast_add, Int.natCast_mul]
      have e1 : ((p.2.toNat : Nat) : Int) = p.2 := by omega
      have e2 : ((((f p.1).getD 0).toNat : Nat) : Int) = (f p.1).getD 0 := by have := hf p.1; omega
      rw [e1, e2]
    · rw [List.filter_cons_of_neg (by simpa using hp), show p.2 = 0 by omega]; simp
theorem cost_eq (hcs : cs.length = 16) (h : checkErr cs syms = 0) (hz : ∀ x ∈ zs, 0 ≤ x) : costSum (lenF (outWords cs syms)) (enumI zs) = (costL zs (tabL cs syms) : Int) := by
  rw [costSum_eq (fun s => (lenF_range (fun t ht => (words_small hcs h t ht).2.2.2) s).1) _ (fun p hp => by
    obtain ⟨k, _, h2⟩ := enumI_get hp; exact hz _ (List.mem_of_getElem? h2))]
  congr 1
  unfold costL used
  rw [show sumF (((enumI zs).filter fun p => decide (0 < p.2)).map (·.1)) (fun i => cntZ zs i * tabL cs syms i) = sumF ((enumI zs).filter fun p => decide (0 < p.2)) (fun p => cntZ zs p.1 * tabL cs syms p.1) by simp [sumF, List.map_map, Function.comp_def]]
  refine sumF_congr fun p hp => ?_
  obtain ⟨k, h1, h2⟩ := enumI_get (List.mem_filter.1 hp).1
  rw [h1, cntZ_at h2]; rfl
theorem miss_false (hcs : cs.length = 16) (h : checkErr cs syms = 0) : missB (lenF (outWords cs syms)) (enumI zs) = false ↔ ∀ i ∈ used zs, i ∈ syms := by
  unfold missB
  rw [List.any_eq_false]
  constructor
  · intro h1 i hi
    refine Classical.byContradiction fun hn => ?_
    obtain ⟨k, x, rfl, h2, h3⟩ := used_mem.1 hi
    exact h1 _ (List.mem_of_getElem? (enumI_at h2)) (by simp [h3, tab_none h hn])
  · intro h1 p hp hc
    simp only [Bool.and_eq_true, decide_eq_true_eq, Option.isNone_iff_eq_none] at hc
    obtain ⟨k, h2, h3⟩ := enumI_get hp
    have hu : p.1 ∈ used zs := used_mem.2 ⟨k, p.2, h2, h3, hc.1⟩
    obtain ⟨n, h4, _⟩ := tab_some hcs h (h1 _ hu)
    rw [h4] at hc; simp at hc
theorem costE_zero (hcs : cs.length = 16) : costE cs syms zs = 0 ↔ checkErr cs syms = 0 ∧ errB zs = 0 ∧ ∀ i ∈ used zs, i ∈ syms := by
  unfold costE
  by_cases h1 : checkErr cs syms = 0
  · rw [if_neg (by simp [h1])]
    by_cases h2 : errB zs = 0
    · rw [if_neg (by simp [h2])]
      cases h3 : missB (lenF (outWords cs syms)) (enumI zs) with
      | false => exact ⟨fun _ => ⟨h1, h2, (miss_false hcs h1).1 h3⟩, fun _ => rfl⟩
      | true =>
        refine ⟨fun e => absurd e (by decide), fun h => ?_⟩
        rw [(miss_false hcs h1).2 h.2.2] at h3; cases h3
    · rw [if_pos h2]; simp [h2]
  · rw [if_pos h1]; simp [h1]
theorem costV_eq (hcs : cs.length = 16) (h : costE cs syms zs = 0) : costV cs syms zs = (costL zs (tabL cs syms) : Int) := by
  obtain ⟨h1, h2, _⟩ := (costE_zero hcs).1 h
  unfold costV
  rw [if_pos h, cost_eq hcs h1 fun x hx => ((errB_ok h2).2 x hx).1]
end
/-! ### the table of given lengths -/
section
variable {L : Int → Nat} {n : Nat}
theorem mem_upTo {s : Int} : s ∈ upTo n ↔ 0 ≤ s ∧ s < n := by
  simp only [upTo, List.mem_map, List.mem_range]
  constructor
  · rintro ⟨k, hk, rfl⟩; simp; exact hk
  · intro h; exact ⟨s.toNat, by omega, by simp; omega⟩
theorem ordS_all (L : Int → Nat) (n : Nat) : ordS L n 16 0 = (List.range 16).flatMap (selS L n) := by unfold ordS; rw [selS_zero, List.append_nil]
theorem mem_sel {s : Int} {k : Nat} : s ∈ selS L n k ↔ (0 ≤ s ∧ s < n) ∧ L s = k + 1 := by
  unfold selS; rw [List.mem_filter, mem_upTo]; simp
theorem mem_ordS {s : Int} : s ∈ ordS L n 16 0 ↔ (0 ≤ s ∧ s < n) ∧ 1 ≤ L s ∧ L s ≤ 16 := by
  rw [ordS_all, List.mem_flatMap]
  constructor
  · rintro ⟨k, hk, hs⟩
    rw [mem_sel] at hs
    simp at hk
    exact ⟨hs.1, by omega, by omega⟩
  · rintro ⟨h1, h2, h3⟩
    exact ⟨L s - 1, by simp; omega, mem_sel.2 ⟨h1, by omega⟩⟩
theorem ordS_nodup (L : Int → Nat) (n : Nat) : (ordS L n 16 0).Nodup := by
  rw [ordS_all, List.nodup_iff_pairwise_ne, List.pairwise_flatMap]
  refine ⟨fun k _ => ?_, ?_⟩
  · exact List.nodup_iff_pairwise_ne.1 (List.filter_sublist.nodup (nodup_upTo n))
  · refine (List.nodup_iff_pairwise_ne.1 List.nodup_range).imp fun {a b} hab x hx y hy e => hab ?_
    subst e
    rw [mem_sel] at hx hy
    omega
theorem natsC (L : Int → Nat) (n : Nat) : nats (ordC L n 16 0) = (List.range 16).map fun i => (selS L n i).length := by
  unfold nats ordC
  rw [List.map_map]
  refine List.map_congr_left fun i hi => ?_
  simp at hi
  simp [hi]
theorem lensFrom_range (c : Nat → Nat) : ∀ (m k : Nat), lensFrom k ((List.range' k m).map c) = (List.range' k m).flatMap fun i => List.replicate (c i) (i + 1)
  | 0, k => rfl
  | m + 1, k => by
    rw [List.range'_succ, List.map_cons, lensFrom, lensFrom_range c m (k + 1)]
    rfl
theorem ordS_lens (L : Int → Nat) (n : Nat) : (ordS L n 16 0).map L = lensFrom 0 (nats (ordC L n 16 0)) := by
  rw [natsC, ordS_all, List.range_eq_range', lensFrom_range, List.map_flatMap]
  congr 1
  funext k
  rw [List.eq_replicate_iff]
  refine ⟨by simp, fun b hb => ?_⟩
  obtain ⟨s, hs, rfl⟩ := List.mem_map.1 hb
  exact (mem_sel.1 hs).2
theorem ordC_pos (L : Int → Nat) (n : Nat) : ∀ x ∈ ordC L n 16 0, 0 ≤ x ∧ x ≤ n := by
  intro x hx
  simp only [ordC, List.mem_map, List.mem_range] at hx
  obtain ⟨i, hi, rfl⟩ := hx
  rw [if_pos hi]
  have := selS_len L n i
  omega
theorem ordS_short (L : Int → Nat) (n : Nat) : (ordS L n 16 0).length ≤ n := by
  have h1 := sumF_sub (ordS_nodup L n) (m := upTo n) (fun x hx => mem_upTo.2 (mem_ordS.1 hx).1) (fun _ => 1)
  rw [sumF_const, sumF_const, upTo_length] at h1
  omega
theorem ordS_sum (L : Int → Nat) (n : Nat) : sumW (ordC L n 16 0) = ((ordS L n 16 0).length : Int) := by
  rw [← nats_sum fun x hx => (ordC_pos L n x hx).1, natsC, ordS_all, List.length_flatMap]
theorem ord_check (hn : n ≤ 256) (hr : sumF (ordS L n 16 0) (fun s => 2 ^ (16 - L s)) ≤ 65535) : checkErr (ordC L n 16 0) (ordS L n 16 0) = 0 := by
  have hs := ordS_short L n
  refine checkErr_ok ⟨fun x hx => (ordC_pos L n x hx).1, ?_, ordS_sum L n⟩ (fun s hs => ?_) ?_ (ordS_nodup L n)
  · rw [ordS_sum]; omega
  · have := (mem_ordS.1 hs).1; omega
  · rw [codes_room (by rw [nats_length, ordC_length]), roomOf_lens, ← ordS_lens]
    have : sumF ((ordS L n 16 0).map L) (fun n => 2 ^ (16 - n)) = sumF (ordS L n 16 0) (fun s => 2 ^ (16 - L s)) := by simp [sumF, List.map_map, Function.comp_def]
    omega
theorem ord_tabL (h : checkErr (ordC L n 16 0) (ordS L n 16 0) = 0) {s : Int} (hs : s ∈ ordS L n 16 0) : tabL (ordC L n 16 0) (ordS L n 16 0) s = L s := by
  have h1 := (tab_lens h).trans (ordS_lens L n).symm
  exact List.map_inj_left.1 h1 s hs
end
/-- The table that Make hands back. -/
theorem made_of {zs : List Int} (hz : errB zs = 0) {L : Int → Nat} (hL : BestL zs L) :
    (∀ s, s ∈ ordS L zs.length 16 0 ↔ s ∈ used zs) ∧ checkErr (ordC L zs.length 16 0) (ordS L zs.length 16 0) = 0 ∧ costE (ordC L zs.length 16 0) (ordS L zs.length 16 0) zs = 0 ∧ costV (ordC L zs.length 16 0) (ordS L zs.length 16 0) zs = (costL zs L : Int) ∧ ∀ s ∈ used zs, tabL (ordC L zs.length 16 0) (ordS L zs.length 16 0) s = L s := by
  have hn := (errB_ok hz).1
  have hm : ∀ s, s ∈ ordS L zs.length 16 0 ↔ s ∈ used zs := by
    intro s
    rw [mem_ordS]
    constructor
    · rintro ⟨_, h1, _⟩
      refine Classical.byContradiction fun h => ?_
      have := hL.none s h; omega
    · intro h
      have h1 := used_pos h
      exact ⟨⟨h1.1, h1.2.1⟩, hL.code.1 s h⟩
  have hc : checkErr (ordC L zs.length 16 0) (ordS L zs.length 16 0) = 0 := ord_check hn (Nat.le_trans (sumF_sub (ordS_nodup L _) (fun x hx => (hm x).1 hx) _) hL.code.2)
  have ht : ∀ s ∈ used zs, tabL (ordC L zs.length 16 0) (ordS L zs.length 16 0) s = L s := fun s hs => ord_tabL hc ((hm s).2 hs)
  have he : costE (ordC L zs.length 16 0) (ordS L zs.length 16 0) zs = 0 := (costE_zero (ordC_length _ _ _ _)).2 ⟨hc, hz, fun i hi => (hm i).2 hi⟩
  refine ⟨hm, hc, he, ?_, ht⟩
  have hl := ordC_length L zs.length 16 0
  clear hm hc
  generalize ordC L zs.length 16 0 = cs at *
  generalize ordS L zs.length 16 0 = syms at *
  rw [costV_eq hl he]
  have : costL zs (tabL cs syms) = costL zs L := by
    unfold costL
    exact sumF_congr fun i hi => by rw [ht i hi]
  rw [this]
end Go.Proofs.Ytbboakdfnjjddaa

/- best.Make: its contract. -/
namespace Go.Proofs.Ytbboakdfnjjddaa
open Go.RowKit
set_option linter.unusedVariables false
set_option linter.unusedSimpArgs false
set_option maxRecDepth 100000

theorem sing_eq (zs : List Int) : sing (backTo zs 0) = singlesOf (cntZ zs) (idxB zs) := by
  unfold sing backTo singlesOf idxB used
  rw [List.drop_zero, List.filter_reverse, List.map_cons, ← List.map_reverse, List.map_map]
  congr 1
  refine List.map_congr_left fun p hp => ?_
  obtain ⟨k, h1, h2⟩ := enumI_get (List.mem_filter.1 (List.mem_reverse.1 hp)).1
  simp only [Function.comp_apply, single1, h1, cntZ_at h2]
theorem results_cell_row_tmp {P : Program} {fn : Func} {p u : Tmp} {ty : TypeId} (h : fn.results = #[.cell p ty, .tmp u]) (tmps : Array Value) (w : World) (g : Nat) (t : TypeId) (cs : Array Value) (fr : Nat × Nat) (d : TypeDesc) (x : Value)
    (hp : tmps.getD p undef = .pointer (some ⟨g, 0, none⟩)) (hx : tmps.getD u undef = x) (hg : w.heap[g]? = some (.cells cs t fr))
    (hu : P.underlying ty = some d) (hd : (match d with | .struct _ | .array _ _ => true | _ => false) = true) (hi : (P.info? ty).map (·.size) = some cs.size) :
    (results fn tmps).run P w = .ok (.tuple #[.agg cs, x]) w := by
  rw [results_cell_tmp h, hp, hx]
  simp [asAddr, run_loadVar_row w g t ty cs fr d hg hu hd hi, Result.andThen]

theorem zeros_len : (tabCells (List.replicate 16 0) none 0 0).length = 17 := tabCells_length (by simp)
set_option maxRecDepth 100000 in
set_option maxHeartbeats 4000000 in
theorem make_err (A : Option Addr) (c G : Nat) (zs : List Int) (w : World) (hs : Seen w G A (ints .i64 zs)) (hG : G ≤ w.heap.size) (hl : zs.length ≤ maxLen) (hz : errB zs ≠ 0) :
    Calls Try.prog 73 #[.slice A zs.length c] w fun e w' => e = .returned (.tuple #[tabV (List.replicate 16 0) none 0 0, .int .i64 (errB zs)]) ∧ Below w.heap.size w w' := by
  have HC := veil (fun o => bcheck_any A c G zs (w.alloc o) (hs.alloc hG o) hl)
  have hne : (errB zs != 0) = true := by simpa using hz
  clear hz
  generalize errB zs = E at *
  go_enter Try.func73, Try.ntmps73
  go_wp2_with fail
  refine (HC.out _).mono ?_
  rintro e w' ⟨rfl, rfl⟩
  go_wp2_with fail
  refine bodyPost_ret (v := .tuple #[tabV (List.replicate 16 0) none 0 0, .int .i64 E]) (results_cell_row_tmp rfl _ _ w.heap.size 34 (tabCells (List.replicate 16 0) none 0 0).toArray (0, 0) _ _ rfl rfl (Blk.new w (tabCells (List.replicate 16 0) none 0 0) 34) Try.underlying34 rfl info_tab) rfl ⟨rfl, below1 _ _⟩

set_option maxRecDepth 100000 in
set_option maxHeartbeats 4000000 in
theorem make_ok (A : Option Addr) (c G : Nat) (zs : List Int) (w : World) (hs : Seen w G A (ints .i64 zs)) (hG : G ≤ w.heap.size) (hz : errB zs = 0) :
    Calls Try.prog 73 #[.slice A zs.length c] w fun e w' => ∃ L A' c', e = .returned (.tuple #[tabV (ordC L zs.length 16 0) A' (ordS L zs.length 16 0).length c', .int .i64 0]) ∧ BestL zs L ∧ Owns w.heap.size [intRow 3 .i64 (.slice A' (ordS L zs.length 16 0).length c') (ordS L zs.length 16 0)] w' ∧ Below w.heap.size w w' := by
  obtain ⟨h256, hzb⟩ := errB_ok hz
  have Hzb := veil hzb; clear hzb
  have hst := hs.alloc hG (.cells (tabCells (List.replicate 16 0) none 0 0).toArray 34)
  have HC := veil (bcheck_any A c G zs (tab0 w) hst (by unfold maxLen; omega))
  rw [hz] at HC
  clear hz
  have hb0 : Below w.heap.size w (tab0 w) := below1 _ _
  have hz0 := tab0_size w
  have HB0 := veil (Blk.new w (tabCells (List.replicate 16 0) none 0 0) 34)
  have HS := veil (singles_any A c G zs (tab0 w) hst (by rw [hz0]; omega) (by omega))
  have Hz0 := veil hz0
  clear hz0 hst
  go_enter Try.func73, Try.ntmps73
  go_wp2_with fail
  refine HC.out.mono ?_
  rintro e w' ⟨rfl, rfl⟩
  clear HC
  go_wp2_with fail
  refine HS.out.mono ?_
  rintro e w1 ⟨ys, rs, v, rfl, HO, hR, hb1⟩
  clear HS
  rw [sing_eq] at hR
  obtain ⟨A1, c1, e1, hs1, _, _⟩ := HO.seen List.mem_cons_self
  simp only [hRow] at e1 hs1
  subst e1
  have hyl : (idxB zs).length = ys.length := by have := hR.1; simp only [singlesOf, List.length_map] at this; exact this
  have HL := veil (lengths_any A1 c1 w1.heap.size (cntZ zs) (idxB zs) ys w1 hs1 (hR.buns HO.tail) (Nat.le_refl _) (by simp [idxB]) (by have := used_len zs; simp [idxB]; omega) (fun i _ => cntZ_max Hzb.out i) (fun i hi => by
    simp only [idxB, List.mem_cons, List.mem_reverse] at hi
    rcases hi with rfl | hi
    · exact wf_of (by omega)
    · have := used_pos hi; exact wf_of (by omega)))
  rw [hyl] at HL
  clear HO hR hs1
  have Hyl := veil hyl; clear hyl
  go_wp2_with fail
  refine HL.out.mono ?_
  rintro e w2 ⟨l, N, mb, rfl, hch, hmb, HM, hb2⟩
  rw [← Hyl.out] at HM
  have HO2 := veil (ordered_any mb zs.length N _ (lensB zs l) w2 HM (fun s hs => lensB_map hch s) h256)
  have HBest := veil (lensB_best h256 hch)
  clear HL HM hch
  generalize lensB zs l = L at *
  go_wp2_with fail
  refine HO2.out.mono ?_
  rintro e w3 ⟨A3, c3, rfl, HO3, hb3⟩
  clear HO2
  have hzz := Hz0.out
  have hz1 := hb1.size
  have hz2 := hb2.size
  have hB3 : Below (w.heap.size + 1) (tab0 w) w3 := by
    rw [← hzz]
    exact (hb1.trans (hb2.mono hz1)).trans (hb3.mono (by omega))
  have HB3 : Blk w3 w.heap.size (tabCells (List.replicate 16 0) none 0 0) 34 := HB0.out.below hB3 (Nat.lt_succ_self _)
  have hbw : Below w.heap.size w w3 := hb0.trans (hB3.mono (by omega))
  have HO4 := HO3.down (B' := w.heap.size + 1) (by omega)
  have hl17 := tabCells_length (A := A3) (n := (ordS L zs.length 16 0).length) (c := c3) (ordC_length L zs.length 16 0)
  have hone := tabCells_one (cs := ordC L zs.length 16 0) (A := A3) (n := (ordS L zs.length 16 0).length) (c := c3)
  have Hl := veil hl17
  have Hl0 := veil zeros_len
  obtain ⟨xs, hxs⟩ : ∃ xs, xs = tabCells (ordC L zs.length 16 0) A3 (ordS L zs.length 16 0).length c3 := ⟨_, rfl⟩
  obtain ⟨x0, hx0⟩ : ∃ xs, xs = tabCells (List.replicate 16 0) none 0 0 := ⟨_, rfl⟩
  unfold tabV
  rw [← hxs] at hl17 Hl hone ⊢
  rw [← hx0] at HB3 Hl0
  have HX := veil hxs
  clear hxs hx0 hl17 hb1 hb2 hb3 HO3 hB3 HB0 hz1 hz2 hzz
  go_wp2_with (first
    | (refine wpList_store_blk w3 rfl 34 (.tmp 2) (.tmp 16) rfl w.heap.size x0 xs 34 HB3 rfl rfl (by rw [Hl.out]; exact info_tab) (by rw [Hl.out, Hl0.out]) hone ?_; intro w5 HB5 hg5)
    | fail)
  refine bodyPost_ret (v := .tuple #[.agg xs.toArray, .int .i64 0]) (results_cell_row_tmp rfl _ _ w.heap.size 34 xs.toArray (0, 0) _ _ rfl rfl HB5 Try.underlying34 rfl (by simp only [List.size_toArray]; rw [Hl.out]; exact info_tab)) rfl ⟨L, A3, c3, by rw [HX.out], HBest.out, (HO4.kept hg5 (by omega)).down (by omega), hbw.grown hg5 hbw.size (fun j hj => by injection hj with hj; omega)⟩
end Go.Proofs.Ytbboakdfnjjddaa

/- best.Make: one contract for all counts. -/
namespace Go.Proofs.Ytbboakdfnjjddaa
open Go.RowKit
set_option linter.unusedVariables false
set_option linter.unusedSimpArgs false
set_option maxRecDepth 100000

/-- What Make hands back for these counts. -/
structure MadeT (zs cs syms : List Int) : Prop where
  len : cs.length = 16
  bnd : ∀ x ∈ cs, -9223372036854775808 ≤ x ∧ x ≤ 9223372036854775807
  short : syms.length ≤ 256
  ok : errB zs = 0 → (∀ s, s ∈ syms ↔ s ∈ used zs) ∧ syms.Nodup ∧ checkErr cs syms = 0 ∧ costE cs syms zs = 0 ∧ ∃ L, BestL zs L ∧ costV cs syms zs = (costL zs L : Int) ∧ ∀ s ∈ used zs, tabL cs syms s = L s
  bad : errB zs ≠ 0 → cs = List.replicate 16 0 ∧ syms = []
theorem make_any (A : Option Addr) (c G : Nat) (zs : List Int) (w : World) (hs : Seen w G A (ints .i64 zs)) (hG : G ≤ w.heap.size) (hl : zs.length ≤ maxLen) :
    Calls Try.prog 73 #[.slice A zs.length c] w fun e w' => ∃ cs syms A' c', e = .returned (.tuple #[tabV cs A' syms.length c', .int .i64 (errB zs)]) ∧ MadeT zs cs syms ∧ Owns w.heap.size [intRow 3 .i64 (.slice A' syms.length c') syms] w' ∧ Below w.heap.size w w' := by
  by_cases hz : errB zs = 0
  · refine (make_ok A c G zs w hs hG hz).mono ?_
    rintro e w' ⟨L, A', c', rfl, hL, HO, hb⟩
    obtain ⟨h1, h2, h3, h4, h5⟩ := made_of hz hL
    have hn := (errB_ok hz).1
    refine ⟨_, _, A', c', by rw [hz], ⟨ordC_length _ _ _ _, fun x hx => ?_, Nat.le_trans (ordS_short L _) hn, fun _ => ⟨h1, ordS_nodup L _, h2, h3, L, hL, h4, h5⟩, fun h => absurd hz h⟩, HO, hb⟩
    have := ordC_pos L zs.length x hx
    omega
  · refine (make_err A c G zs w hs hG hl hz).mono ?_
    rintro e w' ⟨rfl, hb⟩
    exact ⟨List.replicate 16 0, [], none, 0, rfl, ⟨by simp, fun x hx => by rw [List.eq_of_mem_replicate hx]; omega, by simp, fun h => absurd h hz, fun _ => ⟨rfl, rfl⟩⟩, (Owns.nil hb.size).fresh _ _, hb⟩
theorem MadeT.seen {zs cs syms : List Int} {A' : Option Addr} {c' B : Nat} {w : World} (HO : Owns B [intRow 3 .i64 (.slice A' syms.length c') syms] w) : Seen w w.heap.size A' (ints .i64 syms) := by
  obtain ⟨A1, c1, e, hs, _, _⟩ := HO.seen (List.mem_singleton.2 rfl)
  simp only [intRow, Value.slice.injEq] at e hs
  rw [e.1]; exact hs
end Go.Proofs.Ytbboakdfnjjddaa

/- A table made of one symbol's counts. -/
namespace Go.Proofs.Ytbboakdfnjjddaa
open Go.RowKit
set_option linter.unusedVariables false
set_option linter.unusedSimpArgs false
set_option maxRecDepth 100000

theorem lensFrom_ge : ∀ (ns : List Nat) (k x : Nat), x ∈ lensFrom k ns → k + 1 ≤ x
  | [], k, x, h => by simp [lensFrom] at h
  | n :: ns, k, x, h => by
    rw [lensFrom] at h
    rcases List.mem_append.1 h with h | h
    · have := (List.mem_replicate.1 h).2; omega
    · have := lensFrom_ge ns (k + 1) x h; omega
theorem one_words {zs cs syms : List Int} {s : Int} (h : MadeT zs cs syms) (he : errB zs = 0) (hu : used zs = [s]) (hc : cntZ zs s = 1) : syms = [s] ∧ checkErr cs syms = 0 ∧ outWords cs syms = [(s, 1, 0)] := by
  obtain ⟨h1, h2, h3, _, L, hL, _, h5⟩ := h.ok he
  have hs : syms = [s] := by
    rw [hu] at h1
    cases syms with
    | nil => have := (h1 s).2 (by simp); cases this
    | cons a l =>
      have ha := (h1 a).1 (by simp)
      have ha := List.mem_singleton.1 ha
      subst ha
      cases l with
      | nil => rfl
      | cons b l =>
        have hb := List.mem_singleton.1 ((h1 b).1 (by simp))
        subst hb
        simp at h2
  subst hs
  refine ⟨rfl, h3, ?_⟩
  have hk : CodeL zs fun _ => 1 := ⟨fun i _ => ⟨Nat.le_refl _, (by decide : 1 ≤ 16)⟩, by rw [hu]; simp [sumF]⟩
  have hl := hL.least _ hk
  have h1L := (hL.code.1 s (by rw [hu]; simp)).1
  have hL1 : L s = 1 := by
    unfold costL at hl
    rw [hu] at hl
    simp [sumF, hc] at hl
    omega
  have ht := tab_lens h3
  rw [List.map_singleton, h5 s (by rw [hu]; simp), hL1] at ht
  obtain ⟨l, hf, e, hll⟩ := fine_of h3
  rw [e]
  have hcode := hf.code
  unfold codes at hcode
  cases hn : nats cs with
  | nil => rw [hn] at ht; simp [lensFrom] at ht
  | cons n ns =>
    rw [hn] at ht hcode
    rw [lensFrom] at ht
    have hn1 : n = 1 := by
      cases n with
      | zero =>
        have : 1 ∈ lensFrom 1 ns := by
          have h9 : [1] = lensFrom 1 ns := by simpa using ht
          rw [← h9]; simp
        have := lensFrom_ge ns 1 1 this; omega
      | succ n =>
        have h9 := congrArg List.length ht
        simp at h9; omega
    subst hn1
    rw [codesFrom] at hcode
    split at hcode
    · obtain ⟨m, hm, rfl⟩ := Option.map_eq_some_iff.1 hcode
      have hml : m = [] := by
        have h9 : (([0] : List Nat).map (fun i => (0 + 1, 0 + i)) ++ m).length = 1 := by simpa using hll
        exact List.eq_nil_of_length_eq_zero (by simpa using h9)
      subst hml
      rfl
    · cases hcode
/-- The block of the closed fact. -/
def three : List Int := 3 :: List.replicate 63 0
def one2 : List Int := (List.replicate 256 0).set 2 1
def one0' : List Int := (List.replicate 256 0).set 0 1
theorem three_fc : fcL true [1] [three] 1 = one2 ∧ fcL false [1] [three] 1 = one0' := by decide +kernel
theorem three_used : used one2 = [2] ∧ used one0' = [0] ∧ cntZ one2 2 = 1 ∧ cntZ one0' 0 = 1 ∧ errB one2 = 0 ∧ errB one0' = 0 := by decide +kernel
theorem three_bits : segBits [(2, 1, 0)] [(0, 1, 0)] (toksB 0 [three]) = [false, true, true, false] := by decide +kernel
end Go.Proofs.Ytbboakdfnjjddaa

/- Two tables in one value; the reference's TablesCheck: its contract. -/
namespace Go.Proofs.Ytbboakdfnjjddaa
open Go.RowKit
set_option linter.unusedVariables false
set_option linter.unusedSimpArgs false
set_option maxRecDepth 100000

/-- Two tables' cells. -/
def tabsCells (cs : List Int) (A : Option Addr) (n c : Nat) (cs2 : List Int) (A2 : Option Addr) (n2 c2 : Nat) : List Value := tabCells cs A n c ++ tabCells cs2 A2 n2 c2
abbrev tabsV (cs : List Int) (A : Option Addr) (n c : Nat) (cs2 : List Int) (A2 : Option Addr) (n2 c2 : Nat) : Value := .agg (tabsCells cs A n c cs2 A2 n2 c2).toArray
/-- What a check of both answers. -/
def eTs (cs syms cs2 syms2 : List Int) : Int := if checkErr cs syms = 0 then checkErr cs2 syms2 else checkErr cs syms
theorem range_right {w : World} {b o : Nat} {xs ys : List Value} (h : w.rangeAt b o (xs ++ ys)) : w.rangeAt b (o + xs.length) ys := fun j v hv => by
  have := h (xs.length + j) v (by rw [List.getElem?_append_right (by omega), Nat.add_sub_cancel_left]; exact hv)
  rw [Nat.add_assoc]; exact this
end Go.Proofs.Ytbboakdfnjjddaa

/- The table that may not be. -/
namespace Go.Proofs.Ytbboakdfnjjddaa
open Go.RowKit
set_option linter.unusedVariables false
set_option linter.unusedSimpArgs false
set_option maxRecDepth 100000

def cs0 : List Int := [0, 0, 0, 0, 0, 0, 0, 0, 0, 0, 0, 0, 0, 0, 0, 0]
end Go.Proofs.Ytbboakdfnjjddaa

/- The reference's parts where every is 0: its contract; and keep.fitting over the closed block. -/
namespace Go.Proofs.Ytbboakdfnjjddaa
open Go.RowKit
set_option linter.unusedVariables false
set_option linter.unusedSimpArgs false
set_option maxRecDepth 100000

theorem sixteen {cs : List Int} (h : cs.length = 16) : ∃ a0 a1 a2 a3 a4 a5 a6 a7 a8 a9 a10 a11 a12 a13 a14 a15 : Int, cs = [a0, a1, a2, a3, a4, a5, a6, a7, a8, a9, a10, a11, a12, a13, a14, a15] := by
  match cs, h with
  | [a0, a1, a2, a3, a4, a5, a6, a7, a8, a9, a10, a11, a12, a13, a14, a15], _ => exact ⟨_, _, _, _, _, _, _, _, _, _, _, _, _, _, _, _, rfl⟩
theorem tab_lit (a0 a1 a2 a3 a4 a5 a6 a7 a8 a9 a10 a11 a12 a13 a14 a15 : Int) (A : Option Addr) (n c : Nat) : tabV [a0, a1, a2, a3, a4, a5, a6, a7, a8, a9, a10, a11, a12, a13, a14, a15] A n c = .agg #[.int .i64 a0, .int .i64 a1, .int .i64 a2, .int .i64 a3, .int .i64 a4, .int .i64 a5, .int .i64 a6, .int .i64 a7, .int .i64 a8, .int .i64 a9, .int .i64 a10, .int .i64 a11, .int .i64 a12, .int .i64 a13, .int .i64 a14, .int .i64 a15, .slice A n c] := rfl
theorem lit_one (a0 a1 a2 a3 a4 a5 a6 a7 a8 a9 a10 a11 a12 a13 a14 a15 : Int) (A : Option Addr) (n c : Nat) : ∀ u ∈ [Value.int .i64 a0, Value.int .i64 a1, Value.int .i64 a2, Value.int .i64 a3, Value.int .i64 a4, Value.int .i64 a5, Value.int .i64 a6, Value.int .i64 a7, Value.int .i64 a8, Value.int .i64 a9, Value.int .i64 a10, Value.int .i64 a11, Value.int .i64 a12, Value.int .i64 a13, Value.int .i64 a14, Value.int .i64 a15, Value.slice A n c], u.oneCell' = true := by
  intro u hu
  simp only [List.mem_cons, List.not_mem_nil, or_false] at hu
  rcases hu with rfl | rfl | rfl | rfl | rfl | rfl | rfl | rfl | rfl | rfl | rfl | rfl | rfl | rfl | rfl | rfl | rfl <;> rfl
theorem lit_one2 (a0 a1 a2 a3 a4 a5 a6 a7 a8 a9 a10 a11 a12 a13 a14 a15 b0 b1 b2 b3 b4 b5 b6 b7 b8 b9 b10 b11 b12 b13 b14 b15 : Int) (A : Option Addr) (n c : Nat) (A2 : Option Addr) (n2 c2 : Nat) : ∀ u ∈ [Value.int .i64 a0, Value.int .i64 a1, Value.int .i64 a2, Value.int .i64 a3, Value.int .i64 a4, Value.int .i64 a5, Value.int .i64 a6, Value.int .i64 a7, Value.int .i64 a8, Value.int .i64 a9, Value.int .i64 a10, Value.int .i64 a11, Value.int .i64 a12, Value.int .i64 a13, Value.int .i64 a14, Value.int .i64 a15, Value.slice A n c, Value.int .i64 b0, Value.int .i64 b1, Value.int .i64 b2, Value.int .i64 b3, Value.int .i64 b4, Value.int .i64 b5, Value.int .i64 b6, Value.int .i64 b7, Value.int .i64 b8, Value.int .i64 b9, Value.int .i64 b10, Value.int .i64 b11, Value.int .i64 b12, Value.int .i64 b13, Value.int .i64 b14, Value.int .i64 b15, Value.slice A2 n2 c2], u.oneCell' = true := by
  intro u hu
  simp only [List.mem_cons, List.not_mem_nil, or_false] at hu
  rcases hu with rfl | rfl | rfl | rfl | rfl | rfl | rfl | rfl | rfl | rfl | rfl | rfl | rfl | rfl | rfl | rfl | rfl | rfl | rfl | rfl | rfl | rfl | rfl | rfl | rfl | rfl | rfl | rfl | rfl | rfl | rfl | rfl | rfl | rfl <;> rfl
theorem parts0_any (n : Nat) (w : World) : Calls Try.prog 92 #[.int .i64 (n : Int), .int .i64 0] w fun e w' => ∃ v, e = .returned v ∧ Owns w.heap.size [intRow 3 .i64 v ([n].map Int.ofNat)] w' ∧ Below w.heap.size w w' := by
  have ho : Owns w.heap.size [intRow 3 .i64 (.slice (some ⟨w.heap.size, 0, none⟩) 1 1) ([n].map Int.ofNat)] (w.alloc (.cells #[.int .i64 (n : Int)] 3)) :=
    ⟨by simp, fun r hr => by
      rw [List.mem_singleton.1 hr]
      exact ⟨rfl, .inr ⟨w.heap.size, 1, _, rfl, Nat.le_refl _, heap_alloc_new w _, Nat.le_refl _, by unfold maxLen; decide, rfl, rfl⟩⟩, List.pairwise_singleton _ _⟩
  have Ho := veil ho
  clear ho
  go_enter Try.func92, Try.ntmps92
  go_wp2
  go_ret
  exact ⟨_, rfl, Ho.out, below1 w _⟩
set_option maxRecDepth 100000 in
set_option maxHeartbeats 4000000 in
/-- fitting tables for a list of blocks, in one segment. -/
theorem fitting0_any (L : List (List Int)) (A : Option Addr) (c G : Nat) (w : World) (hl : ∀ r ∈ L, r.length = 64) (hcap : L.length ≤ c) (h400 : L.length ≤ 400) (hin : ∀ r ∈ L, inB (-2047) 2047 r = true) (hs : Seen w G A (rowsC L)) (hG : G ≤ w.heap.size) :
    Calls Try.prog 51 #[.slice A L.length c, .int .i64 0] w fun e w' => ∃ cs syms A1 c1 cs2 syms2 A2 c2,
      e = .returned (.tuple #[tabsV cs A1 syms.length c1 cs2 A2 syms2.length c2, .bool (decide (errB (fcL true [L.length] L 1) = 0 ∧ errB (fcL false [L.length] L 1) = 0))]) ∧
        MadeT (fcL true [L.length] L 1) cs syms ∧ MadeT (fcL false [L.length] L 1) cs2 syms2 ∧ Seen w' w'.heap.size A1 (ints .i64 syms) ∧ Seen w' w'.heap.size A2 (ints .i64 syms2) ∧ Below w.heap.size w w' := by
  have HF := veil (fun W h hG => frCounts_any [L.length] 0 L A c G W hl hcap (by unfold maxLen; omega) hin h hG (fun n hn => by rw [List.mem_singleton.1 hn]; exact h400) (fun k => by
    cases k with
    | zero => simp
    | succ k => simp) (by simp) (fun W => parts0_any L.length W))
  have hl1 := fcL_length true [L.length] L 1
  have hl2 := fcL_length false [L.length] L 1
  rw [show [L.length].length = 1 from rfl] at HF
  obtain ⟨X, hX⟩ : ∃ X, X = fcL true [L.length] L 1 := ⟨_, rfl⟩
  obtain ⟨Y, hY⟩ : ∃ Y, Y = fcL false [L.length] L 1 := ⟨_, rfl⟩
  rw [← hX] at HF hl1 ⊢
  rw [← hY] at HF hl2 ⊢
  clear hX hY
  obtain ⟨bb, hbb⟩ : ∃ b, b = decide (errB X = 0 ∧ errB Y = 0) := ⟨_, rfl⟩
  rw [← hbb]
  have Hbb := veil hbb
  clear hbb
  have Hl1 := veil hl1; have Hl2 := veil hl2
  have hb0 := below1 w (.cells #[.int .i64 0, .int .i64 0, .int .i64 0, .int .i64 0, .int .i64 0, .int .i64 0, .int .i64 0, .int .i64 0, .int .i64 0, .int .i64 0, .int .i64 0, .int .i64 0, .int .i64 0, .int .i64 0, .int .i64 0, .int .i64 0, .slice none 0 0, .int .i64 0, .int .i64 0, .int .i64 0, .int .i64 0, .int .i64 0, .int .i64 0, .int .i64 0, .int .i64 0, .int .i64 0, .int .i64 0, .int .i64 0, .int .i64 0, .int .i64 0, .int .i64 0, .int .i64 0, .int .i64 0, .slice none 0 0] 36)
  have hB0 := Blk.new w [.int .i64 0, .int .i64 0, .int .i64 0, .int .i64 0, .int .i64 0, .int .i64 0, .int .i64 0, .int .i64 0, .int .i64 0, .int .i64 0, .int .i64 0, .int .i64 0, .int .i64 0, .int .i64 0, .int .i64 0, .int .i64 0, .slice none 0 0, .int .i64 0, .int .i64 0, .int .i64 0, .int .i64 0, .int .i64 0, .int .i64 0, .int .i64 0, .int .i64 0, .int .i64 0, .int .i64 0, .int .i64 0, .int .i64 0, .int .i64 0, .int .i64 0, .int .i64 0, .int .i64 0, .slice none 0 0] 36
  have hz0 : (w.alloc (.cells #[.int .i64 0, .int .i64 0, .int .i64 0, .int .i64 0, .int .i64 0, .int .i64 0, .int .i64 0, .int .i64 0, .int .i64 0, .int .i64 0, .int .i64 0, .int .i64 0, .int .i64 0, .int .i64 0, .int .i64 0, .int .i64 0, .slice none 0 0, .int .i64 0, .int .i64 0, .int .i64 0, .int .i64 0, .int .i64 0, .int .i64 0, .int .i64 0, .int .i64 0, .int .i64 0, .int .i64 0, .int .i64 0, .int .i64 0, .int .i64 0, .int .i64 0, .int .i64 0, .int .i64 0, .slice none 0 0] 36)).heap.size = w.heap.size + 1 := by simp
  have hF := HF.out _ (hs.below hb0 hG) (by rw [hz0]; omega)
  have HF2 := veil hF
  have Hs := veil hs; have HB0 := veil hB0; have Hb0 := veil hb0
  clear hF HF hl1 hl2 hs hB0 hb0
  go_enter Try.func51, Try.ntmps51
  go_wp2_with fail
  refine HF2.out.mono ?_
  rintro e w1 ⟨v1, v2, rfl, HO1, hb1⟩
  obtain ⟨A1, c1, A2, c2, rfl, rfl, s1, s2⟩ := cnt_formF HO1
  have hz1 := hb1.size
  rw [hz0] at hz1
  have hB1 := HB0.out.below hb1 (by rw [hz0]; omega)
  have hbw1 := Hb0.out.trans (hb1.mono (by rw [hz0]; omega))
  have HM1 := veil (make_any A1 c1 w1.heap.size X w1 s1 (Nat.le_refl _) (by rw [Hl1.out]; unfold maxLen; decide))
  rw [Hl1.out] at HM1 ⊢
  rw [Hl2.out]
  have HB1 := veil hB1; have Hbw1 := veil hbw1; have S2 := veil s2
  clear hB1 hbw1 s1 s2 hb1 HO1 HF2 HB0 Hb0
  go_wp2_with fail
  refine HM1.out.mono ?_
  rintro e w2 ⟨cs, syms, A3, c3, rfl, hM, HO, hb2⟩
  have hs3 := HO
  have hlen16 := hM.len
  have HMt := veil hM
  obtain ⟨a0, a1, a2, a3, a4, a5, a6, a7, a8, a9, a10, a11, a12, a13, a14, a15, rfl⟩ := sixteen hlen16
  have hz2 := hb2.size
  have HB2 := veil (HB1.out.below hb2 (by omega)); have Hbw2 := veil (Hbw1.out.trans (hb2.mono (by omega))); have S2b := veil (S2.out.below hb2 (Nat.le_refl _)); have S3 := veil hs3
  clear HO hM hs3 hlen16 hb2 HB1 Hbw1 S2 HM1
  rw [tab_lit]
  have hb3 := below1 w2 (.cells #[.int .i64 a0, .int .i64 a1, .int .i64 a2, .int .i64 a3, .int .i64 a4, .int .i64 a5, .int .i64 a6, .int .i64 a7, .int .i64 a8, .int .i64 a9, .int .i64 a10, .int .i64 a11, .int .i64 a12, .int .i64 a13, .int .i64 a14, .int .i64 a15, .slice A3 syms.length c3] 34)
  have hB3 := Blk.new w2 [.int .i64 a0, .int .i64 a1, .int .i64 a2, .int .i64 a3, .int .i64 a4, .int .i64 a5, .int .i64 a6, .int .i64 a7, .int .i64 a8, .int .i64 a9, .int .i64 a10, .int .i64 a11, .int .i64 a12, .int .i64 a13, .int .i64 a14, .int .i64 a15, .slice A3 syms.length c3] 34
  have hz3 : (w2.alloc (.cells #[.int .i64 a0, .int .i64 a1, .int .i64 a2, .int .i64 a3, .int .i64 a4, .int .i64 a5, .int .i64 a6, .int .i64 a7, .int .i64 a8, .int .i64 a9, .int .i64 a10, .int .i64 a11, .int .i64 a12, .int .i64 a13, .int .i64 a14, .int .i64 a15, .slice A3 syms.length c3] 34)).heap.size = w2.heap.size + 1 := by simp
  have hone := lit_one a0 a1 a2 a3 a4 a5 a6 a7 a8 a9 a10 a11 a12 a13 a14 a15 A3 syms.length c3
  have HM2 := veil (make_any A2 c2 w2.heap.size Y _ ((S2b.out.up hz2).below hb3 (Nat.le_refl _)) (by rw [hz3]; omega) (by rw [Hl2.out]; unfold maxLen; decide))
  rw [Hl2.out] at HM2
  have HB3 := veil (HB2.out.below hb3 (by omega)); have HC3 := veil hB3; have Hbw3 := veil (Hbw2.out.trans (hb3.mono (by omega))); have S3b := veil (S3.out.below hb3)
  clear hb3 hB3 HB2 Hbw2 S3 S2b
  go_wp2_with (first
    | (refine wpList_store_new w2 rfl 34 (.tmp 8) (.tmp 21) rfl _ [.int .i64 a0, .int .i64 a1, .int .i64 a2, .int .i64 a3, .int .i64 a4, .int .i64 a5, .int .i64 a6, .int .i64 a7, .int .i64 a8, .int .i64 a9, .int .i64 a10, .int .i64 a11, .int .i64 a12, .int .i64 a13, .int .i64 a14, .int .i64 a15, .slice A3 syms.length c3] rfl rfl info_tab rfl hone ?_)
    | fail)
  refine HM2.out.mono ?_
  rintro e w4 ⟨cs2, syms2, A4, c4, rfl, hM4, HO4, hb4⟩
  have hs4 := HO4
  have hlen16 := hM4.len
  have HMt4 := veil hM4
  obtain ⟨b0, b1, b2, b3, b4, b5, b6, b7, b8, b9, b10, b11, b12, b13, b14, b15, rfl⟩ := sixteen hlen16
  have hz4 := hb4.size
  have hz3' := hz3
  have hb4' := hb4
  rw [hz3] at hz4 hb4
  have HB4 := veil (HB3.out.below hb4 (by omega)); have HC4 := veil (HC3.out.below hb4 (by omega)); have Hbw4 := veil (Hbw3.out.trans (hb4.mono (by omega))); have S3c := veil (S3b.out.below hb4'); have S4 := veil hs4
  clear HO4 hM4 hs4 hlen16 hb4 hb4' HB3 HC3 Hbw3 S3b HM2 hone hz3
  rw [tab_lit]
  have hb5 := below1 w4 (.cells #[.int .i64 b0, .int .i64 b1, .int .i64 b2, .int .i64 b3, .int .i64 b4, .int .i64 b5, .int .i64 b6, .int .i64 b7, .int .i64 b8, .int .i64 b9, .int .i64 b10, .int .i64 b11, .int .i64 b12, .int .i64 b13, .int .i64 b14, .int .i64 b15, .slice A4 syms2.length c4] 34)
  have hD5 := Blk.new w4 [.int .i64 b0, .int .i64 b1, .int .i64 b2, .int .i64 b3, .int .i64 b4, .int .i64 b5, .int .i64 b6, .int .i64 b7, .int .i64 b8, .int .i64 b9, .int .i64 b10, .int .i64 b11, .int .i64 b12, .int .i64 b13, .int .i64 b14, .int .i64 b15, .slice A4 syms2.length c4] 34
  have hz5 : (w4.alloc (.cells #[.int .i64 b0, .int .i64 b1, .int .i64 b2, .int .i64 b3, .int .i64 b4, .int .i64 b5, .int .i64 b6, .int .i64 b7, .int .i64 b8, .int .i64 b9, .int .i64 b10, .int .i64 b11, .int .i64 b12, .int .i64 b13, .int .i64 b14, .int .i64 b15, .slice A4 syms2.length c4] 34)).heap.size = w4.heap.size + 1 := by simp
  have hone := lit_one b0 b1 b2 b3 b4 b5 b6 b7 b8 b9 b10 b11 b12 b13 b14 b15 A4 syms2.length c4
  have hB5 := HB4.out.below hb5 (by omega)
  have hC5 := HC4.out.below hb5 (by omega)
  have hbw5 := Hbw4.out.trans (hb5.mono (by omega))
  have S3d := veil (S3c.out.below hb5); have S4d := veil (S4.out.below hb5)
  have hone2 := lit_one2 a0 a1 a2 a3 a4 a5 a6 a7 a8 a9 a10 a11 a12 a13 a14 a15 b0 b1 b2 b3 b4 b5 b6 b7 b8 b9 b10 b11 b12 b13 b14 b15 A3 syms.length c3 A4 syms2.length c4
  have hi34 : (Try.prog.info? 36).map (·.size) = some 34 := by kernel_rfl
  have hrC := hC5.range
  have hrD := hD5.range
  clear HB4 HC4 Hbw4 S3c S4 hb5
  go_wp2_with (first
    | (refine wpList_store_new w4 rfl 34 (.tmp 10) (.tmp 26) rfl _ [.int .i64 b0, .int .i64 b1, .int .i64 b2, .int .i64 b3, .int .i64 b4, .int .i64 b5, .int .i64 b6, .int .i64 b7, .int .i64 b8, .int .i64 b9, .int .i64 b10, .int .i64 b11, .int .i64 b12, .int .i64 b13, .int .i64 b14, .int .i64 b15, .slice A4 syms2.length c4] rfl rfl info_tab rfl hone ?_)
    | (refine wpList_load_mid rfl 34 (.tmp 8) rfl w2.heap.size 0 rfl [.int .i64 a0, .int .i64 a1, .int .i64 a2, .int .i64 a3, .int .i64 a4, .int .i64 a5, .int .i64 a6, .int .i64 a7, .int .i64 a8, .int .i64 a9, .int .i64 a10, .int .i64 a11, .int .i64 a12, .int .i64 a13, .int .i64 a14, .int .i64 a15, .slice A3 syms.length c3] _ hrC Try.underlying34 rfl info_tab ?_)
    | (refine wpList_load_mid rfl 34 (.tmp 10) rfl w4.heap.size 0 rfl [.int .i64 b0, .int .i64 b1, .int .i64 b2, .int .i64 b3, .int .i64 b4, .int .i64 b5, .int .i64 b6, .int .i64 b7, .int .i64 b8, .int .i64 b9, .int .i64 b10, .int .i64 b11, .int .i64 b12, .int .i64 b13, .int .i64 b14, .int .i64 b15, .slice A4 syms2.length c4] _ hrD Try.underlying34 rfl info_tab ?_)
    | (refine wpList_store_blk _ rfl 36 (.tmp 4) (.tmp 30) rfl w.heap.size [.int .i64 0, .int .i64 0, .int .i64 0, .int .i64 0, .int .i64 0, .int .i64 0, .int .i64 0, .int .i64 0, .int .i64 0, .int .i64 0, .int .i64 0, .int .i64 0, .int .i64 0, .int .i64 0, .int .i64 0, .int .i64 0, .slice none 0 0, .int .i64 0, .int .i64 0, .int .i64 0, .int .i64 0, .int .i64 0, .int .i64 0, .int .i64 0, .int .i64 0, .int .i64 0, .int .i64 0, .int .i64 0, .int .i64 0, .int .i64 0, .int .i64 0, .int .i64 0, .int .i64 0, .slice none 0 0] [.int .i64 a0, .int .i64 a1, .int .i64 a2, .int .i64 a3, .int .i64 a4, .int .i64 a5, .int .i64 a6, .int .i64 a7, .int .i64 a8, .int .i64 a9, .int .i64 a10, .int .i64 a11, .int .i64 a12, .int .i64 a13, .int .i64 a14, .int .i64 a15, .slice A3 syms.length c3, .int .i64 b0, .int .i64 b1, .int .i64 b2, .int .i64 b3, .int .i64 b4, .int .i64 b5, .int .i64 b6, .int .i64 b7, .int .i64 b8, .int .i64 b9, .int .i64 b10, .int .i64 b11, .int .i64 b12, .int .i64 b13, .int .i64 b14, .int .i64 b15, .slice A4 syms2.length c4] 36 hB5 rfl rfl hi34 rfl hone2 ?_; intro w6 hB6 hg6)
    | fail)
  all_goals
    have hw6 := hg6.size
    have t3 := S3d.out.kept hg6 (by omega)
    have t4 := S4d.out.kept hg6 (by rw [hz3']; omega)
    have hB7 : Blk w6 w.heap.size (tabsCells [a0, a1, a2, a3, a4, a5, a6, a7, a8, a9, a10, a11, a12, a13, a14, a15] A3 syms.length c3 [b0, b1, b2, b3, b4, b5, b6, b7, b8, b9, b10, b11, b12, b13, b14, b15] A4 syms2.length c4) 36 := hB6
    refine bodyPost_ret (v := .tuple #[tabsV [a0, a1, a2, a3, a4, a5, a6, a7, a8, a9, a10, a11, a12, a13, a14, a15] A3 syms.length c3 [b0, b1, b2, b3, b4, b5, b6, b7, b8, b9, b10, b11, b12, b13, b14, b15] A4 syms2.length c4, .bool bb]) (results_row_tmp rfl _ _ w.heap.size 36 (tabsCells [a0, a1, a2, a3, a4, a5, a6, a7, a8, a9, a10, a11, a12, a13, a14, a15] A3 syms.length c3 [b0, b1, b2, b3, b4, b5, b6, b7, b8, b9, b10, b11, b12, b13, b14, b15] A4 syms2.length c4).toArray (0, 0) _ _ rfl (by rename_i h0; show Value.bool _ = Value.bool bb; rw [Hbb.out]; first | (simp [h0]; done) | (simp [h0]; rfl)) hB7 Try.underlying36 rfl hi34) rfl ⟨[a0, a1, a2, a3, a4, a5, a6, a7, a8, a9, a10, a11, a12, a13, a14, a15], syms, A3, c3, [b0, b1, b2, b3, b4, b5, b6, b7, b8, b9, b10, b11, b12, b13, b14, b15], syms2, A4, ⟨c4, rfl⟩, HMt.out, HMt4.out, MadeT.seen (zs := X) (cs := []) t3, MadeT.seen (zs := Y) (cs := []) t4, hbw5.grown hg6 hbw5.size (fun j hj => by injection hj with hj; omega)⟩
end Go.Proofs.Ytbboakdfnjjddaa

/- Appends onto rows of the call's own: which block the new slice lies in. No program is named here. -/
namespace Go.Proofs.Ytbboakdfnjjddaa
open Go.RowKit
set_option linter.unusedVariables false
set_option linter.unusedSimpArgs false
set_option maxRecDepth 100000

/-- append of what is seen onto the first of the rows. -/
theorem run_ownV2 {P : Program} (w : World) (B : Nat) (t ty e : TypeId) (size bytes : Nat) (he : ElemOf P t e size bytes)
    (v : Value) (n : Nat) (xs : List Value) (rs : List Row) (HO : Owns B (⟨e, size, v, n, xs⟩ :: rs) w) (G : Nat) (A : Option Addr) (m c : Nat) (news : List Value) (hsee : Seen w G A news) (hl : news.length = m * size) (h1 : ∀ u ∈ news, u.oneCell' = true)
    (h63 : n + m ≤ maxLen) (hbytes : (n + m) * bytes ≤ 140737488355328) :
    ∃ v' w', (Builtin.append_ #[t, t] ty #[v, .slice A m c]).run P w = .ok v' w' ∧ Owns B (⟨e, size, v', n + m, xs ++ news⟩ :: rs) w' ∧ w.grownBy w' v.ownBlock ∧ Below B w w' ∧ (v'.ownBlock = v.ownBlock ∨ v'.ownBlock = some w.heap.size) := by
  have hown := HO.head
  have hB := HO.base
  have hap := (List.pairwise_cons.1 HO.apart).1
  obtain ⟨ht, hp, i, z, hi, hz0, hz1, hz2, hzs⟩ := he
  have fin : ∀ v' w', w'.ownsRow B e size v' (n + m) (xs ++ news) → w.grownBy w' v.ownBlock → (v'.ownBlock = v.ownBlock ∨ v'.ownBlock = some w.heap.size) → Owns B (⟨e, size, v', n + m, xs ++ news⟩ :: rs) w' ∧ w.grownBy w' v.ownBlock ∧ Below B w w' ∧ (v'.ownBlock = v.ownBlock ∨ v'.ownBlock = some w.heap.size) := by
    intro v' w' h2 h3 h4
    refine ⟨⟨Nat.le_trans hB h3.size, fun x hx => ?_, List.pairwise_cons.2 ⟨fun s hs g hg => ?_, HO.tail.apart⟩⟩, h3, (Below.refl _ _).grown h3 hB fun k hk => (hown.lt k hk).1, h4⟩
    · rcases List.mem_cons.1 hx with rfl | hx
      · exact h2
      · refine (HO.tail.each x hx).kept h3 ?_
        cases hv : x.v.ownBlock with
        | none => exact .inl rfl
        | some g => exact .inr fun e => hap x hx g e.symm hv
    · simp only at hg
      rcases h4 with h4 | h4
      · exact hap s hs g (h4.symm.trans hg)
      · rw [h4] at hg
        injection hg with hg
        intro hsg
        have := ((HO.tail.each s hs).lt g hsg).2
        omega
  rcases A with _ | ad
  · have hnews : news = [] := by
      rcases hsee with h | ⟨g, o, h, _⟩
      · exact h
      · cases h
    subst hnews
    have hm : m = 0 := by
      rcases Nat.eq_zero_or_pos m with h | h
      · exact h
      · have : 0 < m * size := Nat.mul_pos h hp
        simp at hl; omega
    subst hm
    refine ⟨v, w, ?_, fin v w (by simpa using hown) (World.grownBy.refl w _) (.inl rfl)⟩
    rcases hown.2 with ⟨h5, h6⟩ | ⟨g, cap, cur, h5, _, _, hnc, _⟩
    · simp only at h5 h6
      subst h5 h6
      simp [Builtin.append_, run_underlying ht, sizeOf, typeInfo, hi, Builtin.lenOf, Builtin.firstCells]
    · simp only at h5 hnc
      subst h5
      simp [Builtin.append_, run_underlying ht, sizeOf, typeInfo, hi, Builtin.lenOf, Builtin.firstCells, hnc, storeCells]
  · have hc : ∀ j u, news[j]? = some u → w.cell? (ad.add j) = some u := by
      rcases hsee with h | ⟨g, o, h, _, hc⟩
      · subst h; intro j u hu; simp at hu
      · injection h with h
        subst h
        intro j u hu
        rw [addr_add]
        exact hc j u hu
    obtain ⟨v', w', hr, h2, h3, _, h4⟩ := run_append_own_at (P := P) w B t ty e i z size bytes ht hi hz0 hz1 hz2 hzs hp v n xs hown ad m c news hl hc h1 h63 hbytes hB
    exact ⟨v', w', hr, fin v' w' h2 h3 h4⟩
theorem wp_ownV2 {P : Program} {o : Oper} {a : Act} {K : Act → World → Prop} {Q : Exit → Act → World → Prop} (w : World) (s x : Operand) (t : TypeId)
    (ho : o.op = .call { callee := .builtin .append, args := #[s, x], argTypes := #[t, t] })
    (B : Nat) (e : TypeId) (size bytes : Nat) (he : ElemOf P t e size bytes)
    (v : Value) (n : Nat) (xs : List Value) (rs : List Row) (hs : a.eval s = v) (HO : Owns B (⟨e, size, v, n, xs⟩ :: rs) w) (G : Nat) (A : Option Addr) (m c : Nat) (news : List Value) (hx : a.eval x = .slice A m c) (hsee : Seen w G A news) (hl : news.length = m * size) (h1 : ∀ u ∈ news, u.oneCell' = true)
    (h63 : n + m ≤ maxLen) (hbytes : (n + m) * bytes ≤ 140737488355328)
    (h : ∀ v' w', Owns B (⟨e, size, v', n + m, xs ++ news⟩ :: rs) w' → w.grownBy w' v.ownBlock → Below B w w' → (v'.ownBlock = v.ownBlock ∨ v'.ownBlock = some w.heap.size) → K (a.put o.dst v') w') : o.wp P a w K Q := by
  obtain ⟨v', w', hr, h2, h3, h4, h5⟩ := run_ownV2 (P := P) w B t o.type e size bytes he v n xs rs HO G A m c news hsee hl h1 h63 hbytes
  unfold Oper.wp execOp
  simp only [ho, resolve, invoke, builtin, Sem.run_bind, Sem.run_pure, Result.andThen_ok, List.map_toArray, List.map_cons, List.map_nil, hs, hx, hr]
  exact h v' w' h2 h3 h4 h5
/-- In a region: append of what is seen. -/
theorem step_ownV2 {P : Program} {ops : Array Oper} {o : Oper} {a : Act} {K : Act → World → Prop} {Q : Exit → Act → World → Prop} {E : Prop} (w : World) (hgd : Region.wanted o (yielded ops a.tmps) = true) (s x : Operand) (t : TypeId)
    (ho : o.op = .call { callee := .builtin .append, args := #[s, x], argTypes := #[t, t] })
    (B : Nat) (e : TypeId) (size bytes : Nat) (he : ElemOf P t e size bytes)
    (v : Value) (n : Nat) (xs : List Value) (rs : List Row) (hs : a.eval s = v) (HO : Owns B (⟨e, size, v, n, xs⟩ :: rs) w) (G : Nat) (A : Option Addr) (m c : Nat) (news : List Value) (hx : a.eval x = .slice A m c) (hsee : Seen w G A news) (hl : news.length = m * size) (h1 : ∀ u ∈ news, u.oneCell' = true)
    (h63 : n + m ≤ maxLen) (hbytes : (n + m) * bytes ≤ 140737488355328)
    (h : ∀ v' w', Owns B (⟨e, size, v', n + m, xs ++ news⟩ :: rs) w' → w.grownBy w' v.ownBlock → Below B w w' → (v'.ownBlock = v.ownBlock ∨ v'.ownBlock = some w.heap.size) → K (a.put o.dst v') w') :
    if Region.wanted o (yielded ops a.tmps) = true then Oper.wp P o a w K Q else E := by
  rw [if_pos hgd]
  exact wp_ownV2 w s x t ho B e size bytes he v n xs rs hs HO G A m c news hx hsee hl h1 h63 hbytes h
end Go.Proofs.Ytbboakdfnjjddaa

/- Parts of a slice of bytes. -/
namespace Go.Proofs.Ytbboakdfnjjddaa
open Go.RowKit
set_option linter.unusedVariables false
set_option linter.unusedSimpArgs false
set_option maxRecDepth 100000

theorem run_cutB_to (A : Option Addr) (n c h : Nat) (h2 : h ≤ c) (u : World) : (Instr.sliceAt 37 (.slice A n c) none (some (.int .i64 (h : Int))) none).run Try.prog u = .ok (.slice A h c) u := by
  have he : Try.prog.underlying 37 = some (.slice (Try.prog.elem 37)) := by kernel_rfl
  have hz : (sizeOf (Try.prog.elem 37)).run Try.prog u = .ok 1 u := by kernel_rfl
  rw [run_sliceAt_slice _ _ _ _ _ _ he, run_slice_h _ _ _ _ _ he _ _ (by omega) (by omega), hz]
  simp [Result.andThen, sliced]
  intro _
  cases A with
  | none => rfl
  | some a => simp [Addr.add]
theorem run_cutB_end (A : Option Addr) (n c f : Nat) (h1 : f ≤ n) (u : World) : (Instr.sliceAt 37 (.slice A n c) (some (.int .i64 (f : Int))) none none).run Try.prog u = .ok (cutV A f n c) u := by
  have he : Try.prog.underlying 37 = some (.slice (Try.prog.elem 37)) := by kernel_rfl
  have hz : (sizeOf (Try.prog.elem 37)).run Try.prog u = .ok 1 u := by kernel_rfl
  rw [run_sliceAt_slice _ _ _ _ _ _ he, run_slice_l _ _ _ _ _ he _ _ (by omega) (by omega), hz]
  simp [Result.andThen, sliced, cutV]
theorem cutB_drop {w : World} {G c f : Nat} {A : Option Addr} {bs : List Int} (hs : Seen w G A (ints .u8 bs)) (hf : f ≤ bs.length) (hc : bs.length ≤ c) :
    ∃ A', cutV A f bs.length c = .slice A' (bs.drop f).length (c - f) ∧ Seen w G A' (ints .u8 (bs.drop f)) := by
  obtain ⟨A', h1, h2⟩ := cutV_seen hs hf (Nat.le_refl _) hc
  refine ⟨A', by rw [h1, List.length_drop], ?_⟩
  rwa [List.take_of_length_le (by simp)] at h2
theorem unpack_drop (bs : List Int) (q : Nat) : unpack (bs.drop q) = (unpack bs).drop (8 * q) := by
  by_cases h : q ≤ bs.length
  · have e := unpack_append (bs.take q) (bs.drop q)
    rw [List.take_append_drop] at e
    rw [e, List.drop_left' (by rw [unpack_length, List.length_take]; omega)]
  · rw [List.drop_of_length_le (by omega), unpack_nil, List.drop_of_length_le (by rw [unpack_length]; omega)]
theorem unpack_take (bs : List Int) (q : Nat) : unpack (bs.take q) = (unpack bs).take (8 * q) := by
  by_cases h : q ≤ bs.length
  · have e := unpack_append (bs.take q) (bs.drop q)
    rw [List.take_append_drop] at e
    rw [e, List.take_left' (by rw [unpack_length, List.length_take]; omega)]
  · rw [List.take_of_length_le (by omega), List.take_of_length_le (by rw [unpack_length]; omega)]
end Go.Proofs.Ytbboakdfnjjddaa
