/- Texts shared by the claims of this seat, in one. -/
import Derived.Test.YtddkhkpdbjjboaaBd2
import Derived.Test.YtddkhkpdbjjboaaBd1
import Derived.Test.YtddkhkpdbjjboaaBd15
import Derived.Test.YtddkhkpdbjjboaaBd13
import Derived.Test.YtddkhkpdbjjboaaBd14
import Derived.Test.YtddkhkpdbjjboaaBd12
import Derived.Test.YtddkhkpdbjjboaaBd4
import Derived.Test.YtddkhkpdbjjboaaBd8
import Derived.Laws.MakeOwn
import Derived.Deep.DeepCutAuto
/- Cells of a table, written. -/
namespace Go.Proofs.Ytddkhkpdbjjboaa
open Go.RowKit
set_option linter.unusedVariables false
set_option linter.unusedSimpArgs false
set_option maxRecDepth 100000

def upTo (n : Nat) : List Int := (List.range n).map Int.ofNat
theorem upTo_length (n : Nat) : (upTo n).length = n := by simp [upTo]
theorem upTo_succ (n : Nat) : upTo (n + 1) = upTo n ++ [(n : Int)] := by simp [upTo, List.range_succ]
theorem tab_set_count {cs : List Int} {A : Option Addr} {n c k : Nat} {x : Int} (hk : k < cs.length) : (tabCells cs A n c).set k (.int .i64 x) = tabCells (cs.set k x) A n c := by
  unfold tabCells
  rw [List.set_append_left _ _ (by rw [ints_length]; exact hk)]
  simp [ints, List.map_set]
theorem tab_set_syms {cs : List Int} {A A' : Option Addr} {n n' c c' : Nat} (h : cs.length = 16) : (tabCells cs A n c).set 16 (.slice A' n' c') = tabCells cs A' n' c' := by
  unfold tabCells; rw [List.set_append_right _ _ (by rw [ints_length]; omega), ints_length, h]; rfl
theorem tab_count {cs : List Int} {A : Option Addr} {n c k : Nat} {x : Int} (h : cs[k]? = some x) : (tabCells cs A n c)[k]? = some (.int .i64 x) := by
  unfold tabCells
  rw [List.getElem?_append_left (by rw [ints_length]; exact (List.getElem?_eq_some_iff.1 h).1)]
  exact ints_at h
end Go.Proofs.Ytddkhkpdbjjboaa

/- best.ordered: its contract. -/
namespace Go.Proofs.Ytddkhkpdbjjboaa
open Go.RowKit
set_option linter.unusedVariables false
set_option linter.unusedSimpArgs false
set_option maxRecDepth 100000

/-- The symbols below j whose length is i + 1. -/
def selS (L : Int → Nat) (j i : Nat) : List Int := (upTo j).filter fun s => L s == i + 1
/-- The symbols in the table's order: k lengths are over, j symbols of the next. -/
def ordS (L : Int → Nat) (n k j : Nat) : List Int := (List.range k).flatMap (selS L n) ++ selS L j k
/-- The counts. -/
def ordC (L : Int → Nat) (n k j : Nat) : List Int := (List.range 16).map fun i => if i < k then ((selS L n i).length : Int) else if i = k then ((selS L j i).length : Int) else 0
section
variable {L : Int → Nat} {n k j : Nat}
theorem selS_zero (L : Int → Nat) (i : Nat) : selS L 0 i = [] := rfl
theorem selS_yes (h : L (j : Int) = k + 1) : selS L (j + 1) k = selS L j k ++ [(j : Int)] := by
  unfold selS; rw [upTo_succ, List.filter_append]; simp [h]
theorem selS_no (h : L (j : Int) ≠ k + 1) : selS L (j + 1) k = selS L j k := by
  unfold selS; rw [upTo_succ, List.filter_append]; simp [h]
theorem selS_len (L : Int → Nat) (j i : Nat) : (selS L j i).length ≤ j := by
  unfold selS; have := List.length_filter_le (fun s => L s == i + 1) (upTo j); rw [upTo_length] at this; exact this
theorem ordS_yes (h : L (j : Int) = k + 1) : ordS L n k (j + 1) = ordS L n k j ++ [(j : Int)] := by
  unfold ordS; rw [selS_yes h, List.append_assoc]
theorem ordS_no (h : L (j : Int) ≠ k + 1) : ordS L n k (j + 1) = ordS L n k j := by
  unfold ordS; rw [selS_no h]
theorem ordS_next : ordS L n (k + 1) 0 = ordS L n k n := by
  unfold ordS; rw [List.range_succ, List.flatMap_append, selS_zero]; simp
theorem ordC_next : ordC L n (k + 1) 0 = ordC L n k n := by
  unfold ordC
  refine List.map_congr_left fun i _ => ?_
  rw [selS_zero]
  by_cases h1 : i < k
  · rw [if_pos (by omega), if_pos h1]
  · by_cases h2 : i = k
    · subst h2; rw [if_pos (by omega), if_neg (by omega), if_pos rfl]
    · rw [if_neg (by omega), if_neg h1, if_neg h2]; split <;> rfl
theorem ordC_length (L : Int → Nat) (n k j : Nat) : (ordC L n k j).length = 16 := by simp [ordC]
theorem ordC_at (h : k < 16) : (ordC L n k j)[k]? = some ((selS L j k).length : Int) := by
  unfold ordC; simp [h]
theorem ordC_no (h : L (j : Int) ≠ k + 1) : ordC L n k (j + 1) = ordC L n k j := by
  unfold ordC
  refine List.map_congr_left fun i _ => ?_
  by_cases h2 : i = k
  · subst h2; rw [selS_no h]
  · rw [if_neg h2, if_neg h2]
theorem ordC_yes (hk : k < 16) (h : L (j : Int) = k + 1) : ordC L n k (j + 1) = (ordC L n k j).set k (((selS L j k).length : Int) + 1) := by
  apply List.ext_getElem?
  intro i
  rw [List.getElem?_set]
  by_cases e : k = i
  · subst e
    rw [if_pos rfl, ordC_at hk, selS_yes h, if_pos (by rw [ordC_length]; exact hk)]
    simp
  · rw [if_neg e]
    unfold ordC
    simp only [List.getElem?_map]
    by_cases hi : i < 16
    · simp [hi, show ¬ i = k from fun h => e h.symm]
    · simp [hi]
theorem flatMap_len {α β : Type} (l : List α) (f : α → List β) (m : Nat) (h : ∀ x ∈ l, (f x).length ≤ m) : (l.flatMap f).length ≤ m * l.length := by
  induction l with
  | nil => simp
  | cons a l ih =>
    have h1 := h a (by simp)
    have h2 := ih fun x hx => h x (by simp [hx])
    simp only [List.flatMap_cons, List.length_append, List.length_cons, Nat.mul_add]; omega
theorem ordS_len (hk : k ≤ 16) (hj : j ≤ n) (hn : n ≤ 256) : (ordS L n k j).length ≤ 8192 := by
  unfold ordS
  have h1 := flatMap_len (List.range k) (selS L n) n fun i _ => selS_len L n i
  have h2 := selS_len L j k
  rw [List.length_range] at h1
  have h3 : n * k ≤ 256 * 16 := Nat.mul_le_mul hn hk
  rw [List.length_append]; omega
end
theorem size_setCell (w : World) (a : Addr) (v : Value) : (w.setCell a v).heap.size = w.heap.size := by simp [World.setCell]
theorem ordC_zero (L : Int → Nat) (n : Nat) : ordC L n 0 0 = List.replicate 16 0 := by
  unfold ordC
  apply List.ext_getElem?
  intro i
  by_cases hi : i < 16
  · simp only [List.getElem?_map, List.getElem?_range hi, List.getElem?_replicate, if_pos hi, Option.map_some, selS_zero]; simp
  · simp [hi]
theorem ordS_zero (L : Int → Nat) (n : Nat) : ordS L n 0 0 = [] := by simp [ordS, selS_zero]
def tab0 (w : World) : World := w.alloc (.cells (tabCells (List.replicate 16 0) none 0 0).toArray 25)
theorem tab0_size (w : World) : (tab0 w).heap.size = w.heap.size + 1 := by simp [tab0]
/-- What both loops hold. -/
def TabIs (W : World) (cs ss : List Int) (w : World) : Prop :=
  ∃ A c, Blk w (W.heap.size + 1) (tabCells cs A ss.length c) 25 ∧ Owns (W.heap.size + 2) [intRow 3 .i64 (.slice A ss.length c) ss] w ∧ Below (W.heap.size + 1) (tab0 W) w

set_option maxHeartbeats 4000000 in
set_option maxRecDepth 100000 in
theorem ordered_any (mb n N : Nat) (f : Int → Option Int) (L : Int → Nat) (w : World) (HM : MapN w mb N f) (hf : ∀ s : Nat, s < n → (f (s : Int)).getD 0 = (L (s : Int) : Int)) (hn : n ≤ 256) :
    Calls Try.prog 56 #[.map (some mb), .int .i64 n] w fun e w' => ∃ A c, e = .returned (tabV (ordC L n 16 0) A (ordS L n 16 0).length c) ∧ Owns w.heap.size [intRow 3 .i64 (.slice A (ordS L n 16 0).length c) (ordS L n 16 0)] w' ∧ Below w.heap.size w w' := by
  have Hf := veil hf; clear hf
  have hmb := HM.lt
  have hb0 : Below w.heap.size w (tab0 w) := below1 _ _
  have hst : TabIs w (ordC L n 0 0) (ordS L n 0 0) ((tab0 w).alloc (.cells (tabCells (List.replicate 16 0) none 0 0).toArray 25)) := by
    rw [ordC_zero, ordS_zero]
    refine ⟨none, 0, ?_, ?_, ?_⟩
    · have := Blk.new (tab0 w) (tabCells (List.replicate 16 0) none 0 0) 25
      rw [tab0_size] at this; exact this
    · exact (Owns.nil (by simp [tab0_size])).fresh _ _
    · have := below1 (tab0 w) (.cells (tabCells (List.replicate 16 0) none 0 0).toArray 25)
      rw [tab0_size] at this; exact this
  have Hst := veil hst; clear hst
  go_enter Try.func56, Try.ntmps56
  go_wp2
  go_loopg [8] 16 (fun gk i wr => ∃ k : Nat, gk = 16 - k ∧ k ≤ 16 ∧ i = .int .i64 (k : Int) ∧ TabIs w (ordC L n k 0) (ordS L n k 0) wr)
  case atStart => exact ⟨0, rfl, by omega, rfl, Hst.out⟩
  case round =>
    clear Hst
    obtain ⟨k, rfl, hk, rfl, hT⟩ := hrel
    have HT := veil hT; clear hT
    by_cases hlt : k < 16
    · have hltz : (k : Int) < 16 := by omega
      go_wp2_with fail
      go_loopg [12] n (fun gk i wr => ∃ j : Nat, gk = n - j ∧ j ≤ n ∧ i = .int .i64 (j : Int) ∧ TabIs w (ordC L n k j) (ordS L n k j) wr)
      case atStart => exact ⟨0, rfl, by omega, rfl, HT.out⟩
      case round =>
        clear HT
        obtain ⟨j, rfl, hj, rfl, A2, c2, HB, HO, hbel⟩ := hrel
        have hbw : Below w.heap.size w wr := hb0.trans (hbel.mono (by omega))
        have HMr := HM.below hbw hmb
        have hss := ordS_len (L := L) hk hj hn
        by_cases hjn : j < n
        · have hjz : (j : Int) < (n : Int) := by omega
          have hlk := HMr.look1 (x := (j : Int)) (wf_of (by omega))
          rw [Hf.out j hjn] at hlk
          by_cases hq : L (j : Int) = k + 1
          · rw [hq, show ((k + 1 : Nat) : Int) = (k : Int) + 1 by omega] at hlk
            have HB1 := veil (show Blk (wr.setCell ⟨w.heap.size + 1, k, none⟩ (.int .i64 (((selS L j k).length : Int) + 1))) (w.heap.size + 1) (tabCells (ordC L n k (j + 1)) A2 (ordS L n k j).length c2) 25 by
              have h5 := HB.set k (.int .i64 (((selS L j k).length : Int) + 1))
              rw [tab_set_count (by rw [ordC_length]; exact hlt), ← ordC_yes hlt hq] at h5
              exact h5)
            have HO1 : Owns (w.heap.size + 2) [intRow 3 .i64 (.slice A2 (ordS L n k j).length c2) (ordS L n k j)] (wr.setCell ⟨w.heap.size + 1, k, none⟩ (.int .i64 (((selS L j k).length : Int) + 1))) := HO.setCell (by simp) _
            have hb1 : Below (w.heap.size + 1) (tab0 w) (wr.setCell ⟨w.heap.size + 1, k, none⟩ (.int .i64 (((selS L j k).length : Int) + 1))) := hbel.setCell (by simp) _
            have dk := HB.cell (tab_count (A := A2) (n := (ordS L n k j).length) (c := c2) (ordC_at (L := L) (n := n) (j := j) hlt))
            have fk := HB.frozen k
            have d16 := HB.cell (tabCells_last (A := A2) (n := (ordS L n k j).length) (c := c2) (ordC_length L n k j))
            have f16 := HB.frozen 16
            have hk16 : ¬ k = 16 := by omega
            have hsl := selS_len L j k
            have HOy := veil (ordS_yes (L := L) (n := n) hq)
            have hwb := HB.lt
            have Hbel := veil hbel
            clear HB HO hq HMr hbel hbw
            generalize (selS L j k).length = q at *
            generalize ordS L n k j = ss at *
            go_wp2_with (first
              | (at_builtin; go_loud (refine wpList_ownS _ rfl (.tmp 29) (.tmp 31) _ rfl (w.heap.size + 2) 3 .i64 8 elemN (.slice A2 ss.length c2) ss [] rfl HO1 [_] (ss.length + 1) rfl (by rw [size_setCell]; rfl) (by unfold maxLen; simp; omega) (by simp; omega) ?_); intro A4 c4 w4 HO4 hb4 hz4; have HB4 := HB1.out.below hb4 (Nat.lt_succ_self _); have d16' := HB4.cell (tabCells_last (ordC_length L n k (j + 1))); have f16' := HB4.frozen 16)
              | fail)
            have HB5 : Blk (w4.setCell ⟨w.heap.size + 1, 16, none⟩ (.slice A4 (ss.length + 1) c4)) (w.heap.size + 1) (tabCells (ordC L n k (j + 1)) A4 (ss ++ [(j : Int)]).length c4) 25 := by
              have h5 := HB4.set 16 (.slice A4 (ss.length + 1) c4)
              rw [tab_set_syms (ordC_length L n k (j + 1))] at h5
              rw [List.length_append]; exact h5
            have HO5 : Owns (w.heap.size + 2) [intRow 3 .i64 (.slice A4 (ss ++ [(j : Int)]).length c4) (ss ++ [(j : Int)])] (w4.setCell ⟨w.heap.size + 1, 16, none⟩ (.slice A4 (ss.length + 1) c4)) := by
              have h5 := HO4.setCell (a := ⟨w.heap.size + 1, 16, none⟩) (by simp) (.slice A4 (ss.length + 1) c4)
              rw [List.length_append]; exact h5
            have hb5 : Below (w.heap.size + 1) (tab0 w) (w4.setCell ⟨w.heap.size + 1, 16, none⟩ (.slice A4 (ss.length + 1) c4)) := (hb1.trans (hb4.mono (by omega))).setCell (by simp) _
            go_roundg (n - (j + 1))
            case rel => exact ⟨j + 1, rfl, by omega, by go_num, A4, c4, by rw [HOy.out]; exact HB5, by rw [HOy.out]; exact HO5, hb5⟩
            case measure => omega
          · have hne : ((L (j : Int) : Int) == (k : Int) + 1) = false := by simp; omega
            have HT : Hid (TabIs w (ordC L n k (j + 1)) (ordS L n k (j + 1)) wr) := by
              rw [ordC_no hq, ordS_no hq]; exact ⟨A2, c2, HB, HO, hbel⟩
            clear HB HO hq HMr hbel hbw
            generalize L (j : Int) = q at *
            go_wp2_with fail
            go_roundg (n - (j + 1))
            case rel => exact ⟨j + 1, rfl, by omega, by go_num, HT.out⟩
            case measure => omega
        · have hjz : ¬ (j : Int) < (n : Int) := by omega
          obtain rfl : j = n := by omega
          have HT : Hid (TabIs w (ordC L j (k + 1) 0) (ordS L j (k + 1) 0) wr) := by
            rw [ordC_next, ordS_next]; exact ⟨A2, c2, HB, HO, hbel⟩
          clear HB HO HMr hbel hbw
          go_wp2_with fail
          go_roundg (16 - (k + 1))
          case rel => exact ⟨k + 1, rfl, by omega, by go_num, HT.out⟩
          case measure => omega
    · have hltz : ¬ (k : Int) < 16 := by omega
      have HK : Hid (k = 16) := by show k = 16; omega
      obtain ⟨A2, c2, HB, HO, hbel⟩ := HT.out
      have hbw : Below w.heap.size w wr := hb0.trans (hbel.mono (by omega))
      have HB0 : Blk wr w.heap.size (tabCells (List.replicate 16 0) none 0 0) 25 := (Blk.new w (tabCells (List.replicate 16 0) none 0 0) 25).below hbel (Nat.lt_succ_self _)
      rw [HK.out] at HB HO
      have hl17 := tabCells_length (A := A2) (n := (ordS L n 16 0).length) (c := c2) (ordC_length L n 16 0)
      have Hl := veil hl17
      have hone := tabCells_one (cs := ordC L n 16 0) (A := A2) (n := (ordS L n 16 0).length) (c := c2)
      have hrl : (List.replicate 16 (0 : Int)).length = 16 := by simp
      have Hl0 := veil (tabCells_length (A := none) (n := 0) (c := 0) hrl)
      clear HT hrl
      obtain ⟨xs, hxs⟩ : ∃ xs, xs = tabCells (ordC L n 16 0) A2 (ordS L n 16 0).length c2 := ⟨_, rfl⟩
      obtain ⟨x0, hx0⟩ : ∃ xs, xs = tabCells (List.replicate 16 0) none 0 0 := ⟨_, rfl⟩
      rw [← hxs] at HB hl17 Hl hone
      rw [← hx0] at HB0 Hl0
      have HX := veil hxs
      clear hxs hx0 hl17
      go_wp2_with (first
        | (refine wpList_load_mid rfl 25 (.tmp 5) rfl (w.heap.size + 1) 0 rfl xs _ HB.range Try.underlying25 rfl (by rw [Hl.out]; exact info_tab) ?_)
        | (refine wpList_store_blk wr rfl 25 (.tmp 4) (.tmp 36) rfl w.heap.size x0 xs 25 HB0 rfl rfl (by rw [Hl.out]; exact info_tab) (by rw [Hl.out, Hl0.out]) hone ?_; intro w5 HB5 hg5)
        | fail)
      refine bodyPost_ret (v := .agg xs.toArray) (results_cell_row rfl _ _ w.heap.size 25 xs.toArray (0, 0) _ rfl HB5 Try.underlying25 rfl (by simp only [List.size_toArray]; rw [Hl.out]; exact info_tab)) rfl ⟨A2, c2, by rw [HX.out], (HO.kept hg5 (by omega)).down (by omega), hbw.grown hg5 hbw.size (fun j hj => by injection hj with hj; omega)⟩
end Go.Proofs.Ytddkhkpdbjjboaa

/- Tables and the lengths of their words: a table that may be leaves room; the table made of lengths has just these. -/
namespace Go.Proofs.Ytddkhkpdbjjboaa
open Go.RowKit
set_option linter.unusedVariables false
set_option linter.unusedSimpArgs false
set_option maxRecDepth 100000

/-- The lengths of the words of these counts. -/
def lensFrom : Nat → List Nat → List Nat
  | _, [] => []
  | k, n :: ns => List.replicate n (k + 1) ++ lensFrom (k + 1) ns
theorem codesFrom_lens : ∀ (ns : List Nat) (k c : Nat) (l : List (Nat × Nat)), codesFrom k c ns = some l → l.map (·.1) = lensFrom k ns := by
  intro ns
  induction ns with
  | nil => intro k c l h; simp [codesFrom] at h; subst h; rfl
  | cons n ns ih =>
    intro k c l h
    unfold codesFrom at h
    split at h
    · cases hq : codesFrom (k + 1) (2 * (c + n)) ns with
      | none => simp [hq] at h
      | some m =>
        simp [hq] at h
        subst h
        rw [List.map_append, ih _ _ _ hq, lensFrom]
        congr 1
        rw [List.map_map, List.eq_replicate_iff]
        refine ⟨by simp, ?_⟩
        intro b hb
        simp at hb
        exact hb.2.symm
    · cases h
theorem roomOf_lens : ∀ (ns : List Nat) (k : Nat), roomOf k ns = sumF (lensFrom k ns) (fun n => 2 ^ (16 - n))
  | [], k => rfl
  | n :: ns, k => by
    rw [roomOf, lensFrom, sumF_append, roomOf_lens ns (k + 1)]
    congr 1
    have : sumF (List.replicate n (k + 1)) (fun n => 2 ^ (16 - n)) = n * 2 ^ (16 - (k + 1)) := by simp [sumF, List.map_replicate, List.sum_replicate_nat]
    rw [this, show 16 - (k + 1) = 15 - k by omega]
/-! ### which length a symbol has -/
theorem lenF_none {ws : List (Int × Nat × Nat)} {s : Int} (h : s ∉ ws.map (·.1)) : lenF ws s = none := by
  induction ws using snoc_ind with
  | h0 => rfl
  | h1 ws t ih =>
    rw [lenF_snoc]
    simp only [List.map_append, List.mem_append, not_or] at h
    unfold upd
    rw [if_neg (by intro e; apply h.2; simp [e]), ih h.1]
theorem lenF_mem {ws : List (Int × Nat × Nat)} (hn : (ws.map (·.1)).Nodup) {t : Int × Nat × Nat} (h : t ∈ ws) : lenF ws t.1 = some (t.2.1 : Int) := by
  induction ws using snoc_ind with
  | h0 => cases h
  | h1 ws u ih =>
    rw [lenF_snoc]
    rw [List.map_append, List.nodup_append] at hn
    unfold upd
    rcases List.mem_append.1 h with h | h
    · rw [if_neg (hn.2.2 _ (List.mem_map_of_mem h) _ (by simp)), ih hn.1 h]
    · simp at h; subst h; simp
/-- The length that a table gives a symbol; 0 if it gives none. -/
def tabL (cs syms : List Int) (s : Int) : Nat := ((lenF (outWords cs syms) s).getD 0).toNat
section
variable {cs syms zs : List Int}
theorem tab_some (hcs : cs.length = 16) (h : checkErr cs syms = 0) {s : Int} (hs : s ∈ syms) : ∃ n : Nat, lenF (outWords cs syms) s = some (n : Int) ∧ 1 ≤ n ∧ n ≤ 16 := by
  obtain ⟨l, hf, e, hl⟩ := fine_of h
  have hm : (outWords cs syms).map (·.1) = syms := by rw [e]; exact mkWords_fst hl
  rw [← hm] at hs
  obtain ⟨t, ht, rfl⟩ := List.mem_map.1 hs
  have hw := words_small hcs h t ht
  exact ⟨t.2.1, lenF_mem (by rw [hm]; exact hf.nodup) ht, hw.2.2.1, hw.2.2.2⟩
theorem tab_none (h : checkErr cs syms = 0) {s : Int} (hs : s ∉ syms) : lenF (outWords cs syms) s = none := by
  obtain ⟨l, hf, e, hl⟩ := fine_of h
  have hm : (outWords cs syms).map (·.1) = syms := by rw [e]; exact mkWords_fst hl
  exact lenF_none (by rw [hm]; exact hs)
theorem tab_lens (h : checkErr cs syms = 0) : syms.map (tabL cs syms) = lensFrom 0 (nats cs) := by
  obtain ⟨l, hf, e, hl⟩ := fine_of h
  have hm : (outWords cs syms).map (·.1) = syms := by rw [e]; exact mkWords_fst hl
  rw [← codesFrom_lens (nats cs) 0 0 l hf.code]
  apply List.ext_getElem?
  intro i
  by_cases hi : i < syms.length
  · obtain ⟨s, hs⟩ := some_at hi
    obtain ⟨p, hp⟩ := some_at (xs := l) (j := i) (by omega)
    have ht : (s, p.1, p.2) ∈ outWords cs syms := by
      rw [e]
      refine List.mem_of_getElem? (i := i) ?_
      unfold mkWords
      rw [List.getElem?_zipWith, hs, hp]
    have := lenF_mem (by rw [hm]; exact hf.nodup) ht
    rw [List.getElem?_map, List.getElem?_map, hs, hp]
    simp only [Option.map_some, tabL]
    simp only at this
    rw [this]; simp
  · rw [List.getElem?_eq_none (by simp; omega), List.getElem?_eq_none (by simp; omega)]
/-! ### what a table costs -/
theorem costSum_eq {f : Int → Option Int} (hf : ∀ s, 0 ≤ (f s).getD 0) (l : List (Int × Int)) (h : ∀ p ∈ l, 0 ≤ p.2) : costSum f l = ((sumF (l.filter fun p => decide (0 < p.2)) fun p => p.2.toNat * ((f p.1).getD 0).toNat : Nat) : Int) := by
  induction l with
  | nil => rfl
  | cons p l ih =>
    have h1 := ih fun q hq => h q (by simp [hq])
    have h2 := h p (by simp)
    have e : costSum f (p :: l) = p.2 * (f p.1).getD 0 + costSum f l := by simp [costSum]
    rw [e, h1]
    by_cases hp : 0 < p.2
    · rw [List.filter_cons_of_pos (by simpa using hp), sumF_cons, Int.natCast_add, Int.natCast_mul]
      have e1 : ((p.2.toNat : Nat) : Int) = p.2 := by omega
      have e2 : ((((f p.1).getD 0).toNat : Nat) : Int) = (f p.1).getD 0 := by have := hf p.1; omega
      rw [e1, e2]
    · rw [List.filter_cons_of_neg (by simpa using hp), show p.2 = 0 by omega]; simp
theorem cost_eq (hcs : cs.length = 16) (h : checkErr cs syms = 0) (hz : ∀ x ∈ zs, 0 ≤ x) : costSum (lenF (outWords cs syms)) (enumI zs) = (costL zs (tabL cs syms) : Int) := by
  rw [costSum_eq (fun s => (lenF_range (fun t ht => (words_small hcs h t ht).2.2.2) s).1) _ (fun p hp => by
    obtain ⟨k, _, h2⟩ := enumI_get hp; exact hz _ (List.mem_of_getElem? h2))]
  congr 1
  unfold costL used
  rw [show sumF (((enumI zs).filter fun p => decide (0 < p.2)).map (·.1)) (fun i => cntZ zs i * tabL cs syms i) = sumF ((enumI zs).filter fun p => decide (0 < p.2)) (fun p => cntZ zs p.1 * tabL cs syms p.1) by simp [sumF, List.map_map, Function.comp_def]]
  refine sumF_congr fun p hp => ?_
  obtain ⟨k, h1, h2⟩ := enumI_get (List.mem_filter.1 hp).1
  rw [h1, cntZ_at h2]; rfl
theorem miss_false (hcs : cs.length = 16) (h : checkErr cs syms = 0) : missB (lenF (outWords cs syms)) (enumI zs) = false ↔ ∀ i ∈ used zs, i ∈ syms := by
  unfold missB
  rw [List.any_eq_false]
  constructor
  · intro h1 i hi
    refine Classical.byContradiction fun hn => ?_
    obtain ⟨k, x, rfl, h2, h3⟩ := used_mem.1 hi
    exact h1 _ (List.mem_of_getElem? (enumI_at h2)) (by simp [h3, tab_none h hn])
  · intro h1 p hp hc
    simp only [Bool.and_eq_true, decide_eq_true_eq, Option.isNone_iff_eq_none] at hc
    obtain ⟨k, h2, h3⟩ := enumI_get hp
    have hu : p.1 ∈ used zs := used_mem.2 ⟨k, p.2, h2, h3, hc.1⟩
    obtain ⟨n, h4, _⟩ := tab_some hcs h (h1 _ hu)
    rw [h4] at hc; simp at hc
theorem costE_zero (hcs : cs.length = 16) : costE cs syms zs = 0 ↔ checkErr cs syms = 0 ∧ errB zs = 0 ∧ ∀ i ∈ used zs, i ∈ syms := by
  unfold costE
  by_cases h1 : checkErr cs syms = 0
  · rw [if_neg (by simp [h1])]
    by_cases h2 : errB zs = 0
    · rw [if_neg (by simp [h2])]
      cases h3 : missB (lenF (outWords cs syms)) (enumI zs) with
      | false => exact ⟨fun _ => ⟨h1, h2, (miss_false hcs h1).1 h3⟩, fun _ => rfl⟩
      | true =>
        refine ⟨fun e => absurd e (by decide), fun h => ?_⟩
        rw [(miss_false hcs h1).2 h.2.2] at h3; cases h3
    · rw [if_pos h2]; simp [h2]
  · rw [if_pos h1]; simp [h1]
theorem costV_eq (hcs : cs.length = 16) (h : costE cs syms zs = 0) : costV cs syms zs = (costL zs (tabL cs syms) : Int) := by
  obtain ⟨h1, h2, _⟩ := (costE_zero hcs).1 h
  unfold costV
  rw [if_pos h, cost_eq hcs h1 fun x hx => ((errB_ok h2).2 x hx).1]
end
/-! ### the table of given lengths -/
section
variable {L : Int → Nat} {n : Nat}
theorem mem_upTo {s : Int} : s ∈ upTo n ↔ 0 ≤ s ∧ s < n := by
  simp only [upTo, List.mem_map, List.mem_range]
  constructor
  · rintro ⟨k, hk, rfl⟩; simp; exact hk
  · intro h; exact ⟨s.toNat, by omega, by simp; omega⟩
theorem ordS_all (L : Int → Nat) (n : Nat) : ordS L n 16 0 = (List.range 16).flatMap (selS L n) := by unfold ordS; rw [selS_zero, List.append_nil]
theorem mem_sel {s : Int} {k : Nat} : s ∈ selS L n k ↔ (0 ≤ s ∧ s < n) ∧ L s = k + 1 := by
  unfold selS; rw [List.mem_filter, mem_upTo]; simp
theorem mem_ordS {s : Int} : s ∈ ordS L n 16 0 ↔ (0 ≤ s ∧ s < n) ∧ 1 ≤ L s ∧ L s ≤ 16 := by
  rw [ordS_all, List.mem_flatMap]
  constructor
  · rintro ⟨k, hk, hs⟩
    rw [mem_sel] at hs
    simp at hk
    exact ⟨hs.1, by omega, by omega⟩
  · rintro ⟨h1, h2, h3⟩
    exact ⟨L s - 1, by simp; omega, mem_sel.2 ⟨h1, by omega⟩⟩
theorem ordS_nodup (L : Int → Nat) (n : Nat) : (ordS L n 16 0).Nodup := by
  rw [ordS_all, List.nodup_iff_pairwise_ne, List.pairwise_flatMap]
  refine ⟨fun k _ => ?_, ?_⟩
  · exact List.nodup_iff_pairwise_ne.1 (List.filter_sublist.nodup (nodup_upTo n))
  · refine (List.nodup_iff_pairwise_ne.1 List.nodup_range).imp fun {a b} hab x hx y hy e => hab ?_
    subst e
    rw [mem_sel] at hx hy
    omega
theorem natsC (L : Int → Nat) (n : Nat) : nats (ordC L n 16 0) = (List.range 16).map fun i => (selS L n i).length := by
  unfold nats ordC
  rw [List.map_map]
  refine List.map_congr_left fun i hi => ?_
  simp at hi
  simp [hi]
theorem lensFrom_range (c : Nat → Nat) : ∀ (m k : Nat), lensFrom k ((List.range' k m).map c) = (List.range' k m).flatMap fun i => List.replicate (c i) (i + 1)
  | 0, k => rfl
  | m + 1, k => by
    rw [List.range'_succ, List.map_cons, lensFrom, lensFrom_range c m (k + 1)]
    rfl
theorem ordS_lens (L : Int → Nat) (n : Nat) : (ordS L n 16 0).map L = lensFrom 0 (nats (ordC L n 16 0)) := by
  rw [natsC, ordS_all, List.range_eq_range', lensFrom_range, List.map_flatMap]
  congr 1
  funext k
  rw [List.eq_replicate_iff]
  refine ⟨by simp, fun b hb => ?_⟩
  obtain ⟨s, hs, rfl⟩ := List.mem_map.1 hb
  exact (mem_sel.1 hs).2
theorem ordC_pos (L : Int → Nat) (n : Nat) : ∀ x ∈ ordC L n 16 0, 0 ≤ x ∧ x ≤ n := by
  intro x hx
  simp only [ordC, List.mem_map, List.mem_range] at hx
  obtain ⟨i, hi, rfl⟩ := hx
  rw [if_pos hi]
  have := selS_len L n i
  omega
theorem ordS_short (L : Int → Nat) (n : Nat) : (ordS L n 16 0).length ≤ n := by
  have h1 := sumF_sub (ordS_nodup L n) (m := upTo n) (fun x hx => mem_upTo.2 (mem_ordS.1 hx).1) (fun _ => 1)
  rw [sumF_const, sumF_const, upTo_length] at h1
  omega
theorem ordS_sum (L : Int → Nat) (n : Nat) : sumW (ordC L n 16 0) = ((ordS L n 16 0).length : Int) := by
  rw [← nats_sum fun x hx => (ordC_pos L n x hx).1, natsC, ordS_all, List.length_flatMap]
theorem ord_check (hn : n ≤ 256) (hr : sumF (ordS L n 16 0) (fun s => 2 ^ (16 - L s)) ≤ 65535) : checkErr (ordC L n 16 0) (ordS L n 16 0) = 0 := by
  have hs := ordS_short L n
  refine checkErr_ok ⟨fun x hx => (ordC_pos L n x hx).1, ?_, ordS_sum L n⟩ (fun s hs => ?_) ?_ (ordS_nodup L n)
  · rw [ordS_sum]; omega
  · have := (mem_ordS.1 hs).1; omega
  · rw [codes_room (by rw [nats_length, ordC_length]), roomOf_lens, ← ordS_lens]
    have : sumF ((ordS L n 16 0).map L) (fun n => 2 ^ (16 - n)) = sumF (ordS L n 16 0) (fun s => 2 ^ (16 - L s)) := by simp [sumF, List.map_map, Function.comp_def]
    omega
theorem ord_tabL (h : checkErr (ordC L n 16 0) (ordS L n 16 0) = 0) {s : Int} (hs : s ∈ ordS L n 16 0) : tabL (ordC L n 16 0) (ordS L n 16 0) s = L s := by
  have h1 := (tab_lens h).trans (ordS_lens L n).symm
  exact List.map_inj_left.1 h1 s hs
end
/-- The table that Make hands back. -/
theorem made_of {zs : List Int} (hz : errB zs = 0) {L : Int → Nat} (hL : BestL zs L) :
    (∀ s, s ∈ ordS L zs.length 16 0 ↔ s ∈ used zs) ∧ checkErr (ordC L zs.length 16 0) (ordS L zs.length 16 0) = 0 ∧ costE (ordC L zs.length 16 0) (ordS L zs.length 16 0) zs = 0 ∧ costV (ordC L zs.length 16 0) (ordS L zs.length 16 0) zs = (costL zs L : Int) ∧ ∀ s ∈ used zs, tabL (ordC L zs.length 16 0) (ordS L zs.length 16 0) s = L s := by
  have hn := (errB_ok hz).1
  have hm : ∀ s, s ∈ ordS L zs.length 16 0 ↔ s ∈ used zs := by
    intro s
    rw [mem_ordS]
    constructor
    · rintro ⟨_, h1, _⟩
      refine Classical.byContradiction fun h => ?_
      have := hL.none s h; omega
    · intro h
      have h1 := used_pos h
      exact ⟨⟨h1.1, h1.2.1⟩, hL.code.1 s h⟩
  have hc : checkErr (ordC L zs.length 16 0) (ordS L zs.length 16 0) = 0 := ord_check hn (Nat.le_trans (sumF_sub (ordS_nodup L _) (fun x hx => (hm x).1 hx) _) hL.code.2)
  have ht : ∀ s ∈ used zs, tabL (ordC L zs.length 16 0) (ordS L zs.length 16 0) s = L s := fun s hs => ord_tabL hc ((hm s).2 hs)
  have he : costE (ordC L zs.length 16 0) (ordS L zs.length 16 0) zs = 0 := (costE_zero (ordC_length _ _ _ _)).2 ⟨hc, hz, fun i hi => (hm i).2 hi⟩
  refine ⟨hm, hc, he, ?_, ht⟩
  have hl := ordC_length L zs.length 16 0
  clear hm hc
  generalize ordC L zs.length 16 0 = cs at *
  generalize ordS L zs.length 16 0 = syms at *
  rw [costV_eq hl he]
  have : costL zs (tabL cs syms) = costL zs L := by
    unfold costL
    exact sumF_congr fun i hi => by rw [ht i hi]
  rw [this]
end Go.Proofs.Ytddkhkpdbjjboaa

/- best.Make: its contract. -/
namespace Go.Proofs.Ytddkhkpdbjjboaa
open Go.RowKit
set_option linter.unusedVariables false
set_option linter.unusedSimpArgs false
set_option maxRecDepth 100000

theorem sing_eq (zs : List Int) : sing (backTo zs 0) = singlesOf (cntZ zs) (idxB zs) := by
  unfold sing backTo singlesOf idxB used
  rw [List.drop_zero, List.filter_reverse, List.map_cons, ← List.map_reverse, List.map_map]
  congr 1
  refine List.map_congr_left fun p hp => ?_
  obtain ⟨k, h1, h2⟩ := enumI_get (List.mem_filter.1 (List.mem_reverse.1 hp)).1
  simp only [Function.comp_apply, single1, h1, cntZ_at h2]
theorem results_cell_row_tmp {P : Program} {fn : Func} {p u : Tmp} {ty : TypeId} (h : fn.results = #[.cell p ty, .tmp u]) (tmps : Array Value) (w : World) (g : Nat) (t : TypeId) (cs : Array Value) (fr : Nat × Nat) (d : TypeDesc) (x : Value)
    (hp : tmps.getD p undef = .pointer (some ⟨g, 0, none⟩)) (hx : tmps.getD u undef = x) (hg : w.heap[g]? = some (.cells cs t fr))
    (hu : P.underlying ty = some d) (hd : (match d with | .struct _ | .array _ _ => true | _ => false) = true) (hi : (P.info? ty).map (·.size) = some cs.size) :
    (results fn tmps).run P w = .ok (.tuple #[.agg cs, x]) w := by
  rw [results_cell_tmp h, hp, hx]
  simp [asAddr, run_loadVar_row w g t ty cs fr d hg hu hd hi, Result.andThen]

theorem zeros_len : (tabCells (List.replicate 16 0) none 0 0).length = 17 := tabCells_length (by simp)
set_option maxRecDepth 100000 in
set_option maxHeartbeats 4000000 in
theorem make_err (A : Option Addr) (c G : Nat) (zs : List Int) (w : World) (hs : Seen w G A (ints .i64 zs)) (hG : G ≤ w.heap.size) (hl : zs.length ≤ maxLen) (hz : errB zs ≠ 0) :
    Calls Try.prog 31 #[.slice A zs.length c] w fun e w' => e = .returned (.tuple #[tabV (List.replicate 16 0) none 0 0, .int .i64 (errB zs)]) ∧ Below w.heap.size w w' := by
  have HC := veil (fun o => bcheck_any A c G zs (w.alloc o) (hs.alloc hG o) hl)
  have hne : (errB zs != 0) = true := by simpa using hz
  clear hz
  generalize errB zs = E at *
  go_enter Try.func31, Try.ntmps31
  go_wp2_with fail
  refine (HC.out _).mono ?_
  rintro e w' ⟨rfl, rfl⟩
  go_wp2_with fail
  refine bodyPost_ret (v := .tuple #[tabV (List.replicate 16 0) none 0 0, .int .i64 E]) (results_cell_row_tmp rfl _ _ w.heap.size 25 (tabCells (List.replicate 16 0) none 0 0).toArray (0, 0) _ _ rfl rfl (Blk.new w (tabCells (List.replicate 16 0) none 0 0) 25) Try.underlying25 rfl info_tab) rfl ⟨rfl, below1 _ _⟩

set_option maxRecDepth 100000 in
set_option maxHeartbeats 4000000 in
theorem make_ok (A : Option Addr) (c G : Nat) (zs : List Int) (w : World) (hs : Seen w G A (ints .i64 zs)) (hG : G ≤ w.heap.size) (hz : errB zs = 0) :
    Calls Try.prog 31 #[.slice A zs.length c] w fun e w' => ∃ L A' c', e = .returned (.tuple #[tabV (ordC L zs.length 16 0) A' (ordS L zs.length 16 0).length c', .int .i64 0]) ∧ BestL zs L ∧ Owns w.heap.size [intRow 3 .i64 (.slice A' (ordS L zs.length 16 0).length c') (ordS L zs.length 16 0)] w' ∧ Below w.heap.size w w' := by
  obtain ⟨h256, hzb⟩ := errB_ok hz
  have Hzb := veil hzb; clear hzb
  have hst := hs.alloc hG (.cells (tabCells (List.replicate 16 0) none 0 0).toArray 25)
  have HC := veil (bcheck_any A c G zs (tab0 w) hst (by unfold maxLen; omega))
  rw [hz] at HC
  clear hz
  have hb0 : Below w.heap.size w (tab0 w) := below1 _ _
  have hz0 := tab0_size w
  have HB0 := veil (Blk.new w (tabCells (List.replicate 16 0) none 0 0) 25)
  have HS := veil (singles_any A c G zs (tab0 w) hst (by rw [hz0]; omega) (by omega))
  have Hz0 := veil hz0
  clear hz0 hst
  go_enter Try.func31, Try.ntmps31
  go_wp2_with fail
  refine HC.out.mono ?_
  rintro e w' ⟨rfl, rfl⟩
  clear HC
  go_wp2_with fail
  refine HS.out.mono ?_
  rintro e w1 ⟨ys, rs, v, rfl, HO, hR, hb1⟩
  clear HS
  rw [sing_eq] at hR
  obtain ⟨A1, c1, e1, hs1, _, _⟩ := HO.seen List.mem_cons_self
  simp only [hRow] at e1 hs1
  subst e1
  have hyl : (idxB zs).length = ys.length := by have := hR.1; simp only [singlesOf, List.length_map] at this; exact this
  have HL := veil (lengths_any A1 c1 w1.heap.size (cntZ zs) (idxB zs) ys w1 hs1 (hR.buns HO.tail) (Nat.le_refl _) (by simp [idxB]) (by have := used_len zs; simp [idxB]; omega) (fun i _ => cntZ_max Hzb.out i) (fun i hi => by
    simp only [idxB, List.mem_cons, List.mem_reverse] at hi
    rcases hi with rfl | hi
    · exact wf_of (by omega)
    · have := used_pos hi; exact wf_of (by omega)))
  rw [hyl] at HL
  clear HO hR hs1
  have Hyl := veil hyl; clear hyl
  go_wp2_with fail
  refine HL.out.mono ?_
  rintro e w2 ⟨l, N, mb, rfl, hch, hmb, HM, hb2⟩
  rw [← Hyl.out] at HM
  have HO2 := veil (ordered_any mb zs.length N _ (lensB zs l) w2 HM (fun s hs => lensB_map hch s) h256)
  have HBest := veil (lensB_best h256 hch)
  clear HL HM hch
  generalize lensB zs l = L at *
  go_wp2_with fail
  refine HO2.out.mono ?_
  rintro e w3 ⟨A3, c3, rfl, HO3, hb3⟩
  clear HO2
  have hzz := Hz0.out
  have hz1 := hb1.size
  have hz2 := hb2.size
  have hB3 : Below (w.heap.size + 1) (tab0 w) w3 := by
    rw [← hzz]
    exact (hb1.trans (hb2.mono hz1)).trans (hb3.mono (by omega))
  have HB3 : Blk w3 w.heap.size (tabCells (List.replicate 16 0) none 0 0) 25 := HB0.out.below hB3 (Nat.lt_succ_self _)
  have hbw : Below w.heap.size w w3 := hb0.trans (hB3.mono (by omega))
  have HO4 := HO3.down (B' := w.heap.size + 1) (by omega)
  have hl17 := tabCells_length (A := A3) (n := (ordS L zs.length 16 0).length) (c := c3) (ordC_length L zs.length 16 0)
  have hone := tabCells_one (cs := ordC L zs.length 16 0) (A := A3) (n := (ordS L zs.length 16 0).length) (c := c3)
  have Hl := veil hl17
  have Hl0 := veil zeros_len
  obtain ⟨xs, hxs⟩ : ∃ xs, xs = tabCells (ordC L zs.length 16 0) A3 (ordS L zs.length 16 0).length c3 := ⟨_, rfl⟩
  obtain ⟨x0, hx0⟩ : ∃ xs, xs = tabCells (List.replicate 16 0) none 0 0 := ⟨_, rfl⟩
  unfold tabV
  rw [← hxs] at hl17 Hl hone ⊢
  rw [← hx0] at HB3 Hl0
  have HX := veil hxs
  clear hxs hx0 hl17 hb1 hb2 hb3 HO3 hB3 HB0 hz1 hz2 hzz
  go_wp2_with (first
    | (refine wpList_store_blk w3 rfl 25 (.tmp 2) (.tmp 16) rfl w.heap.size x0 xs 25 HB3 rfl rfl (by rw [Hl.out]; exact info_tab) (by rw [Hl.out, Hl0.out]) hone ?_; intro w5 HB5 hg5)
    | fail)
  refine bodyPost_ret (v := .tuple #[.agg xs.toArray, .int .i64 0]) (results_cell_row_tmp rfl _ _ w.heap.size 25 xs.toArray (0, 0) _ _ rfl rfl HB5 Try.underlying25 rfl (by simp only [List.size_toArray]; rw [Hl.out]; exact info_tab)) rfl ⟨L, A3, c3, by rw [HX.out], HBest.out, (HO4.kept hg5 (by omega)).down (by omega), hbw.grown hg5 hbw.size (fun j hj => by injection hj with hj; omega)⟩
end Go.Proofs.Ytddkhkpdbjjboaa

/- best.Make: one contract for all counts. -/
namespace Go.Proofs.Ytddkhkpdbjjboaa
open Go.RowKit
set_option linter.unusedVariables false
set_option linter.unusedSimpArgs false
set_option maxRecDepth 100000

/-- What Make hands back for these counts. -/
structure MadeT (zs cs syms : List Int) : Prop where
  len : cs.length = 16
  bnd : ∀ x ∈ cs, -9223372036854775808 ≤ x ∧ x ≤ 9223372036854775807
  short : syms.length ≤ 256
  ok : errB zs = 0 → (∀ s, s ∈ syms ↔ s ∈ used zs) ∧ syms.Nodup ∧ checkErr cs syms = 0 ∧ costE cs syms zs = 0 ∧ ∃ L, BestL zs L ∧ costV cs syms zs = (costL zs L : Int) ∧ ∀ s ∈ used zs, tabL cs syms s = L s
  bad : errB zs ≠ 0 → cs = List.replicate 16 0 ∧ syms = []
theorem make_any (A : Option Addr) (c G : Nat) (zs : List Int) (w : World) (hs : Seen w G A (ints .i64 zs)) (hG : G ≤ w.heap.size) (hl : zs.length ≤ maxLen) :
    Calls Try.prog 31 #[.slice A zs.length c] w fun e w' => ∃ cs syms A' c', e = .returned (.tuple #[tabV cs A' syms.length c', .int .i64 (errB zs)]) ∧ MadeT zs cs syms ∧ Owns w.heap.size [intRow 3 .i64 (.slice A' syms.length c') syms] w' ∧ Below w.heap.size w w' := by
  by_cases hz : errB zs = 0
  · refine (make_ok A c G zs w hs hG hz).mono ?_
    rintro e w' ⟨L, A', c', rfl, hL, HO, hb⟩
    obtain ⟨h1, h2, h3, h4, h5⟩ := made_of hz hL
    have hn := (errB_ok hz).1
    refine ⟨_, _, A', c', by rw [hz], ⟨ordC_length _ _ _ _, fun x hx => ?_, Nat.le_trans (ordS_short L _) hn, fun _ => ⟨h1, ordS_nodup L _, h2, h3, L, hL, h4, h5⟩, fun h => absurd hz h⟩, HO, hb⟩
    have := ordC_pos L zs.length x hx
    omega
  · refine (make_err A c G zs w hs hG hl hz).mono ?_
    rintro e w' ⟨rfl, hb⟩
    exact ⟨List.replicate 16 0, [], none, 0, rfl, ⟨by simp, fun x hx => by rw [List.eq_of_mem_replicate hx]; omega, by simp, fun h => absurd h hz, fun _ => ⟨rfl, rfl⟩⟩, (Owns.nil hb.size).fresh _ _, hb⟩
theorem MadeT.seen {zs cs syms : List Int} {A' : Option Addr} {c' B : Nat} {w : World} (HO : Owns B [intRow 3 .i64 (.slice A' syms.length c') syms] w) : Seen w w.heap.size A' (ints .i64 syms) := by
  obtain ⟨A1, c1, e, hs, _, _⟩ := HO.seen (List.mem_singleton.2 rfl)
  simp only [intRow, Value.slice.injEq] at e hs
  rw [e.1]; exact hs
end Go.Proofs.Ytddkhkpdbjjboaa

/- Tables that fit blocks, in numbers: each token has a word. -/
namespace Go.Proofs.Ytddkhkpdbjjboaa
set_option linter.unusedVariables false
set_option linter.unusedSimpArgs false
set_option maxRecDepth 100000

theorem bump_at {xs : List Int} {i j : Nat} {c : Int} (h : xs[i]? = some c) : (bump xs j)[i]? = some (if j = i then c + 1 else c) := by
  unfold bump
  have hi : i < xs.length := (List.getElem?_eq_some_iff.1 h).1
  by_cases e : j = i
  · subst e
    rw [if_pos rfl, List.getElem?_set_self hi, List.getD_eq_getElem?_getD, h]; rfl
  · rw [if_neg e, List.getElem?_set_ne (by omega)]; exact h
theorem tally_pos {x : Bool × Int × Int × Int} (hg : goodT x.2) : ∀ l : List (Bool × Int × Int × Int), x ∈ l → ∃ c, (tally x.1 l)[x.2.1.toNat]? = some c ∧ 1 ≤ c := by
  refine snoc_list (P := fun l => x ∈ l → ∃ c, (tally x.1 l)[x.2.1.toNat]? = some c ∧ 1 ≤ c) (fun h => by simp at h) (fun l y ih hx => ?_)
  have hb := hg.2
  obtain ⟨c0, hc0⟩ := some_at (xs := tally x.1 l) (j := x.2.1.toNat) (by rw [tally_length]; omega)
  have h0 := (tally_in x.1 l c0 (List.mem_of_getElem? hc0)).1
  rw [tally_snoc]
  rcases List.mem_append.1 hx with hx | hx
  · obtain ⟨c, hc, h1⟩ := ih hx
    by_cases e : y.1 = x.1
    · rw [if_pos e]
      refine ⟨_, bump_at hc, ?_⟩
      split <;> omega
    · rw [if_neg e]; exact ⟨c, hc, h1⟩
  · obtain rfl := List.mem_singleton.1 hx
    rw [if_pos rfl]
    refine ⟨_, bump_at hc0, ?_⟩
    rw [if_pos rfl]; omega
theorem addL_zero {T : List Int} (h : T.length = 256) : addL (List.replicate 256 0) T = T := by
  apply List.ext_getElem?
  intro i
  by_cases hi : i < 256
  · obtain ⟨y, hy⟩ := some_at (xs := T) (j := i) (by omega)
    rw [addL_at (x := 0) (y := y) (List.getElem?_replicate.trans (if_pos hi)) hy, hy]; simp
  · rw [List.getElem?_eq_none (by rw [addL_length (by simpa using h)]; simp; omega), List.getElem?_eq_none (by omega)]
theorem fc_one (b : Bool) (L : List (List Int)) : fcL b [L.length] L 1 = tally b (toksB 0 L) := by
  show addL (List.replicate 256 0) (tally b (toksB 0 (piece [L.length] L 0))) = _
  rw [addL_zero (tally_length _ _)]
  unfold piece
  simp
theorem errB_tally (b : Bool) (l : List (Bool × Int × Int × Int)) (h : l.length ≤ 9999) : errB (tally b l) = 0 := by
  unfold errB
  rw [if_neg (by rw [tally_length]; omega), if_neg]
  rw [List.any_eq_true]
  rintro ⟨x, hx, ho⟩
  have := tally_in b l x hx
  unfold outB at ho
  simp at ho
  omega
theorem made_word {zs cs syms : List Int} (h : MadeT zs cs syms) (he : errB zs = 0) {s c : Int} (hs : 0 ≤ s) (hc : zs[s.toNat]? = some c) (h1 : 1 ≤ c) : (symF (outWords cs syms) s).isSome = true := by
  obtain ⟨g1, g2, g3, _⟩ := h.ok he
  have hu : s ∈ used zs := used_mem.2 ⟨s.toNat, c, by omega, hc, by omega⟩
  have hsy := (g1 s).2 hu
  obtain ⟨l, hf, hw, hll⟩ := fine_of g3
  have hfst := mkWords_fst (syms := syms) hll
  rw [← hfst] at hsy
  obtain ⟨t, ht, rfl⟩ := List.mem_map.1 hsy
  have hnd : ((outWords cs syms).map (·.1)).Nodup := own1_of g3
  rw [← hw] at ht
  rw [symF_mine hnd ht]; rfl
/-- Tables made of the counts of these blocks take them. -/
theorem fit_enc {cs syms cs2 syms2 : List Int} {L : List (List Int)} (hl : ∀ r ∈ L, r.length = 64) (h0 : eL L = 0) (m1 : MadeT (tally true (toksB 0 L)) cs syms) (m2 : MadeT (tally false (toksB 0 L)) cs2 syms2) (e1 : errB (tally true (toksB 0 L)) = 0) (e2 : errB (tally false (toksB 0 L)) = 0) : eEnc cs syms cs2 syms2 L = 0 := by
  obtain ⟨h400, hin⟩ := eL_zero h0
  rw [eEnc_end (m1.ok e1).2.2.1 (m2.ok e2).2.2.1 h0, if_pos]
  intro x hx
  have hg := toksB_good L 0 hl hin (by omega) x hx
  obtain ⟨c, hc, h1⟩ := tally_pos hg (toksB 0 L) hx
  obtain ⟨b, t⟩ := x
  cases b with
  | true => exact made_word m1 e1 hg.2.1 hc h1
  | false => exact made_word m2 e2 hg.2.1 hc h1
theorem segF_pos {cs syms cs2 syms2 : List Int} {L : List (List Int)} (hcs : cs.length = 16) (h : eEnc cs syms cs2 syms2 L = 0) (hn : L ≠ []) : 0 < (segF cs syms cs2 syms2 L).length := by
  obtain ⟨raw, p, hraw, hp, hu⟩ := segF_bits h
  have hall := eEnc_all h
  have hpf := words_pf2 hcs (eEnc_none h).1
  rw [hraw]
  refine Classical.byContradiction fun h0 => ?_
  have hr : raw = [] := by
    have h1 := length_le_stuffB raw
    exact List.length_eq_zero_iff.1 (by omega)
  subst hr
  have hz := congrArg List.length hu
  rw [unpack_nil, List.length_append] at hz
  match L, hn with
  | r :: L, _ =>
    cases hz2 : toL r with
    | nil => have := toL_length r; rw [hz2] at this; cases this
    | cons z zs =>
      have hmem : (true, tkN 0 (z - 0)) ∈ toksB 0 (r :: L) := by
        simp only [toksB]
        refine List.mem_append_left _ ?_
        rw [hz2, toksZ]; simp [flagT]
      have hw := hall _ hmem
      obtain ⟨q, hq⟩ := Option.isSome_iff_exists.1 hw
      obtain ⟨wd, hwd, e1, e2⟩ := symF_mem hq
      have hsm := (hpf.small wd hwd).1.1
      have hlen : 1 ≤ (tokBits (outWords cs syms) (tkN 0 (z - 0))).length := by
        unfold tokBits symBits
        have hq' : symF (outWords cs syms) (tkN 0 (z - 0)).1 = some q := hq
        rw [hq', ← e2, List.length_append, bitsN_length]
        simp [fi]; omega
      have hsub : 1 ≤ (segBits (outWords cs syms) (outWords cs2 syms2) (toksB 0 (r :: L))).length := by
        simp only [toksB]
        rw [hz2, toksZ, segBits_append, flag_bits]
        simp only [List.length_append]; omega
      simp only [List.length_nil] at hz
      omega
end Go.Proofs.Ytddkhkpdbjjboaa

/- seg.Counts: its contract. -/
namespace Go.Proofs.Ytddkhkpdbjjboaa
open Go.RowKit
set_option linter.unusedVariables false
set_option linter.unusedSimpArgs false
set_option maxRecDepth 100000

theorem info_int' : (Try.prog.info? 3).map (fun i => (i.zero, i.size, i.bytes)) = some (some (.int .i64 0), 1, 8) := by kernel_rfl
def zero256 : List Value := ints .i64 (List.replicate 256 0)
theorem made256 : madeCells (Value.int .i64 0).cells 256 = zero256.toArray := by kernel_rfl
theorem run_make256 (u : World) : (Instr.makeSlice 23 (.int .i64 256) (.int .i64 256)).run Try.prog u = .ok (.slice (some ⟨u.heap.size, 0, none⟩) 256 256) (u.alloc (.cells zero256.toArray 3)) := by
  obtain ⟨i0, hi, hz0, hz1, hz2⟩ := info_parts info_int'
  have h := run_make (P := Try.prog) u 23 3 i0 (.int .i64 0) Try.underlying23 hi hz0 .i64 .i64 256 256 (by omega) (by omega) (by rw [hz2]; omega) (by omega)
  rw [hz1] at h
  rw [← made256]
  exact h
theorem four0 (w : World) (xs : List Value) (t : TypeId) (b c d : Obj) : Blk ((((w.alloc (.cells xs.toArray t)).alloc b).alloc c).alloc d).drew w.heap.size xs t :=
  ((((Blk.new w xs t).below (below1 _ b) (by simp)).below (below1 _ c) (by simp; omega)).below (below1 _ d).drew (by simp; omega))
theorem four1 (w : World) (xs : List Value) (t : TypeId) (a c d : Obj) : Blk ((((w.alloc a).alloc (.cells xs.toArray t)).alloc c).alloc d).drew (w.heap.size + 1) xs t := by
  have h := Blk.new (w.alloc a) xs t
  rw [World.size_alloc] at h
  exact (h.below (below1 _ c) (by simp)).below (below1 _ d).drew (by simp)
theorem four2 (w : World) (xs : List Value) (t : TypeId) (a b d : Obj) : Blk ((((w.alloc a).alloc b).alloc (.cells xs.toArray t)).alloc d).drew (w.heap.size + 1 + 1) xs t := by
  have h := Blk.new ((w.alloc a).alloc b) xs t
  rw [World.size_alloc, World.size_alloc] at h
  exact h.below (below1 _ d).drew (by simp)
theorem four3 (w : World) (xs : List Value) (t : TypeId) (a b c : Obj) : Blk ((((w.alloc a).alloc b).alloc c).alloc (.cells xs.toArray t)).drew (w.heap.size + 1 + 1 + 1) xs t := by
  have h := Blk.new (((w.alloc a).alloc b).alloc c) xs t
  rw [World.size_alloc, World.size_alloc, World.size_alloc] at h
  exact h
theorem four_below (w : World) (a b c d : Obj) : Below w.heap.size w ((((w.alloc a).alloc b).alloc c).alloc d).drew :=
  (((((Below.refl _ w).alloc (Nat.le_refl _) a).alloc (by simp) b).alloc (by simp; omega) c).alloc (by simp; omega) d).drew
/-- What the counting keeps. -/
def cntI (c1 c2 p1 p2 : Nat) (W : World) (F : Nat → Prop) (acc : List (Bool × Int × Int × Int)) : Prop :=
  Blk W c1 [.slice (some ⟨p1, 0, none⟩) 256 256] 23 ∧ Blk W c2 [.slice (some ⟨p2, 0, none⟩) 256 256] 23 ∧ Blk W p1 (ints .i64 (tally true acc)) 3 ∧ Blk W p2 (ints .i64 (tally false acc)) 3 ∧ F = fun q => q = p1 ∨ q = p2
theorem ints_set (xs : List Int) (i : Nat) (x : Int) : (ints .i64 xs).set i (.int .i64 x) = ints .i64 (xs.set i x) := by simp [ints]
theorem cnt_step (c1 c2 p1 p2 : Nat) (first : Bool) (t : Int × Int × Int) (W : World) (F : Nat → Prop) (acc : List (Bool × Int × Int × Int)) (h : cntI c1 c2 p1 p2 W F acc) (hacc : acc.length < 25600) (hg : goodT t) (h1 : c1 ≠ p1) (h2 : c1 ≠ p2) (h3 : c2 ≠ p1) (h4 : c2 ≠ p2) (h5 : p1 ≠ p2) :
    Calls Try.prog 39 #[tokV t, .bool first, .pointer (some ⟨c1, 0, none⟩), .pointer (some ⟨c2, 0, none⟩)] W fun e W' => e = .returned (.tuple #[]) ∧ ∃ F', cntI c1 c2 p1 p2 W' F' (acc ++ [(first, t)]) ∧ Only F W W' ∧ ∀ q, F' q → F q ∨ W.heap.size ≤ q := by
  obtain ⟨hc1, hc2, hp1, hp2, rfl⟩ := h
  obtain ⟨t0, t1, t2⟩ := t
  have hs := hg.2
  simp only at hs
  obtain ⟨S, hS⟩ : ∃ S : Nat, t0 = (S : Int) := ⟨t0.toNat, by omega⟩
  subst hS
  have hS256 : S < 256 := by omega
  have hb0 := below1 W (.cells #[.int .i64 (S : Int), .int .i64 t1, .int .i64 t2] 76)
  have d1 := (hc1.below hb0 hc1.lt).cell (i := 0) (v := .slice (some ⟨p1, 0, none⟩) 256 256) rfl
  have d2 := (hc2.below hb0 hc2.lt).cell (i := 0) (v := .slice (some ⟨p2, 0, none⟩) 256 256) rfl
  have hz0 : (W.alloc (.cells #[.int .i64 (S : Int), .int .i64 t1, .int .i64 t2] 76)).heap.size = W.heap.size + 1 := by simp
  cases first with
  | true =>
    obtain ⟨x, hx⟩ := some_at (xs := tally true acc) (j := S) (by rw [tally_length]; exact hS256)
    have hxb := tally_in true acc x (List.mem_of_getElem? hx)
    have hB := hp1.below hb0 hp1.lt
    have k1 := hB.cell (i := S) (v := .int .i64 x) (ints_at hx)
    have f1 := hB.frozen S
    have hB2 := hB.set S (.int .i64 (x + 1))
    have hbump : (ints .i64 (tally true acc)).set S (.int .i64 (x + 1)) = ints .i64 (tally true (acc ++ [(true, (S : Int), t1, t2)])) := by
      rw [tally_snoc, if_pos rfl, ints_set]; unfold bump
      rw [Int.toNat_natCast, List.getD_eq_getElem?_getD, hx]; rfl
    rw [hbump] at hB2
    have hsame : tally false (acc ++ [(true, (S : Int), t1, t2)]) = tally false acc := by rw [tally_snoc, if_neg (by simp)]
    have hg2 := grown_setCell (W.alloc (.cells #[.int .i64 (S : Int), .int .i64 t1, .int .i64 t2] 76)) p1 S (.int .i64 (x + 1))
    have hw : IntKind.i64.wrap (x + 1) = x + 1 := by rw [IntKind.wrap_i64]; omega
    have hres : Hid (∃ F', cntI c1 c2 p1 p2 ((W.alloc (.cells #[.int .i64 (S : Int), .int .i64 t1, .int .i64 t2] 76)).setCell ⟨p1, S, none⟩ (.int .i64 (x + 1))) F' (acc ++ [(true, (S : Int), t1, t2)]) ∧ Only (fun q => q = p1 ∨ q = p2) W ((W.alloc (.cells #[.int .i64 (S : Int), .int .i64 t1, .int .i64 t2] 76)).setCell ⟨p1, S, none⟩ (.int .i64 (x + 1))) ∧ ∀ q, F' q → (fun q => q = p1 ∨ q = p2) q ∨ W.heap.size ≤ q) :=
      ⟨fun q => q = p1 ∨ q = p2, ⟨(hc1.below hb0 hc1.lt).kept hg2 (by simpa using h1), (hc2.below hb0 hc2.lt).kept hg2 (by simpa using h3), hB2, by rw [hsame]; exact (hp2.below hb0 hp2.lt).kept hg2 (by simpa using h5.symm), rfl⟩,
        (Only.of_below hb0 (Nat.le_refl _) : Only (fun q => q = p1 ∨ q = p2) _ _).trans (Only.of_grown hg2 (F := fun q => q = p1 ∨ q = p2) (fun g e => .inl (.inl (by injection e with e; exact e.symm)))) (fun q h => .inl h), fun q h => .inl h⟩
    clear hB2 hbump hsame hg2 hc1 hc2 hp1 hp2 hB hb0 hx hxb hg
    unfold tokV
    go_enter Try.func39, Try.ntmps39
    go_wp2_with fail
    go_end0
    exact ⟨rfl, hres.out⟩
  | false =>
    obtain ⟨x, hx⟩ := some_at (xs := tally false acc) (j := S) (by rw [tally_length]; exact hS256)
    have hxb := tally_in false acc x (List.mem_of_getElem? hx)
    have hB := hp2.below hb0 hp2.lt
    have k1 := hB.cell (i := S) (v := .int .i64 x) (ints_at hx)
    have f1 := hB.frozen S
    have hB2 := hB.set S (.int .i64 (x + 1))
    have hbump : (ints .i64 (tally false acc)).set S (.int .i64 (x + 1)) = ints .i64 (tally false (acc ++ [(false, (S : Int), t1, t2)])) := by
      rw [tally_snoc, if_pos rfl, ints_set]; unfold bump
      rw [Int.toNat_natCast, List.getD_eq_getElem?_getD, hx]; rfl
    rw [hbump] at hB2
    have hsame : tally true (acc ++ [(false, (S : Int), t1, t2)]) = tally true acc := by rw [tally_snoc, if_neg (by simp)]
    have hg2 := grown_setCell (W.alloc (.cells #[.int .i64 (S : Int), .int .i64 t1, .int .i64 t2] 76)) p2 S (.int .i64 (x + 1))
    have hw : IntKind.i64.wrap (x + 1) = x + 1 := by rw [IntKind.wrap_i64]; omega
    have hres : Hid (∃ F', cntI c1 c2 p1 p2 ((W.alloc (.cells #[.int .i64 (S : Int), .int .i64 t1, .int .i64 t2] 76)).setCell ⟨p2, S, none⟩ (.int .i64 (x + 1))) F' (acc ++ [(false, (S : Int), t1, t2)]) ∧ Only (fun q => q = p1 ∨ q = p2) W ((W.alloc (.cells #[.int .i64 (S : Int), .int .i64 t1, .int .i64 t2] 76)).setCell ⟨p2, S, none⟩ (.int .i64 (x + 1))) ∧ ∀ q, F' q → (fun q => q = p1 ∨ q = p2) q ∨ W.heap.size ≤ q) :=
      ⟨fun q => q = p1 ∨ q = p2, ⟨(hc1.below hb0 hc1.lt).kept hg2 (by simpa using h2), (hc2.below hb0 hc2.lt).kept hg2 (by simpa using h4), by rw [hsame]; exact (hp1.below hb0 hp1.lt).kept hg2 (by simpa using h5), hB2, rfl⟩,
        (Only.of_below hb0 (Nat.le_refl _) : Only (fun q => q = p1 ∨ q = p2) _ _).trans (Only.of_grown hg2 (F := fun q => q = p1 ∨ q = p2) (fun g e => .inl (.inr (by injection e with e; exact e.symm)))) (fun q h => .inl h), fun q h => .inl h⟩
    clear hB2 hbump hsame hg2 hc1 hc2 hp1 hp2 hB hb0 hx hxb hg
    unfold tokV
    go_enter Try.func39, Try.ntmps39
    go_wp2_with fail
    go_end0
    exact ⟨rfl, hres.out⟩
theorem cnt_taker (c1 c2 p1 p2 G : Nat) (h1 : c1 ≠ p1) (h2 : c1 ≠ p2) (h3 : c2 ≠ p1) (h4 : c2 ≠ p2) (h5 : p1 ≠ p2) (g1 : G ≤ p1) (g2 : G ≤ p2) : Taker 39 #[.pointer (some ⟨c1, 0, none⟩), .pointer (some ⟨c2, 0, none⟩)] G (cntI c1 c2 p1 p2) where
  enters := Enters.of Try.func39 (by kernel_rfl) (by kernel_rfl)
  foot h q hq := by
    obtain ⟨_, _, hp1, hp2, rfl⟩ := h
    rcases hq with rfl | rfl
    · exact ⟨hp1.lt, g1⟩
    · exact ⟨hp2.lt, g2⟩
  keep h hb := by
    obtain ⟨hc1, hc2, hp1, hp2, rfl⟩ := h
    exact ⟨hc1.below hb hc1.lt, hc2.below hb hc2.lt, hp1.below hb hp1.lt, hp2.below hb hp2.lt, rfl⟩
  take first t h ha hg := cnt_step c1 c2 p1 p2 first t _ _ _ h ha hg h1 h2 h3 h4 h5
set_option maxHeartbeats 4000000 in
theorem segCounts_any (L : List (List Int)) (A : Option Addr) (c G : Nat) (w : World) (hl : ∀ r ∈ L, r.length = 64) (hm : L.length ≤ maxLen) (hs : L.length ≤ 400 → Seen w G A (rowsC L)) (hG : G ≤ w.heap.size) :
    Calls Try.prog 19 #[.slice A L.length c] w fun e w' => ∃ v1 v2, e = .returned (.tuple #[v1, v2, .int .i64 (eL L)]) ∧ Owns w.heap.size [intRow 3 .i64 v1 (cntL true L), intRow 3 .i64 v2 (cntL false L)] w' ∧ Below w.heap.size w w' := by
  have HEa := veil (fun c1 c2 p1 p2 W (hT : Taker 39 #[.pointer (some ⟨c1, 0, none⟩), .pointer (some ⟨c2, 0, none⟩)] w.heap.size (cntI c1 c2 p1 p2)) (hI : cntI c1 c2 p1 p2 W (fun q => q = p1 ∨ q = p2) []) (hb : Below w.heap.size w W) =>
    eachToken_any _ _ w.heap.size (cntI c1 c2 p1 p2) hT (fun q => q = p1 ∨ q = p2) L A c W hl hm (fun h => ((hs h).below hb hG).up hG) hb.size hI)
  obtain ⟨E, hE⟩ : ∃ E, E = eL L := ⟨_, rfl⟩
  obtain ⟨X, hX⟩ : ∃ X, X = cntL true L := ⟨_, rfl⟩
  obtain ⟨Y, hY⟩ : ∃ Y, Y = cntL false L := ⟨_, rfl⟩
  rw [← hE, ← hX, ← hY]
  rw [← hE] at HEa
  have HXe : Hid (E ≠ 0 → X = [] ∧ Y = []) := fun h => ⟨hX.trans (if_neg (by rw [← hE]; exact h)), hY.trans (if_neg (by rw [← hE]; exact h))⟩
  have HXo : Hid (E = 0 → X = tally true (toksB 0 L) ∧ Y = tally false (toksB 0 L)) := fun h => ⟨hX.trans (if_pos (by rw [← hE]; exact h)), hY.trans (if_pos (by rw [← hE]; exact h))⟩
  have HE := veil hE
  clear hX hY
  have hmk := run_make256
  clear hE hs
  go_enter Try.func19, Try.ntmps19
  go_wp2_with fail
  go_cut [5, 6] (fun v5 v6 wx => ∃ c1 c2 p1 p2 : Nat, v5 = .pointer (some ⟨c1, 0, none⟩) ∧ v6 = .pointer (some ⟨c2, 0, none⟩) ∧ Blk wx c1 [.slice (some ⟨p1, 0, none⟩) 256 256] 23 ∧ Blk wx c2 [.slice (some ⟨p2, 0, none⟩) 256 256] 23 ∧ Blk wx p1 zero256 3 ∧ Blk wx p2 zero256 3 ∧ c1 ≠ c2 ∧ p1 ≠ p2 ∧ c1 ≠ p1 ∧ c1 ≠ p2 ∧ c2 ≠ p1 ∧ c2 ≠ p2 ∧ w.heap.size ≤ c1 ∧ w.heap.size ≤ c2 ∧ w.heap.size ≤ p1 ∧ w.heap.size ≤ p2 ∧ Below w.heap.size w wx)
  case first =>
    go_region
    all_goals (go_wp2; go_meet)
    all_goals refine ⟨_, _, _, _, rfl, rfl, (by first | exact four0 _ _ _ _ _ _ | exact four1 _ _ _ _ _ _ | exact four2 _ _ _ _ _ _ | exact four3 _ _ _ _ _ _), (by first | exact four0 _ _ _ _ _ _ | exact four1 _ _ _ _ _ _ | exact four2 _ _ _ _ _ _ | exact four3 _ _ _ _ _ _), (by first | exact four0 _ _ _ _ _ _ | exact four1 _ _ _ _ _ _ | exact four2 _ _ _ _ _ _ | exact four3 _ _ _ _ _ _), (by first | exact four0 _ _ _ _ _ _ | exact four1 _ _ _ _ _ _ | exact four2 _ _ _ _ _ _ | exact four3 _ _ _ _ _ _), by omega, by omega, by omega, by omega, by omega, by omega, by omega, by omega, by omega, by omega, four_below _ _ _ _ _⟩
  case rest =>
    obtain ⟨c1, c2, p1, p2, rfl, rfl, hc1, hc2, hp1, hp2, n1, n2, n3, n4, n5, n6, l1, l2, l3, l4, hb⟩ := hcut
    have HEc := veil (HEa.out c1 c2 p1 p2 wc (cnt_taker c1 c2 p1 p2 w.heap.size n3 n4 n5 n6 n2 l3 l4) ⟨hc1, hc2, hp1, hp2, rfl⟩ hb)
    have hzc := hb.size
    clear hmk HEa hc1 hc2 hp1 hp2
    go_wp2_with fail
    refine HEc.out.mono ?_
    rintro e w2 ⟨rfl, F, acc, ⟨hc1, hc2, hp1, hp2, rfl⟩, hOn, _, hacc⟩
    have hb2 : Below w.heap.size w w2 := hb.trans (hOn.below hzc (fun q hq => by rcases hq with rfl | rfl <;> assumption))
    have hl1 := tally_length true acc
    have hl2 := tally_length false acc
    by_cases h0 : E = 0
    · subst h0
      have hac := hacc rfl
      have d1 := hc1.cell (i := 0) (v := .slice (some ⟨p1, 0, none⟩) 256 256) rfl
      have d2 := hc2.cell (i := 0) (v := .slice (some ⟨p2, 0, none⟩) 256 256) rfl
      have own := fun (p : Nat) (X : List Int) (hx : X.length = 256) (hp : Blk w2 p (ints .i64 X) 3) (hw : w.heap.size ≤ p) =>
        (⟨by rw [ints_length, hx], .inr ⟨p, 256, (ints .i64 X).toArray, rfl, hw, hp, by omega, by unfold maxLen; omega, by simp [ints_length, hx], by rw [List.take_of_length_le (by simp [ints_length, hx])]⟩⟩ : w2.ownsRow w.heap.size 3 1 (.slice (some ⟨p, 0, none⟩) 256 256) 256 (ints .i64 X))
      have o1 := own p1 _ hl1 hp1 l3
      have o2 := own p2 _ hl2 hp2 l4
      have HOw : Hid (Owns w.heap.size [intRow 3 .i64 (.slice (some ⟨p1, 0, none⟩) 256 256) (tally true acc), intRow 3 .i64 (.slice (some ⟨p2, 0, none⟩) 256 256) (tally false acc)] w2) :=
        ⟨hb2.size, fun r hr => by
          rcases List.mem_cons.1 hr with rfl | hr
          · simp only [intRow, hl1]; exact o1
          · rw [List.mem_singleton.1 hr]; simp only [intRow, hl2]; exact o2, by
          refine List.pairwise_cons.2 ⟨fun s hs g hg hg2 => ?_, List.pairwise_singleton _ _⟩
          rw [List.mem_singleton.1 hs] at hg2
          simp only [intRow, Value.ownBlock] at hg hg2
          injection hg with hg; injection hg2 with hg2; omega⟩
      clear own o1 o2 hc1 hc2 hp1 hp2 hacc hOn
      go_wp2_with fail
      go_quiet (fail)
      go_wp2_with fail
      go_ret3
      exact ⟨_, _, rfl, by rw [(HXo.out trivial).1, (HXo.out trivial).2, ← hac]; exact HOw.out.drewN _, hb2.drewN _⟩
    · have hbe : (E != 0) = true := by simpa using h0
      have H0 := veil h0
      clear h0 hacc hOn hc1 hc2 hp1 hp2
      go_wp2_with fail
      go_ret3
      exact ⟨_, _, rfl, by rw [(HXe.out H0.out).1, (HXe.out H0.out).2]; exact ((Owns.nil hb2.size).fresh _ _).fresh _ _, hb2⟩
end Go.Proofs.Ytddkhkpdbjjboaa
