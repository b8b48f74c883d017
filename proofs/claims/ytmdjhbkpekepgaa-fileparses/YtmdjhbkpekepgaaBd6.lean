/- Texts shared by the claims of this seat, in one. -/
import Derived.Test.YtmdjhbkpekepgaaBd3
import Derived.Test.YtmdjhbkpekepgaaBd2
import Derived.Test.YtmdjhbkpekepgaaBd4
import Derived.Test.YtmdjhbkpekepgaaBd1
import Derived.Deep.Cut
import Derived.Deep.DeepCutAuto
import Derived.StillTailTactics
import Derived.Test.YtmdjhbkpekepgaaRows
import Derived.Lib.SliceRun
/- file.Check: its contract. -/
namespace Go.Proofs.Ytmdjhbkpekepgaa
open Go.RowKit
set_option linter.unusedVariables false
set_option linter.unusedSimpArgs false
set_option maxRecDepth 100000

theorem side_any (n : Int) (b : Bool) (w : World) (h : b = true ↔ 1 ≤ n ∧ n ≤ 64) :
    Calls Try.prog 19 #[.int .i64 n] w fun e w' => e = .returned (.bool b) ∧ w = w' := by
  go_enter Try.func19, Try.ntmps19
  cases b with
  | true =>
    obtain ⟨h1, h2⟩ := h.1 rfl
    have d1 : decide (1 ≤ n) = true := decide_eq_true h1
    have d2 : decide (n ≤ 64) = true := decide_eq_true h2
    clear h
    go_wp2
    go_ret
    exact ⟨rfl, rfl⟩
  | false =>
    have h1 : ¬ (1 ≤ n ∧ n ≤ 64) := fun g => by have := h.2 g; simp at this
    clear h
    by_cases h2 : 1 ≤ n
    · have h3 : ¬ n ≤ 64 := by omega
      clear h1
      go_wp2
      go_ret
      exact ⟨rfl, rfl⟩
    · clear h1
      go_wp2
      go_ret
      exact ⟨rfl, rfl⟩
set_option maxRecDepth 100000 in
set_option maxHeartbeats 2000000 in
theorem fileCheck_any : FCheckSpec := by
  intro f A c A2 c2 A3 c3 G w hf hG
  have hb0 := below1 w (.cells (fileCells f A c A2 c2 A3 c3).toArray 32)
  have hz0 : (w.alloc (.cells (fileCells f A c A2 c2 A3 c3).toArray 32)).heap.size = w.heap.size + 1 := by simp
  have hat := fileAt_of hf.form (range_new w (fileCells f A c A2 c2 A3 c3) 32)
  have HC1 := veil (fun W (h : FileIn f A c A2 c2 A3 c3 G W) hG => check_any f.cs f.syms A c G W h.form.cs h.max h.bnd h.see hG)
  have HC2 := veil (fun W (h : FileIn f A c A2 c2 A3 c3 G W) hG => check_any f.cs2 f.syms2 A2 c2 G W h.form.cs2 h.max2 h.bnd2 h.see2 hG)
  have HW := veil (fun W => qcheck_any f.q W hf.form.q)
  have HS := veil side_any
  have H1 := veil (@eFile_bad f)
  have H2 := veil (@eFile_tabs f)
  have H3 := veil (@eFile_large f)
  have H4 := veil (@eFile_ok f)
  have HB : Hid (badF f ↔ f.wide < 1 ∨ 64 < f.wide ∨ f.high < 1 ∨ 64 < f.high ∨ (f.parts ≠ 1 ∧ f.parts ≠ 3) ∨ f.every < 0 ∨ 100 < f.every ∨ inB 1 255 f.q = false) := Iff.rfl
  have Hq : Hid ((ints .i64 f.q).length = 64) := by show _ = _; rw [ints_length, hf.form.q]
  have L1 : Hid ((tabCells f.cs A f.syms.length c).length = 17) := tabCells_length hf.form.cs
  have L2 : Hid ((tabCells f.cs2 A2 f.syms2.length c2).length = 17) := tabCells_length hf.form.cs2
  have HE : Hid (eTs f.cs f.syms f.cs2 f.syms2 = if checkErr f.cs f.syms = 0 then checkErr f.cs2 f.syms2 else checkErr f.cs f.syms) := rfl
  have HQ : Hid (badB 1 255 f.q = if inB 1 255 f.q = true then 0 else 1) := rfl
  have Hf := veil hf
  clear hf
  obtain ⟨k1, k2, k3, hq, ht, k4, k5⟩ := hat
  have ht1 := range_left ht
  have ht2 := range_right ht
  rw [L1.out] at ht2
  unfold fileV
  unfold blkV at HW
  unfold tabV at HC1 HC2
  clear ht
  generalize fileCells f A c A2 c2 A3 c3 = zs at *
  generalize tabCells f.cs A f.syms.length c = t1 at *
  generalize tabCells f.cs2 A2 f.syms2.length c2 = t2 at *
  generalize ints .i64 f.q = xs at *
  generalize badB 1 255 f.q = eq at *
  generalize inB 1 255 f.q = qb at *
  generalize eTs f.cs f.syms f.cs2 f.syms2 = et at *
  generalize checkErr f.cs f.syms = e1 at *
  generalize checkErr f.cs2 f.syms2 = e2 at *
  generalize eFile f = E at *
  generalize f.wide = wide at *
  generalize f.high = high at *
  generalize f.parts = parts at *
  generalize f.every = every at *
  go_enter Try.func9, Try.ntmps9
  go_wp2_with fail
  by_cases b1 : 1 ≤ wide ∧ wide ≤ 64
  case neg =>
    refine (HS.out wide false _ (by simpa using b1)).mono ?_
    rintro e _ ⟨rfl, rfl⟩
    have hE := H1.out (HB.out.2 (by omega))
    subst hE
    go_wp2
    go_ret
    exact ⟨rfl, hb0⟩
  refine (HS.out wide true _ (by simpa using b1)).mono ?_
  rintro e _ ⟨rfl, rfl⟩
  go_wp2_with fail
  by_cases b2 : 1 ≤ high ∧ high ≤ 64
  case neg =>
    refine (HS.out high false _ (by simpa using b2)).mono ?_
    rintro e _ ⟨rfl, rfl⟩
    have hE := H1.out (HB.out.2 (by omega))
    subst hE
    go_wp2
    go_ret
    exact ⟨rfl, hb0⟩
  refine (HS.out high true _ (by simpa using b2)).mono ?_
  rintro e _ ⟨rfl, rfl⟩
  by_cases bp : parts ≠ 1 ∧ parts ≠ 3
  · have hE := H1.out (HB.out.2 (by omega))
    subst hE
    have n1 := bp.1
    have n3 := bp.2
    clear bp
    have d1 : (parts != 1) = true := by simpa using n1
    have d3 : (parts != 3) = true := by simpa using n3
    clear n1 n3
    go_wp2
    go_ret
    exact ⟨rfl, hb0⟩
  have g13 : parts = 1 ∨ parts = 3 := by omega
  have HX := veil bp
  clear bp
  rcases g13 with rfl | rfl
  all_goals
    by_cases b5 : every < 0
    · have hE := H1.out (HB.out.2 (by omega))
      subst hE
      go_wp2
      go_ret
      exact ⟨rfl, hb0⟩
    by_cases b6 : 100 < every
    · have hE := H1.out (HB.out.2 (by omega))
      subst hE
      go_wp2
      go_ret
      exact ⟨rfl, hb0⟩
    go_wp2_with (first
      | (refine wpList_load_long rfl 23 (.tmp 36) rfl w.heap.size 3 rfl xs _ (by simpa using hq) Try.underlying23 rfl (info_blkn Hq.out) ?_)
      | fail)
    refine (HW.out _).mono ?_
    rintro e w1 ⟨rfl, hb1⟩
    have hbw := hb0.trans (hb1.mono (by rw [hz0]; omega))
    have ht1' := range_below ht1 hb1 (by rw [hz0]; omega)
    have ht2' := range_below ht2 hb1 (by rw [hz0]; omega)
    have k5' := (hb1.cell (show w.heap.size < _ by rw [hz0]; omega)).trans k5
    have hz1 : w.heap.size + 1 ≤ w1.heap.size := by have := hb1.size; omega
    clear hq ht1 ht2 k1 k2 k3 k4 k5 hb1
    cases qb with
    | false =>
      have hE := H1.out (HB.out.2 (by simp))
      have he : eq = 1 := HQ.out
      subst hE he
      go_wp2
      go_ret
      exact ⟨rfl, hbw⟩
    | true =>
      have hnb : ¬ badF f := fun h => by have := HB.out.1 h; simp at this; omega
      have he : eq = 0 := HQ.out
      subst he
      go_wp2_with (first
        | (refine wpList_load_mid rfl 27 (.tmp 43) rfl w.heap.size 67 rfl t1 _ (by simpa using ht1') Try.underlying27 rfl (by rw [L1.out]; exact info_tab) ?_)
        | fail)
      refine (HC1.out w1 (Hf.out.below hbw (by omega)) (by omega)).mono ?_
      rintro e w2 ⟨rfl, hb2⟩
      have hbf := hbw.trans (hb2.mono (by omega))
      have k6 := (hb2.cell (show w.heap.size < _ by omega)).trans k5'
      have ht2'' := range_below ht2' hb2 (by omega)
      have hz2 := hb2.size
      clear k5' hb2 HC1 HW ht1' ht2'
      by_cases h0 : e1 = 0
      · subst h0
        have he2 : et = e2 := HE.out
        go_wp2_with (first
          | (refine wpList_load_mid rfl 27 (.tmp 50) rfl w.heap.size 84 rfl t2 _ (by simpa using ht2'') Try.underlying27 rfl (by rw [L2.out]; exact info_tab) ?_)
          | fail)
        refine (HC2.out w2 (Hf.out.below hbf (by omega)) (by omega)).mono ?_
        rintro e w3 ⟨rfl, hb3⟩
        have hbg := hbf.trans (hb3.mono (by omega))
        have k7 := (hb3.cell (show w.heap.size < _ by omega)).trans k6
        clear k6 hb3 HC2 ht2'' hbf
        subst he2
        by_cases h0 : et = 0
        · subst h0
          by_cases h1 : 90000 < f.data.length
          · have hE := H3.out hnb rfl h1
            subst hE
            have h2 : (90000 : Int) < f.data.length := by omega
            go_wp2
            go_ret
            exact ⟨rfl, hbg⟩
          · have hE := H4.out hnb rfl h1
            subst hE
            have h2 : ¬ (90000 : Int) < f.data.length := by omega
            go_wp2
            go_ret
            exact ⟨rfl, hbg⟩
        · have hE := H2.out hnb h0
          subst hE
          have hne : (E != 0) = true := by simpa using h0
          clear h0
          go_wp2
          go_ret
          exact ⟨rfl, hbg⟩
      · have he2 : et = e1 := by have := HE.out; rw [if_neg h0] at this; exact this
        have hE := H2.out hnb (by rw [he2]; exact h0)
        subst he2
        subst hE
        have hne : (E != 0) = true := by simpa using h0
        clear h0
        go_wp2
        go_ret
        exact ⟨rfl, hbf⟩
end Go.Proofs.Ytmdjhbkpekepgaa

/- What file's reader reads, in numbers: also where the bytes end too soon. -/
namespace Go.Proofs.Ytmdjhbkpekepgaa
open Go.RowKit
set_option linter.unusedVariables false
set_option linter.unusedSimpArgs false
set_option maxRecDepth 100000

/-- Bytes as a number. -/
def numL (l : List Int) : Int := l.foldl (fun n x => 256 * n + x) 0
theorem numL_snoc (l : List Int) (x : Int) : numL (l ++ [x]) = 256 * numL l + x := by simp [numL, List.foldl_append]
theorem numL_one (l : List Int) : numL (l.take 1) = l.getD 0 0 := by cases l <;> simp [numL]
theorem numL_two {l : List Int} (h : 2 ≤ l.length) : numL (l.take 2) = 256 * l.getD 0 0 + l.getD 1 0 := by
  match l, h with
  | a :: b :: l, _ => simp [numL]
theorem numL_bnd {l : List Int} (h : Bytes l) (hl : l.length ≤ 2) : 0 ≤ numL l ∧ numL l ≤ 65535 := by
  match l, hl with
  | [], _ => simp [numL]
  | [a], _ => have := h a (by simp); simp [numL]; omega
  | [a, b], _ => have := h a (by simp); have := h b (by simp); simp [numL]; omega
theorem Bytes.drop' {l : List Int} (h : Bytes l) (n : Nat) : Bytes (l.drop n) := fun x hx => h x (List.mem_of_mem_drop hx)
theorem Bytes.take' {l : List Int} (h : Bytes l) (n : Nat) : Bytes (l.take n) := fun x hx => h x (List.mem_of_mem_take hx)
/-- A table's counts, as they are read. -/
def cntR (r : List Int) : List Int := (List.range 16).map fun j => numL ((r.drop (2 * j)).take 2)
theorem cntR_length (r : List Int) : (cntR r).length = 16 := by simp [cntR]
theorem cntR_at (r : List Int) {j : Nat} (hj : j < 16) : (cntR r)[j]? = some (numL ((r.drop (2 * j)).take 2)) := by
  unfold cntR; rw [List.getElem?_map, List.getElem?_range hj]; rfl
theorem cntR_is {r : List Int} (h : 32 ≤ r.length) : cntR r = cntN 16 r := by
  unfold cntR cntN
  refine List.map_congr_left fun j hj => ?_
  have h1 := List.mem_range.1 hj
  rw [numL_two (by rw [List.length_drop]; omega)]
  simp [List.getD_eq_getElem?_getD, List.getElem?_drop]
theorem cntR_bnd {r : List Int} (h : Bytes r) : ∀ x ∈ cntR r, 0 ≤ x ∧ x ≤ 65535 := by
  intro x hx
  obtain ⟨j, _, rfl⟩ := List.mem_map.1 hx
  exact numL_bnd ((h.drop' _).take' 2) (by rw [List.length_take]; omega)
theorem sumW_bnd {l : List Int} (h : ∀ x ∈ l, 0 ≤ x ∧ x ≤ 65535) : 0 ≤ sumW l ∧ sumW l ≤ 65535 * l.length := by
  induction l with
  | nil => simp [sumW]
  | cons x l ih => have h1 := h x (by simp); have h2 := ih fun y hy => h y (by simp [hy]); simp only [sumW, List.foldr_cons, List.length_cons] at h2 ⊢; omega
def lenR (r : List Int) : Nat := (sumW (cntR r)).toNat
theorem lenR_is {r : List Int} (h : Bytes r) : (lenR r : Int) = sumW (cntR r) ∧ lenR r ≤ 1048560 := by
  have h1 := sumW_bnd (cntR_bnd h)
  rw [cntR_length] at h1
  unfold lenR; omega
/-- A table's symbols; what is left behind it; whether it is cut off. -/
def symR (r : List Int) : List Int := (r.drop 32).take (lenR r)
def restR (r : List Int) : List Int := r.drop (32 + lenR r)
def shortR (r : List Int) : Bool := decide (r.length < 32 + lenR r)
theorem short_next (s : Bool) {n m : Nat} (r : List Int) (hm : 0 < m) : (s || decide (r.length < n) || decide ((r.drop n).length < m)) = (s || decide (r.length < n + m)) := by
  rw [List.length_drop]
  cases s
  · simp only [Bool.false_or, ← Bool.decide_or]; congr 1; apply propext; omega
  · simp
theorem short_tab (s : Bool) (r : List Int) : (s || decide (r.length < 32) || decide ((r.drop 32).length < lenR r)) = (s || shortR r) := by
  rw [List.length_drop]
  unfold shortR
  cases s
  · simp only [Bool.false_or, ← Bool.decide_or]; congr 1; apply propext; omega
  · simp
/-- What file reads behind the first two bytes. -/
def qR (r : List Int) : List Int := (List.range 64).map fun i => r.getD (4 + i) 0
theorem qR_length (r : List Int) : (qR r).length = 64 := by simp [qR]
theorem qR_is {r : List Int} (h : 68 ≤ r.length) : qR r = (r.drop 4).take 64 := by
  apply List.ext_getElem?
  intro i
  unfold qR
  rw [List.getElem?_map, List.getElem?_take, List.getElem?_drop]
  by_cases hi : i < 64
  · rw [List.getElem?_range hi, if_pos hi, Option.map_some, getD_some (by omega)]
  · rw [if_neg hi, List.getElem?_eq_none (by simp; omega)]; rfl
def fileR (r : List Int) : FileL :=
  { wide := r.getD 0 0, high := r.getD 1 0, parts := r.getD 2 0, q := fromL (qR r), cs := cntR (r.drop 68), syms := symR (r.drop 68),
    cs2 := cntR (restR (r.drop 68)), syms2 := symR (restR (r.drop 68)), every := r.getD 3 0, data := restR (restR (r.drop 68)) }
def fshortR (s : Bool) (r : List Int) : Bool := s || decide (r.length < 68) || shortR (r.drop 68) || shortR (restR (r.drop 68))
theorem fileR_form (r : List Int) : (fileR r).Form := ⟨fromK_length _ _, cntR_length _, cntR_length _⟩
theorem drop_getD (r : List Int) (n i : Nat) : (r.drop n).getD i 0 = r.getD (n + i) 0 := by simp [List.getD_eq_getElem?_getD, List.getElem?_drop]
theorem parts_of {bs : List Int} (h : fshortR (decide (bs.length < 2)) (bs.drop 2) = false) : ¬ shortF bs ∧ fileR (bs.drop 2) = readF bs ∧ 70 ≤ bs.length := by
  unfold fshortR shortR at h
  simp only [Bool.or_eq_false_iff, decide_eq_false_iff_not] at h
  obtain ⟨⟨⟨h1, h2⟩, h3⟩, h4⟩ := h
  have e0 : (bs.drop 2).drop 68 = bs.drop 70 := by rw [List.drop_drop]
  rw [e0] at h3 h4
  rw [List.length_drop] at h2 h3
  have c1 : cntR (bs.drop 70) = cntN 16 (bs.drop 70) := cntR_is (by rw [List.length_drop]; omega)
  have l1 : lenR (bs.drop 70) = n1F bs := by unfold lenR n1F; rw [c1]
  rw [l1] at h3
  have r1 : restR (bs.drop 70) = bs.drop (102 + n1F bs) := by unfold restR; rw [l1, List.drop_drop]; congr 1; omega
  rw [r1] at h4
  rw [List.length_drop] at h4
  have c2 : cntR (bs.drop (102 + n1F bs)) = cntN 16 (bs.drop (102 + n1F bs)) := cntR_is (by rw [List.length_drop]; omega)
  have l2 : lenR (bs.drop (102 + n1F bs)) = n2F bs := by unfold lenR n2F; rw [c2]
  rw [l2] at h4
  refine ⟨by unfold shortF; omega, ?_, by omega⟩
  unfold fileR readF
  rw [e0, r1, c1, c2]
  unfold symR restR
  rw [l1, l2, qR_is (by rw [List.length_drop]; omega)]
  simp only [drop_getD, List.drop_drop]
  congr 1
  · congr 1; congr 1; omega
  · congr 1; omega
theorem short_of {bs : List Int} (h : fshortR (decide (bs.length < 2)) (bs.drop 2) = true) : shortF bs := by
  have e0 : (bs.drop 2).drop 68 = bs.drop 70 := by rw [List.drop_drop]
  unfold fshortR shortR at h
  rw [e0] at h
  by_cases h70 : bs.length < 102
  · exact .inl h70
  have c1 : cntR (bs.drop 70) = cntN 16 (bs.drop 70) := cntR_is (by rw [List.length_drop]; omega)
  have l1 : lenR (bs.drop 70) = n1F bs := by unfold lenR n1F; rw [c1]
  have r1 : restR (bs.drop 70) = bs.drop (102 + n1F bs) := by unfold restR; rw [l1, List.drop_drop]; congr 1; omega
  rw [l1, r1] at h
  by_cases h71 : bs.length < 102 + n1F bs
  · exact .inr (.inl h71)
  by_cases h72 : bs.length < 134 + n1F bs
  · exact .inr (.inr (.inl h72))
  have c2 : cntR (bs.drop (102 + n1F bs)) = cntN 16 (bs.drop (102 + n1F bs)) := cntR_is (by rw [List.length_drop]; omega)
  have l2 : lenR (bs.drop (102 + n1F bs)) = n2F bs := by unfold lenR n2F; rw [c2]
  rw [l2] at h
  simp only [Bool.or_eq_true, decide_eq_true_eq, List.length_drop] at h
  exact .inr (.inr (.inr (by omega)))
/-- Counts made of bytes are their bytes. -/
theorem w2s_cntN : ∀ (n : Nat) (l : List Int), Bytes l → 2 * n ≤ l.length → w2s (cntN n l) = l.take (2 * n)
  | 0, l, _, _ => by simp [cntN, w2s]
  | n + 1, l, hb, hl => by
    have e : cntN (n + 1) l = cntN n l ++ [256 * l.getD (2 * n) 0 + l.getD (2 * n + 1) 0] := by unfold cntN; rw [List.range_succ, List.map_append]; rfl
    have g1 := getD_some (cs := l) (k := 2 * n) (by omega)
    have g2 := getD_some (cs := l) (k := 2 * n + 1) (by omega)
    have b1 := hb _ (List.mem_of_getElem? g1)
    have b2 := hb _ (List.mem_of_getElem? g2)
    rw [e, w2s_app, w2s_cntN n l hb (by omega), show 2 * (n + 1) = 2 * n + 1 + 1 by omega, take_snoc g2, take_snoc g1, List.append_assoc]
    congr 1
    show [(256 * l.getD (2 * n) 0 + l.getD (2 * n + 1) 0) / 256, (256 * l.getD (2 * n) 0 + l.getD (2 * n + 1) 0) % 256] = [l.getD (2 * n) 0, l.getD (2 * n + 1) 0]
    congr 1
    · omega
    · congr 1; omega
theorem take_add' (l : List Int) (n m : Nat) : l.take (n + m) = l.take n ++ (l.drop n).take m := by rw [List.take_add]
theorem pack_read {bs : List Int} (hb : Bytes bs) (h : ¬ shortF bs) (h2 : bs.take 2 = [77, 90]) : packF (readF bs) = bs := by
  unfold shortF at h
  have e1 : w2s (cntN 16 (bs.drop 70)) = (bs.drop 70).take 32 := w2s_cntN 16 _ (hb.drop' _) (by rw [List.length_drop]; omega)
  have e2 : w2s (cntN 16 (bs.drop (102 + n1F bs))) = (bs.drop (102 + n1F bs)).take 32 := w2s_cntN 16 _ (hb.drop' _) (by rw [List.length_drop]; omega)
  have hq : toL (fromL ((bs.drop 6).take 64)) = (bs.drop 6).take 64 := to_from (by rw [List.length_take, List.length_drop]; omega)
  have hh : headF (readF bs) = bs.take 70 := by
    have g : ∀ i, i < 70 → bs[i]? = some (bs.getD i 0) := fun i hi => getD_some (by omega)
    have t6 : bs.take 6 = [77, 90, bs.getD 2 0, bs.getD 3 0, bs.getD 4 0, bs.getD 5 0] := by
      rw [take_snoc (g 5 (by omega)), take_snoc (g 4 (by omega)), take_snoc (g 3 (by omega)), take_snoc (g 2 (by omega)), h2]; rfl
    show [77, 90, bs.getD 2 0, bs.getD 3 0, bs.getD 4 0, bs.getD 5 0] ++ toL (fromL ((bs.drop 6).take 64)) = _
    rw [hq, ← t6, show (70 : Nat) = 6 + 64 from rfl, take_add']
  have d1 : bs.drop 70 = (bs.drop 70).take 32 ++ bs.drop 102 := by have := List.take_append_drop 32 (bs.drop 70); rw [List.drop_drop] at this; exact this.symm
  have d2 : bs.drop 102 = (bs.drop 102).take (n1F bs) ++ bs.drop (102 + n1F bs) := by have := List.take_append_drop (n1F bs) (bs.drop 102); rw [List.drop_drop] at this; exact this.symm
  have d3 : bs.drop (102 + n1F bs) = (bs.drop (102 + n1F bs)).take 32 ++ bs.drop (134 + n1F bs) := by
    have := List.take_append_drop 32 (bs.drop (102 + n1F bs)); rw [List.drop_drop, show 102 + n1F bs + 32 = 134 + n1F bs by omega] at this; exact this.symm
  have d4 : bs.drop (134 + n1F bs) = (bs.drop (134 + n1F bs)).take (n2F bs) ++ bs.drop (134 + n1F bs + n2F bs) := by have := List.take_append_drop (n2F bs) (bs.drop (134 + n1F bs)); rw [List.drop_drop] at this; exact this.symm
  rw [packF, hh]
  unfold tabB
  show bs.take 70 ++ ((w2s (cntN 16 (bs.drop 70)) ++ (bs.drop 102).take (n1F bs)) ++ ((w2s (cntN 16 (bs.drop (102 + n1F bs))) ++ (bs.drop (134 + n1F bs)).take (n2F bs)) ++ bs.drop (134 + n1F bs + n2F bs))) = bs
  rw [e1, e2]
  have e4 := List.take_append_drop 70 bs
  rw [d1, d2, d3, d4] at e4
  simp only [List.append_assoc] at e4 ⊢
  exact e4
theorem pack_head {bs : List Int} (h : packF (readF bs) = bs) : bs.take 2 = [77, 90] := by rw [← h]; rfl
end Go.Proofs.Ytmdjhbkpekepgaa

/- Bitwise or and and of small numbers. -/
namespace Go.Proofs.Ytmdjhbkpekepgaa
open Go.RowKit
set_option linter.unusedVariables false
set_option linter.unusedSimpArgs false
set_option maxRecDepth 100000

theorem nat_or_low (a i b : Nat) (h : b < 2 ^ i) : a * 2 ^ i ||| b = a * 2 ^ i + b := by
  rw [Nat.mul_comm, Nat.two_pow_add_eq_or_of_lt h]
theorem i64_or (a b : Nat) (ha : a < 9223372036854775808) (hb : b < 9223372036854775808) : bits .or .i64 (a : Int) (b : Int) = ((a ||| b : Nat) : Int) := by
  have hx : a ||| b < 2 ^ 63 := Nat.or_lt_two_pow (by omega) (by omega)
  have e1 : (BitVec.ofInt 64 (a : Int)).toNat = a := by rw [BitVec.ofInt_natCast, BitVec.toNat_ofNat]; exact Nat.mod_eq_of_lt (by omega)
  have e2 : (BitVec.ofInt 64 (b : Int)).toNat = b := by rw [BitVec.ofInt_natCast, BitVec.toNat_ofNat]; exact Nat.mod_eq_of_lt (by omega)
  show IntKind.i64.wrap ((BitVec.ofInt 64 (a : Int) ||| BitVec.ofInt 64 (b : Int)).toNat : Int) = _
  rw [BitVec.toNat_or, e1, e2, IntKind.wrap_i64]
  omega
theorem or_byte (x y : Int) (h0 : 0 ≤ x) (h1 : x ≤ 65535) (hy : 0 ≤ y ∧ y ≤ 255) : bits BinOp.or IntKind.i64 (IntKind.i64.wrap (x * 256)) y = 256 * x + y := by
  obtain ⟨X, rfl⟩ := Int.eq_ofNat_of_zero_le h0
  obtain ⟨Y, rfl⟩ := Int.eq_ofNat_of_zero_le hy.1
  have e1 : IntKind.i64.wrap ((X : Int) * 256) = ((X * 2 ^ 8 : Nat) : Int) := by rw [IntKind.wrap_i64]; omega
  rw [e1, i64_or _ _ (by omega) (by omega), nat_or_low _ 8 _ (by omega)]
  omega
end Go.Proofs.Ytmdjhbkpekepgaa

/- file's reader: take, number; bytes.Clone: their contracts. -/
namespace Go.Proofs.Ytmdjhbkpekepgaa
open Go.RowKit
set_option linter.unusedVariables false
set_option linter.unusedSimpArgs false
set_option maxRecDepth 100000

/-- A reader in memory: what is left, and whether more was asked for. -/
structure RdAt (w : World) (R G : Nat) (r : List Int) (s : Bool) : Prop where
  low : G ≤ R
  bytes : Bytes r
  len : r.length ≤ 91000
  blk : ∃ A c, Blk w R [.slice A r.length c, .bool s] 58 ∧ Seen w G A (ints .u8 r) ∧ r.length ≤ c
theorem RdAt.lt {w : World} {R G : Nat} {r : List Int} {s : Bool} (h : RdAt w R G r s) : R < w.heap.size := by obtain ⟨A, c, h1, _⟩ := h.blk; exact h1.lt
theorem RdAt.kept {w w' : World} {R G b : Nat} {r : List Int} {s : Bool} (h : RdAt w R G r s) (hg : w.grownBy w' (some b)) (hb : R < b) : RdAt w' R G r s := by
  have hl := h.lt
  have hG := h.low
  obtain ⟨A, c, h1, h2, h3⟩ := h.blk
  exact ⟨h.low, h.bytes, h.len, A, c, h1.kept hg (by simp; omega), h2.grown hg (by omega) (by omega), h3⟩
theorem RdAt.below {w w' : World} {R G B : Nat} {r : List Int} {s : Bool} (h : RdAt w R G r s) (hb : Below B w w') (hB : R < B) : RdAt w' R G r s := by
  have hG := h.low
  obtain ⟨A, c, h1, h2, h3⟩ := h.blk
  exact ⟨h.low, h.bytes, h.len, A, c, h1.below hb hB, h2.below hb (by omega), h3⟩
theorem grown_of_below {w w' : World} {R : Nat} (h : Below w.heap.size w w') : w.grownBy w' (some R) := ⟨h.os, h.tape, h.output, h.size, fun k hk _ => h.block k hk⟩
theorem Owns.callG {B R : Nat} {rs ts : List Row} {w w' : World} (h : Owns B rs w) (hg : w.grownBy w' (some R)) (hR : R < B) (h2 : Owns w.heap.size ts w') : Owns B (ts ++ rs) w' := by
  have hB := h.base
  have hk := h.kept hg hR
  refine ⟨Nat.le_trans hB hg.size, fun x hx => ?_, List.pairwise_append.2 ⟨h2.apart, h.apart, fun a ha b hb' g hg hgb => ?_⟩⟩
  · rcases List.mem_append.1 hx with hx | hx
    · exact own_base (h2.each x hx) hB
    · exact hk.each x hx
  · have h3 := ((h2.each a ha).lt g hg).1
    have h4 := ((h.each b hb').lt g hgb).2
    omega
/-- What take hands back. -/
def TakeRes (R G n : Nat) (r : List Int) (s : Bool) (w : World) (e : Ending) (w' : World) : Prop := ∃ A' c', e = .returned (.slice A' (r.take n).length c') ∧ Seen w' G A' (ints .u8 (r.take n)) ∧ (r.take n).length ≤ c' ∧ RdAt w' R G (r.drop n) (s || decide (r.length < n)) ∧ w.grownBy w' (some R)
set_option maxHeartbeats 1000000 in
theorem take_any (R G n : Nat) (r : List Int) (s : Bool) (w : World) (h : RdAt w R G r s) (hn : n ≤ 10000000) :
    Calls Try.prog 29 #[.pointer (some ⟨R, 0, none⟩), .int .i64 (n : Int)] w (TakeRes R G n r s w) := by
  have hRw := h.lt
  have hlow := h.low
  have hlen := h.len
  obtain ⟨A, c, hB, hs, hc⟩ := h.blk
  have Hby := veil h.bytes
  have k0 := hB.cell (i := 0) (v := .slice A r.length c) rfl
  have k1 := hB.cell (i := 1) (v := .bool s) rfl
  have z0 := hB.frozen 0
  have z1 := hB.frozen 1
  have HB := veil hB
  have Hs := veil hs
  clear h hB hs
  go_enter Try.func29, Try.ntmps29
  by_cases hlt : r.length < n
  · have hltz : (r.length : Int) < (n : Int) := by omega
    have hg1 := grown_setCell w R 1 (.bool true)
    have hB1 : Blk (w.setCell ⟨R, 1, none⟩ (.bool true)) R [.slice A r.length c, .bool true] 58 := HB.out.set 1 (.bool true)
    have hs1 := Hs.out.grown hg1 (by omega) (by omega)
    obtain ⟨W1, hW1⟩ : ∃ W1, W1 = w.setCell ⟨R, 1, none⟩ (.bool true) := ⟨_, rfl⟩
    rw [← hW1] at hg1 hB1 hs1
    have k2 := hB1.cell (i := 0) (v := .slice A r.length c) rfl
    have z2 := hB1.frozen 0
    have hsl := fun u => run_cutB_to A r.length c r.length (by omega) u
    have hse := fun u => run_cutB_end A r.length c r.length (Nat.le_refl _) u
    obtain ⟨A9, hA9, hs9⟩ := cutB_drop hs1 (show r.length ≤ r.length from Nat.le_refl _) hc
    rw [hA9, List.drop_length, List.length_nil] at hse
    rw [List.drop_length] at hs9
    have hg2 := grown_setCell W1 R 0 (.slice A9 0 (c - r.length))
    have hB2 : Blk (W1.setCell ⟨R, 0, none⟩ (.slice A9 0 (c - r.length))) R [.slice A9 0 (c - r.length), .bool true] 58 := hB1.set 0 (.slice A9 0 (c - r.length))
    have hz1 := hg1.size
    have hs2 := hs9.grown hg2 (by omega) (by omega)
    have hs3 := hs1.grown hg2 (by omega) (by omega)
    have Hfin : Hid (TakeRes R G n r s w (.returned (.slice A r.length c)) (W1.setCell ⟨R, 0, none⟩ (.slice A9 0 (c - r.length)))) := by
      show TakeRes _ _ _ _ _ _ _ _
      unfold TakeRes
      have e1 : r.take n = r := List.take_of_length_le (by omega)
      have e2 : r.drop n = [] := List.drop_of_length_le (by omega)
      have e3 : (s || decide (r.length < n)) = true := by simp [hlt]
      rw [e1, e2, e3]
      exact ⟨A, c, rfl, hs3, hc, ⟨hlow, fun x hx => (by cases hx), by simp, A9, c - r.length, hB2, hs2, by simp⟩, hg1.trans hg2⟩
    have HW1 := veil hW1
    clear hg1 hB1 hs1 hs9 hg2 hB2 hs2 hs3 hW1 hA9 hlt
    go_upto_region 2 with fail
    go_upto_region 3 with fail
    rw [← HW1.out]
    go_wp2_with fail
    go_ret
    exact Hfin.out
  · have hltz : ¬ (r.length : Int) < (n : Int) := by omega
    have hsl := fun u => run_cutB_to A r.length c n (by omega) u
    have hse := fun u => run_cutB_end A r.length c n (by omega) u
    obtain ⟨A9, hA9, hs9⟩ := cutB_drop Hs.out (show n ≤ r.length by omega) hc
    rw [hA9] at hse
    have hg2 := grown_setCell w R 0 (.slice A9 (r.drop n).length (c - n))
    have hB2 : Blk (w.setCell ⟨R, 0, none⟩ (.slice A9 (r.drop n).length (c - n))) R [.slice A9 (r.drop n).length (c - n), .bool s] 58 := HB.out.set 0 (.slice A9 (r.drop n).length (c - n))
    have hs2 := hs9.grown hg2 (by omega) (by omega)
    have hs3 := (cutB_take (h := n) Hs.out).grown hg2 (by omega) (by omega)
    have Hfin : Hid (TakeRes R G n r s w (.returned (.slice A n c)) (w.setCell ⟨R, 0, none⟩ (.slice A9 (r.drop n).length (c - n)))) := by
      show TakeRes _ _ _ _ _ _ _ _
      unfold TakeRes
      have e1 : (r.take n).length = n := by rw [List.length_take]; omega
      have e3 : (s || decide (r.length < n)) = s := by simp [hlt]
      rw [e1, e3]
      exact ⟨A, c, rfl, hs3, by omega, ⟨hlow, Hby.out.drop' _, by rw [List.length_drop]; omega, A9, c - n, hB2, hs2, by rw [List.length_drop]; omega⟩, hg2⟩
    obtain ⟨m, hm⟩ : ∃ m, m = (r.drop n).length := ⟨_, rfl⟩
    rw [← hm] at hse Hfin
    clear hg2 hB2 hs2 hs3 hs9 hA9 hlt hm
    go_wp2_with fail
    go_ret
    exact Hfin.out
/-- What number hands back. -/
def NumRes (R G n : Nat) (r : List Int) (s : Bool) (w : World) (e : Ending) (w' : World) : Prop := e = .returned (.int .i64 (numL (r.take n))) ∧ RdAt w' R G (r.drop n) (s || decide (r.length < n)) ∧ w.grownBy w' (some R)
set_option maxHeartbeats 1000000 in
theorem number_any (R G n : Nat) (r : List Int) (s : Bool) (w : World) (h : RdAt w R G r s) (hn : n ≤ 2) :
    Calls Try.prog 41 #[.pointer (some ⟨R, 0, none⟩), .int .i64 (n : Int)] w (NumRes R G n r s w) := by
  have HT := veil (take_any R G n r s w h (by omega))
  have Hby : Hid (Bytes (r.take n)) := h.bytes.take' n
  have hl2 : (r.take n).length ≤ 2 := by rw [List.length_take]; omega
  clear h
  go_enter Try.func41, Try.ntmps41
  go_wp2_with fail
  refine HT.out.mono ?_
  rintro e w1 ⟨A', c', rfl, hs, hc, hR, hg⟩
  have HF := veil (show w.grownBy w1 (some R) ∧ RdAt w1 R G (r.drop n) (s || decide (r.length < n)) from ⟨hg, hR⟩)
  have HN : Hid (NumRes R G n r s w (.returned (.int .i64 (numL (r.take n)))) w1) := ⟨rfl, hR, hg⟩
  obtain ⟨l, hl⟩ : ∃ l, l = r.take n := ⟨_, rfl⟩
  rw [← hl] at hs hc HN Hby hl2 ⊢
  have Hs := veil hs
  have HI0 : Hid ((0 : Int) = numL (l.take 0)) := by show _ = _; simp [numL]
  clear HT hR hg hs hl HF
  go_wp2_with fail
  go_loopg [5, 7, 12] l.length (fun gk nv xv iv wr => ∃ (k : Nat) (z : Int), gk = l.length - k ∧ k ≤ l.length ∧ iv = .int .i64 (k : Int) ∧ nv = .int .i64 z ∧ Hid (z = numL (l.take k)) ∧ 0 ≤ z ∧ z ≤ 65535 ∧ wr = w1)
  case atStart => exact ⟨0, 0, rfl, Nat.zero_le _, rfl, rfl, HI0, by omega, by omega, rfl⟩
  case round =>
    clear HI0
    obtain ⟨k, z, rfl, hk, rfl, rfl, HI, hz0, hz1, rfl⟩ := hrel
    by_cases hlt : k < l.length
    · have hltz : (k : Int) < (l.length : Int) := by omega
      obtain ⟨gs, os, x, hA, hgs, hx, hcx⟩ := Hs.out.int hlt
      subst hA
      have hx8 := Hby.out x (List.mem_of_getElem? hx)
      have hn2 : numL (l.take (k + 1)) = 256 * z + x := by rw [take_snoc hx, numL_snoc, ← HI.out]
      have hb := numL_bnd (Hby.out.take' (k + 1)) (by rw [List.length_take]; omega)
      rw [hn2] at hb
      have HI2 : Hid (256 * z + x = numL (l.take (k + 1))) := hn2.symm
      have e3 : IntKind.i64.wrap x = x := by rw [IntKind.wrap_i64]; omega
      have eo : bits BinOp.or IntKind.i64 (z * 256) x = 256 * z + x := by
        have h9 := or_byte z x hz0 hz1 hx8
        rwa [show IntKind.i64.wrap (z * 256) = z * 256 by rw [IntKind.wrap_i64]; omega] at h9
      clear hx HI hgs hn2
      go_wp2_with fail
      go_roundg (l.length - (k + 1))
      case rel => exact ⟨k + 1, 256 * z + x, rfl, by omega, by go_num, rfl, HI2, hb.1, hb.2, rfl⟩
      case measure => omega
    · obtain rfl : k = l.length := by omega
      have hh := HI.out
      rw [List.take_of_length_le (Nat.le_refl _)] at hh
      subst hh
      clear HI hlt
      go_wp2_with fail
      go_ret
      exact HN.out
end Go.Proofs.Ytmdjhbkpekepgaa

/- file's reader: table: its contract. -/
namespace Go.Proofs.Ytmdjhbkpekepgaa
open Go.RowKit
set_option linter.unusedVariables false
set_option linter.unusedSimpArgs false
set_option maxRecDepth 100000

def tabZ : List Value := tabCells (List.replicate 16 0) none 0 0
theorem run_zero_tab (u : World) : Sem.run Try.prog (zeroValue 27) u = .ok (.agg tabZ.toArray) u := by kernel_rfl
theorem tabCells_set {cs : List Int} {A : Option Addr} {n c j : Nat} (x : Int) (hc : cs.length = 16) (hj : j < 16) : (tabCells cs A n c).set j (.int .i64 x) = tabCells (cs.set j x) A n c := by
  unfold tabCells; rw [set_fst _ (by rw [ints_length]; omega), ints_setF]
theorem tabCells_at {cs : List Int} {A : Option Addr} {n c j : Nat} {x : Int} (hx : cs[j]? = some x) : (tabCells cs A n c)[j]? = some (.int .i64 x) := by
  unfold tabCells
  have := (List.getElem?_eq_some_iff.1 (ints_at (k := .i64) hx)).1
  rw [List.getElem?_append_left this]; exact ints_at hx
theorem tabCells_syms {cs : List Int} {A A' : Option Addr} {n c n' c' : Nat} (hc : cs.length = 16) : (tabCells cs A n c).set 16 (.slice A' n' c') = tabCells cs A' n' c' := by
  unfold tabCells
  have := set_mid (a := ints .i64 cs) (b := [.slice A n c]) (n := 16) 0 (.slice A' n' c') (by rw [ints_length, hc])
  exact this
/-- The world when a table's cells are laid. -/
def startT (w : World) : World := (w.alloc (.cells tabZ.toArray 27)).alloc (.cells tabZ.toArray 27)
theorem startT_is (w : World) : Below w.heap.size w (startT w) ∧ Blk (startT w) w.heap.size tabZ 27 ∧ Blk (startT w) (w.heap.size + 1) tabZ 27 ∧ (startT w).heap.size = w.heap.size + 2 := by
  have hz1 : (w.alloc (.cells tabZ.toArray 27)).heap.size = w.heap.size + 1 := by simp
  have hb1 := below1 w (.cells tabZ.toArray 27)
  have hb2 := below1 (w.alloc (.cells tabZ.toArray 27)) (.cells tabZ.toArray 27)
  have H2 := Blk.new (w.alloc (.cells tabZ.toArray 27)) tabZ 27
  rw [hz1] at H2
  exact ⟨hb1.trans (hb2.mono (by omega)), (Blk.new w tabZ 27).below hb2 (by omega), H2, by unfold startT; simp⟩
/-- What table hands back. -/
def TabRes (R G : Nat) (r : List Int) (s : Bool) (w : World) (e : Ending) (w' : World) : Prop := ∃ A' c', e = .returned (tabV (cntR r) A' (symR r).length c') ∧ Owns w.heap.size [intRow 3 .i64 (.slice A' (symR r).length c') (symR r)] w' ∧ RdAt w' R G (restR r) (s || shortR r) ∧ w.grownBy w' (some R)
set_option maxRecDepth 100000 in
set_option maxHeartbeats 2000000 in
theorem table_any (R G : Nat) (r : List Int) (s : Bool) (w : World) (h : RdAt w R G r s) :
    Calls Try.prog 43 #[.pointer (some ⟨R, 0, none⟩)] w (TabRes R G r s w) := by
  have hzv := run_zero_tab
  have hby := h.bytes
  have hRw := h.lt
  have hlow := h.low
  have hlenr := h.len
  obtain ⟨hb0, HB0, HB1, hz0⟩ := startT_is w
  obtain ⟨W0, hW0⟩ : ∃ W0, W0 = startT w := ⟨_, rfl⟩
  rw [← hW0] at hb0 HB0 HB1 hz0
  unfold startT at hW0
  have HW0 := veil hW0
  have hR0 := h.below hb0 hRw
  obtain ⟨T, hT⟩ : ∃ T, T = w.heap.size + 1 := ⟨_, rfl⟩
  have hTR : R < T := by omega
  have hcl := cntR_length r
  have Hcl := veil hcl
  have hbd := cntR_bnd hby
  have Hbd := veil hbd
  have Hby := veil hby
  have hlen := lenR_is hby
  have Hlen := veil hlen
  rw [← hT] at HB1
  have HX0 : Hid (Blk W0 T (tabCells (partC (cntR r) 0) none 0 0) 27) := by show Blk _ _ _ _; rw [partC_0]; exact HB1
  have HR0 : Hid (RdAt W0 R G (r.drop (2 * 0)) (s || decide (r.length < 2 * 0))) := by show RdAt _ _ _ _ _; simpa using hR0
  have HG0 : Hid (w.grownBy W0 (some R)) := grown_of_below hb0
  have HZ0 : Hid ((0 : Int) = sumW ((cntR r).take 0)) := by show _ = _; simp [sumW]
  have HB0' := veil HB0
  have hsz0 : w.heap.size + 2 ≤ W0.heap.size := by omega
  clear hW0 hR0 HB1 HB0 hb0 h hcl hbd hby hlen
  go_enter Try.func43, Try.ntmps43
  go_upto_region 2 with fail
  rw [← HW0.out, ← hT]
  have hTw : w.heap.size < T := by omega
  have hT0 : T < W0.heap.size := by omega
  clear HW0 hT
  go_wp2_with fail
  go_loopg [4, 5, 8] 16 (fun gk zv kv iv wr => ∃ (k : Nat) (z : Int), gk = 16 - k ∧ k ≤ 16 ∧ iv = .int .i64 (k : Int) ∧ zv = .int .i64 z ∧ Hid (z = sumW ((cntR r).take k)) ∧ 0 ≤ z ∧ z ≤ 65535 * k ∧ Hid (Blk wr T (tabCells (partC (cntR r) k) none 0 0) 27) ∧ Hid (Blk wr w.heap.size tabZ 27) ∧ Hid (RdAt wr R G (r.drop (2 * k)) (s || decide (r.length < 2 * k))) ∧ Hid (w.grownBy wr (some R)))
  case atStart => exact ⟨0, 0, rfl, by omega, rfl, rfl, HZ0, by omega, by omega, HX0, HB0', HR0, HG0⟩
  case round =>
    clear HZ0 HX0 HB0' HR0 HG0
    obtain ⟨k, z, rfl, hk, rfl, rfl, HZ, hz0, hz1, HX, HB, HR, HG⟩ := hrel
    by_cases hlt : k < 16
    · have hltz : (k : Int) < 16 := by omega
      have HN := veil (number_any R G 2 (r.drop (2 * k)) (s || decide (r.length < 2 * k)) wr HR.out (by omega))
      obtain ⟨x, hx⟩ : ∃ x, x = numL ((r.drop (2 * k)).take 2) := ⟨_, rfl⟩
      have hxk : (cntR r)[k]? = some x := by rw [hx]; exact cntR_at r hlt
      have hxb := Hbd.out x (List.mem_of_getElem? hxk)
      go_wp2_with fail
      refine HN.out.mono ?_
      rintro e w2 ⟨rfl, hR2, hg2⟩
      rw [← hx]
      have hz2 := hg2.size
      have hXl := HX.out.lt
      have HX2 := HX.out.kept hg2 (by simp; omega)
      have hpl := partC_length Hcl.out (show k ≤ 16 by omega)
      have k5 := HX2.cell (i := k) (v := .int .i64 0) (tabCells_at (partC_at Hcl.out hlt))
      have f5 := HX2.frozen k
      have hset := HX2.set k (.int .i64 x)
      rw [tabCells_set x hpl hlt, partC_next hxk Hcl.out] at hset
      have hg3 := grown_setCell w2 T k (.int .i64 x)
      have HB3 := veil ((HB.out.kept hg2 (by simp; omega)).kept hg3 (by simp; omega))
      have HR3 : Hid (RdAt (w2.setCell ⟨T, k, none⟩ (.int .i64 x)) R G (r.drop (2 * (k + 1))) (s || decide (r.length < 2 * (k + 1)))) := by
        show RdAt _ _ _ _ _
        have h9 := hR2.kept hg3 hTR
        rw [List.drop_drop, short_next _ _ (by omega)] at h9
        exact h9
      have HG3 := veil (grown_set (k := k) (v := .int .i64 x) (HG.out.trans hg2) (show w.heap.size ≤ T by omega))
      have HX3 := veil hset
      have c5 := HX3.out.cell (i := k) (v := .int .i64 x) (tabCells_at (by rw [← partC_next hxk Hcl.out, List.getElem?_set_self (by rw [hpl]; exact hlt)]))
      have HZ3 : Hid (z + x = sumW ((cntR r).take (k + 1))) := by show _ = _; rw [sumW_take hxk, ← HZ.out]
      have e7 : IntKind.i64.wrap (z + x) = z + x := by rw [IntKind.wrap_i64]; omega
      clear hset hg3 hg2 hR2 HX2 HN HZ HX HB HR HG hx hxk hpl
      go_wp2_with fail
      go_roundg (16 - (k + 1))
      case rel => exact ⟨k + 1, z + x, rfl, by omega, by go_num, rfl, HZ3, by omega, by omega, HX3, HB3, HR3, HG3⟩
      case measure => omega
    · obtain rfl : k = 16 := by omega
      have hz := HZ.out
      rw [List.take_of_length_le (by rw [Hcl.out]; omega)] at hz
      obtain ⟨hl1, hl2⟩ := Hlen.out
      rw [← hz] at hl1
      have hX := HX.out
      rw [partC_16 Hcl.out] at hX
      have hRr := HR.out
      obtain ⟨n, hn⟩ : ∃ n, n = lenR r := ⟨_, rfl⟩
      rw [← hn] at hl1 hl2
      subst hl1
      have HN := veil (take_any R G n (r.drop (2 * 16)) (s || decide (r.length < 2 * 16)) wr hRr (by omega))
      have Hn := veil hn
      have HXv := veil hX
      clear hz hRr hX HZ HX HR hn
      go_wp2_with fail
      refine HN.out.mono ?_
      rintro e w2 ⟨A9, c9, rfl, hs9, hc9, hR2, hg2⟩
      have hz2 := hg2.size
      have hXl := HXv.out.lt
      have hS : (r.drop (2 * 16)).take n = symR r := by unfold symR; rw [Hn.out]
      rw [hS] at hs9 hc9 ⊢
      have hrest : (r.drop (2 * 16)).drop n = restR r := by rw [List.drop_drop]; unfold restR; rw [Hn.out]
      have hsh : (s || decide (r.length < 2 * 16) || decide ((r.drop (2 * 16)).length < n)) = (s || shortR r) := by rw [Hn.out]; exact short_tab s r
      rw [hrest, hsh] at hR2
      have HX2 := veil (HXv.out.kept hg2 (by simp; omega))
      have HB2 := veil (HB.out.kept hg2 (by simp; omega))
      have HR2 := veil hR2
      have HG2 := veil (HG.out.trans hg2)
      have HS9 := veil hs9
      have Hsy : Hid (Bytes (symR r)) := veil ((Hby.out.drop' _).take' _)
      have hsyl : (symR r).length ≤ 1048560 := by unfold symR; rw [List.length_take, ← Hn.out]; omega
      obtain ⟨B, hB⟩ : ∃ B, B = w2.heap.size := ⟨_, rfl⟩
      have HO2 : Hid (Owns B [intRow 3 .i64 (.slice none 0 0) ((symR r).take 0)] w2) := by show Owns _ _ _; rw [hB]; exact (Owns.start w2).fresh _ _
      have hTB : T < B := by omega
      have hwB : w.heap.size ≤ B := by omega
      have hB2 : w2.heap.size ≤ B := by omega
      obtain ⟨S, hSS⟩ : ∃ S, S = symR r := ⟨_, rfl⟩
      rw [← hSS] at HS9 Hsy hsyl HO2 hc9 ⊢
      have HSS := veil hSS
      have HX2' : Hid (Blk w2 T (tabCells (cntR r) none 0 0) 27) := HX2
      have HW2 : Hid (Below B w2 w2) := Below.refl _ _
      clear hS hs9 hrest hsh hR2 hg2 HXv HB HG HN hB hSS hlt hl2 HX2
      go_wp2_with fail
      go_loopg [7, 27] S.length (fun gk xv iv wr => ∃ (j : Nat) (A' : Option Addr) (c' : Nat), gk = S.length - j ∧ j ≤ S.length ∧ iv = .int .i64 (j : Int) ∧ Hid (Blk wr T (tabCells (cntR r) A' j c') 27) ∧ Hid (Blk wr w.heap.size tabZ 27) ∧ Hid (Owns B [intRow 3 .i64 (.slice A' j c') (S.take j)] wr) ∧ Hid (RdAt wr R G (restR r) (s || shortR r)) ∧ Hid (w.grownBy wr (some R)) ∧ Hid (w2.grownBy wr (some T)))
      case atStart => exact ⟨0, none, 0, rfl, Nat.zero_le _, rfl, HX2', HB2, HO2, HR2, HG2, veil (World.grownBy.refl _ _)⟩
      case round =>
        clear HX2' HB2 HO2 HR2 HG2 HW2
        obtain ⟨j, A', c', rfl, hj, rfl, HX, HB, HO, HR, HG, HK⟩ := hrel
        by_cases hjt : j < S.length
        · have hjz : (j : Int) < (S.length : Int) := by omega
          obtain ⟨x, hx⟩ := some_at hjt
          obtain ⟨g2, o2, e2, _, hcx⟩ := (HS9.out.grown HK.out (by omega) (by omega)).cell (ints_at hx)
          subst e2
          have hx8 := Hsy.out x (List.mem_of_getElem? hx)
          have e3 : IntKind.i64.wrap x = x := by rw [IntKind.wrap_i64]; omega
          have htl : (S.take j).length = j := by rw [List.length_take]; omega
          have hk16 := HX.out.cell (tabCells_last (A := A') (n := j) (c := c') Hcl.out)
          have htk := take_snoc hx
          have Htk := veil htk; have Htl := veil htl
          clear htk htl hx
          obtain ⟨Tk, hTk⟩ : ∃ Tk, Tk = S.take j := ⟨_, rfl⟩
          rw [← hTk] at HO Htl Htk
          clear hTk
          go_wp2_with (first
            | (at_builtin; go_loud (refine wpList_ownI _ rfl (.tmp 32) (.tmp 35) _ rfl B 3 .i64 8 elem_int (.slice A' j c') Tk _ rfl HO.out [x] rfl (by rw [Htl.out]; unfold maxLen; simp; omega) (by rw [Htl.out]; simp; omega) ?_); intro v6 w6 HO6 hb6 hz6; obtain ⟨A6, c6, hv6, _, _, _⟩ := HO6.seen (List.mem_cons_self ..); obtain rfl : v6 = .slice A6 (j + 1) c6 := (show v6 = .slice A6 (Tk ++ [x]).length c6 from hv6).trans (by rw [List.length_append, Htl.out]; rfl); have hX6 := HX.out.below hb6 (by omega); have k6 := hX6.cell (tabCells_last (A := A') (n := j) (c := c') Hcl.out); have f6 := hX6.frozen 16; have HX6 := veil hX6; have HO6' := veil HO6; clear hX6 hv6 HO6)
            | fail)
          have hgr := grown_setCell w6 T 16 (.slice A6 (j + 1) c6)
          have hzw := HG.out.size
          have hz2w := HK.out.size
          have hset := HX6.out.set 16 (.slice A6 (j + 1) c6)
          rw [tabCells_syms Hcl.out] at hset
          have hHB := veil ((HB.out.below hb6 (by omega)).kept hgr (by simp; omega))
          have hHR := veil ((HR.out.below hb6 (by omega)).kept hgr hTR)
          have hHO := HO6'.out.setCell (a := ⟨T, 16, none⟩) (by show T < B; omega) (.slice A6 (j + 1) c6)
          rw [← Htk.out] at hHO
          have hHG := veil (grown_set (k := 16) (v := .slice A6 (j + 1) c6) (grown_below HG.out hb6 hwB) (show w.heap.size ≤ T by omega))
          have hHK := veil ((grown_below HK.out hb6 hB2).trans hgr)
          have HX7 := veil hset
          have HHO := veil hHO
          clear hgr hHO HO6' hb6 HX HB HR HO HG HK Htk hset HX6
          go_roundg (S.length - (j + 1))
          case rel => exact ⟨j + 1, A6, c6, rfl, by omega, by go_num, HX7, hHB, HHO, hHR, hHG, hHK⟩
          case measure => omega
        · obtain rfl : j = S.length := by omega
          have hO := HO.out
          rw [List.take_of_length_le (Nat.le_refl _)] at hO
          have HFin : Hid (∀ w', wr.grownBy w' (some w.heap.size) → TabRes R G r s w (.returned (.agg (tabCells (cntR r) A' S.length c').toArray)) w') := by
            show ∀ _, _ → _
            intro w' hg
            rw [HSS.out] at hO ⊢
            exact ⟨A', c', rfl, (hO.kept hg (by omega)).down hwB, HR.out.kept hg (by omega), ⟨hg.os.trans HG.out.os, hg.tape.trans HG.out.tape, hg.output.trans HG.out.output, Nat.le_trans HG.out.size hg.size, fun q hq hne => (hg.block q (by have := HG.out.size; omega) (fun e => by injection e with e; omega)).trans (HG.out.block q hq hne)⟩⟩
          have Hxl : Hid ((tabCells (cntR r) A' S.length c').length = 17) := tabCells_length Hcl.out
          have Hzl : Hid (tabZ.length = 17) := rfl
          have hone := tabCells_one (cs := cntR r) (A := A') (n := S.length) (c := c')
          have hXr := HX.out.range
          have hBr := HB.out
          obtain ⟨xs, hxs⟩ : ∃ xs, xs = tabCells (cntR r) A' S.length c' := ⟨_, rfl⟩
          rw [← hxs] at HFin Hxl hone hXr
          obtain ⟨x0, hx0⟩ : ∃ x0, x0 = tabZ := ⟨_, rfl⟩
          rw [← hx0] at hBr Hzl
          clear hxs hx0 HX HB HO HR HG HK hO hjt
          go_wp2_with (first
            | (refine wpList_load_mid rfl 27 (.tmp 3) rfl T 0 rfl xs _ hXr Try.underlying27 rfl (by rw [Hxl.out]; exact info_tab) ?_)
            | (refine wpList_store_blk wr rfl 27 (.tmp 2) (.tmp 39) rfl w.heap.size x0 xs 27 hBr rfl rfl (by rw [Hxl.out]; exact info_tab) (by rw [Hxl.out, Hzl.out]) hone ?_; intro w5 HB5 hg5)
            | fail)
          refine bodyPost_ret (v := .agg xs.toArray) (results_cell_row rfl _ _ w.heap.size 27 xs.toArray (0, 0) _ rfl HB5 Try.underlying27 rfl (by simp only [List.size_toArray]; rw [Hxl.out]; exact info_tab)) rfl (HFin.out _ hg5)
end Go.Proofs.Ytmdjhbkpekepgaa

/- bytes.Clone: its contract. -/
namespace Go.Proofs.Ytmdjhbkpekepgaa
open Go.RowKit
set_option linter.unusedVariables false
set_option linter.unusedSimpArgs false
set_option maxRecDepth 100000

theorem clone_any (A : Option Addr) (c G : Nat) (xs : List Int) (w : World) (hs : Seen w G A (ints .u8 xs)) (hm : xs.length ≤ 1048576) (hG : G ≤ w.heap.size) :
    Calls Try.prog 44 #[.slice A xs.length c] w fun e w' => ∃ v, e = .returned v ∧ Owns w.heap.size [byteRow v xs] w' ∧ Below w.heap.size w w' := by
  rcases A with _ | ad
  · obtain rfl : xs = [] := by
      rcases hs with h | ⟨g, o, h, _⟩
      · simpa [ints] using h
      · cases h
    have heq := fun u => Lib.run_eql_slice_nil (P := Try.prog) u 30 5 none 0 c 0 0 Try.underlying30
    go_enter Try.func44, Try.ntmps44
    go_wp2_with fail
    go_ret
    exact ⟨_, rfl, (Owns.start w).fresh _ _, Below.refl _ _⟩
  · have hO0 := (Owns.start w).made 5 1 #[] 0 (Nat.zero_le _) rfl
    have hb0 := below1 w (.cells #[] 5)
    have hs' := (hs.alloc hG (.cells #[] 5)).up (show G ≤ (w.alloc (.cells #[] 5)).heap.size by simp; omega)
    have heq := fun u => Lib.run_eql_slice_nil (P := Try.prog) u 30 5 (some ad) xs.length c 0 0 Try.underlying30
    go_enter Try.func44, Try.ntmps44
    go_wp2_with (first
      | (at_builtin; go_loud (refine wpList_ownV _ rfl (.tmp 5) (.tmp 6) _ rfl w.heap.size 5 1 1 elem_byte (.slice (some ⟨w.heap.size, 0, none⟩) 0 0) 0 [] [] rfl hO0 _ (some ad) xs.length c (ints .u8 xs) rfl hs' (by rw [ints_length]; omega) ints_one (by unfold maxLen; omega) (by omega) ?_); intro v1 w1 HO1 hb1)
      | fail)
    have e1 : byteRow v1 xs = ⟨5, 1, v1, 0 + xs.length, [] ++ ints .u8 xs⟩ := by unfold byteRow intRow; simp
    go_ret
    exact ⟨v1, rfl, by rw [e1]; exact HO1, hb0.trans hb1⟩
end Go.Proofs.Ytmdjhbkpekepgaa
