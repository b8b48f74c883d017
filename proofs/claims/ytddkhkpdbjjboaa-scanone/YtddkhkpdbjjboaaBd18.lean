/- Texts shared by the claims of this seat, in one. -/
import Derived.Test.YtddkhkpdbjjboaaBd17
import Derived.Test.YtddkhkpdbjjboaaBd1
import Derived.Test.YtddkhkpdbjjboaaRows
import Derived.Test.YtddkhkpdbjjboaaBd4
import Derived.Test.YtddkhkpdbjjboaaBd10
import Derived.Test.YtddkhkpdbjjboaaBd11
import Derived.Test.YtddkhkpdbjjboaaBd9
import Derived.Test.YtddkhkpdbjjboaaBd3
import Derived.Test.YtddkhkpdbjjboaaBd12
import Derived.Test.YtddkhkpdbjjboaaBd16
import Derived.Test.YtddkhkpdbjjboaaBd5
import Derived.Deep.Cut
import Derived.Deep.DeepCutAuto
/- keep.may: may these blocks be? -/
namespace Go.Proofs.Ytddkhkpdbjjboaa
open Go.RowKit
set_option linter.unusedVariables false
set_option linter.unusedSimpArgs false
set_option maxRecDepth 100000

set_option maxRecDepth 100000 in
theorem may_any (L : List (List Int)) (A : Option Addr) (c G : Nat) (w : World) (hl : ∀ r ∈ L, r.length = 64) (hm : L.length ≤ maxLen) (hs : Seen w G A (rowsC L)) (hG : G ≤ w.heap.size) :
    Calls Try.prog 13 #[.slice A L.length c] w fun e w' => e = .returned (.bool (eL L == 0)) ∧ Below w.heap.size w w' := by
  have H := veil (blocksCheck_any L A c G w hl hm hs hG)
  obtain ⟨E, hE⟩ : ∃ E, E = eL L := ⟨_, rfl⟩
  rw [← hE] at H ⊢
  obtain ⟨q, hq⟩ : ∃ q, q = (E == 0) := ⟨_, rfl⟩
  rw [← hq]
  have Hq := veil hq
  clear hs hE hq
  go_enter Try.func13, Try.ntmps13
  go_wp2_with fail
  refine H.out.mono ?_
  rintro e w1 ⟨rfl, hb⟩
  go_wp2
  go_ret
  exact ⟨by rw [Hq.out]; rfl, hb⟩
end Go.Proofs.Ytddkhkpdbjjboaa

/- The reference's comparison of two lists of bytes tells whether they are equal. -/
namespace Go.Proofs.Ytddkhkpdbjjboaa
open Go.RowKit
set_option linter.unusedVariables false
set_option linter.unusedSimpArgs false
set_option maxRecDepth 100000

set_option maxHeartbeats 400000 in
theorem eqByte (A B : Option Addr) (c d G : Nat) (xs ys : List Int) (w : World) (hx : Seen w G A (ints .u8 xs)) (hy : Seen w G B (ints .u8 ys)) (hlx : xs.length ≤ maxLen) (hly : ys.length ≤ maxLen) :
    Calls Try.prog 8 #[.slice A xs.length c, .slice B ys.length d] w fun e w' => e = .returned (.bool (decide (xs = ys))) ∧ w = w' := by
  unfold maxLen at hlx hly
  by_cases hl : xs.length = ys.length
  · have hne : ((xs.length : Int) != (ys.length : Int)) = false := by simp [hl]
    have Hl := veil hl
    clear hl
    go_enter Try.func8, Try.ntmps8
    go_wp2
    go_loop [5, 6, 14] (fun _ _ i => ∃ k : Nat, k ≤ xs.length ∧ i = .int .i64 k ∧ Hid (xs.take k = ys.take k)) (fun _ _ i => xs.length - (intOf i).toNat)
    case atStart => exact ⟨0, Nat.zero_le _, rfl, veil rfl⟩
    case round =>
      obtain ⟨k, hk, rfl, He⟩ := hrel
      by_cases hlt : k < xs.length
      · have hky : (k : Int) < (ys.length : Int) := by have := Hl.out; omega
        obtain ⟨g, o, x, rfl, _, hxk, h1⟩ := hx.int hlt
        obtain ⟨g', o', y, rfl, _, hyk, h2⟩ := hy.int (k := k) (by omega)
        have Hx := veil hxk; have Hy := veil hyk
        clear hxk hyk
        by_cases hxy : x = y
        · obtain rfl := hxy
          have hb : (x != x) = false := by simp
          go_wp2
          go_round
          case rel => exact ⟨k + 1, by omega, by go_num, veil (by rw [take_snoc Hx.out, take_snoc Hy.out, He.out])⟩
          case measure => simp [intOf]; omega
        · have hb : (x != y) = true := by simpa using hxy
          go_wp2
          go_ret
          refine ⟨ret_bool ?_, rfl⟩
          symm
          simp only [decide_eq_false_iff_not]
          intro e
          have h3 := Hx.out
          rw [e, Hy.out] at h3
          exact hxy (by injection h3 with h3; exact h3.symm)
      · go_wp2
        go_ret
        refine ⟨ret_bool ?_, rfl⟩
        symm
        have h3 := He.out
        rw [List.take_of_length_le (by omega), List.take_of_length_le (by have := Hl.out; omega)] at h3
        simpa using h3
  · have hne : ((xs.length : Int) != (ys.length : Int)) = true := by simp; omega
    have hd : decide (xs = ys) = false := by simp; intro e; exact hl (by rw [e])
    have Hd := veil hd
    clear hd hl
    go_enter Try.func8, Try.ntmps8
    go_wp2
    go_ret
    exact ⟨ret_bool Hd.out.symm, rfl⟩
end Go.Proofs.Ytddkhkpdbjjboaa

/- The reference's Rest: what is left of a division, never below zero. -/
namespace Go.Proofs.Ytddkhkpdbjjboaa
open Go.RowKit
set_option linter.unusedVariables false
set_option linter.unusedSimpArgs false
set_option maxRecDepth 100000

theorem tmod_cases (n m : Int) (h : 0 < m) : n.tmod m < m ∧ -m < n.tmod m ∧ n % m = (n.tmod m) % m := by
  refine ⟨Int.tmod_lt_of_pos n h, ?_, ?_⟩
  · have := Int.lt_tmod_of_pos n h; omega
  · conv => lhs; rw [← Int.tmod_add_mul_tdiv n m]
    rw [Int.add_mul_emod_self_left]
theorem rest_neg (n m : Int) (h : 0 < m) (hm : m ≤ 9223372036854775807) (hn : n.tmod m < 0) : wrap64 (n.tmod m + m) = n % m := by
  obtain ⟨h1, h2, h3⟩ := tmod_cases n m h
  rw [h3]
  generalize n.tmod m = r at *
  have e : r % m = r + m := by
    rw [← Int.add_emod_right, Int.emod_eq_of_lt (by omega) (by omega)]
  rw [e]; unfold wrap64; omega
theorem rest_pos (n m : Int) (h : 0 < m) (hn : 0 ≤ n.tmod m) : n.tmod m = n % m := by
  obtain ⟨h1, h2, h3⟩ := tmod_cases n m h
  rw [h3, Int.emod_eq_of_lt hn h1]
theorem rest_any (n m : Int) (w : World) (h1 : 0 < m) (h2 : m ≤ 9223372036854775807) (hn : -9223372036854775808 ≤ n ∧ n ≤ 9223372036854775807) :
    Calls Try.prog 14 #[.int .i64 n, .int .i64 m] w fun e w' => e = .returned (.int .i64 (n % m)) ∧ w = w' := by
  go_enter Try.func14, Try.ntmps14
  go_wp2
  · go_ret
    exact ⟨congrArg (fun x => Ending.returned (.int .i64 x)) (rest_neg n m h1 h2 ‹_›), rfl⟩
  · go_ret
    exact ⟨congrArg (fun x => Ending.returned (.int .i64 x)) (rest_pos n m h1 ‹_›), rfl⟩
end Go.Proofs.Ytddkhkpdbjjboaa

/- The reference's parts: its contract. -/
namespace Go.Proofs.Ytddkhkpdbjjboaa
open Go.RowKit
set_option linter.unusedVariables false
set_option linter.unusedSimpArgs false
set_option maxRecDepth 100000

theorem parts_one (n : Nat) (w : World) : Owns w.heap.size [intRow 3 .i64 (.slice (some ⟨w.heap.size, 0, none⟩) 1 1) ([n].map Int.ofNat)] (w.alloc (.cells #[.int .i64 (n : Int)] 3)) :=
  ⟨by simp, fun r hr => by
    rw [List.mem_singleton.1 hr]
    exact ⟨rfl, .inr ⟨w.heap.size, 1, _, rfl, Nat.le_refl _, heap_alloc_new w _, Nat.le_refl _, by unfold maxLen; decide, rfl, rfl⟩⟩, List.pairwise_singleton _ _⟩
end Go.Proofs.Ytddkhkpdbjjboaa

/- scan's small functions: isEvery, checkTables, marker, sizes: their contracts. -/
namespace Go.Proofs.Ytddkhkpdbjjboaa
open Go.RowKit
set_option linter.unusedVariables false
set_option linter.unusedSimpArgs false
set_option maxRecDepth 100000

theorem isEvery_yes (E : Int) (h : ¬ (E < 0 ∨ 100 < E)) (w : World) : Calls Try.prog 17 #[.int .i64 E] w fun e w' => e = .returned (.bool true) ∧ w' = w := by
  have h1 : (0 : Int) ≤ E := by omega
  have h2 : E ≤ 100 := by omega
  go_enter Try.func17, Try.ntmps17
  go_wp2
  all_goals (go_ret; exact ⟨ret_bool (by simp <;> omega), rfl⟩)
theorem isEvery_no (E : Int) (h : E < 0 ∨ 100 < E) (w : World) : Calls Try.prog 17 #[.int .i64 E] w fun e w' => e = .returned (.bool false) ∧ w' = w := by
  go_enter Try.func17, Try.ntmps17
  go_wp2
  all_goals (go_ret; exact ⟨ret_bool (by simp <;> omega), rfl⟩)
theorem marker_any (x : Int) (q : Nat) (h0 : 0 ≤ x) (h1 : x ≤ 2000000) (hq : x % 8 = (q : Int)) (w : World) : Calls Try.prog 21 #[.int .i64 x] w fun e w' => e = .returned (.int .i64 (208 + (q : Int))) ∧ w' = w := by
  have hq8 : (q : Int) < 8 := by omega
  go_enter Try.func21, Try.ntmps21
  go_wp2
  go_ret
  exact ⟨rfl, rfl⟩
set_option maxRecDepth 100000 in
set_option maxHeartbeats 2000000 in
theorem checkTables_any (cs syms : List Int) (A : Option Addr) (c : Nat) (cs2 syms2 : List Int) (A2 : Option Addr) (c2 G : Nat) (w : World)
    (hcs : cs.length = 16) (hn : syms.length ≤ maxLen) (hb : ∀ x ∈ cs, -9223372036854775808 ≤ x ∧ x ≤ 9223372036854775807) (hs : Seen w G A (ints .i64 syms))
    (hcs2 : cs2.length = 16) (hn2 : syms2.length ≤ maxLen) (hb2 : ∀ x ∈ cs2, -9223372036854775808 ≤ x ∧ x ≤ 9223372036854775807) (hs2 : Seen w G A2 (ints .i64 syms2)) (hG : G ≤ w.heap.size) :
    Calls Try.prog 18 #[tabsV cs A syms.length c cs2 A2 syms2.length c2] w fun e w' => e = .returned (.int .i64 (eTs cs syms cs2 syms2)) ∧ Below w.heap.size w w' := by
  have h17 : (tabCells cs A syms.length c).length = 17 := tabCells_length hcs
  have h17b : (tabCells cs2 A2 syms2.length c2).length = 17 := tabCells_length hcs2
  have HC1 := veil (fun W h hG => check_any cs syms A c G W hcs hn hb h hG)
  have HC2 := veil (fun W h hG => check_any cs2 syms2 A2 c2 G W hcs2 hn2 hb2 h hG)
  have hb0 := below1 w (.cells (tabsCells cs A syms.length c cs2 A2 syms2.length c2).toArray 27)
  have hz0 : (w.alloc (.cells (tabsCells cs A syms.length c cs2 A2 syms2.length c2).toArray 27)).heap.size = w.heap.size + 1 := by simp
  have hr := range_new w (tabsCells cs A syms.length c cs2 A2 syms2.length c2) 27
  have hr1 := range_left hr
  have hr2 := range_right hr
  rw [h17] at hr2
  have HE : Hid (eTs cs syms cs2 syms2 = if checkErr cs syms = 0 then checkErr cs2 syms2 else checkErr cs syms) := rfl
  have H17 := veil h17
  have H17b := veil h17b
  clear hr h17 h17b hcs hcs2 hb hb2
  unfold tabsV
  unfold tabV at HC1 HC2
  generalize tabsCells cs A syms.length c cs2 A2 syms2.length c2 = zs at *
  generalize tabCells cs A syms.length c = xs at *
  generalize tabCells cs2 A2 syms2.length c2 = ys at *
  generalize eTs cs syms cs2 syms2 = E at *
  generalize checkErr cs syms = e1 at *
  generalize checkErr cs2 syms2 = e2 at *
  go_enter Try.func18, Try.ntmps18
  go_wp2_with (first
    | (refine wpList_load_mid rfl 25 (.tmp 4) rfl w.heap.size 0 rfl xs _ hr1 Try.underlying25 rfl (by rw [H17.out]; exact info_tab) ?_)
    | fail)
  refine (HC1.out _ (hs.below hb0 hG) (by rw [hz0]; omega)).mono ?_
  rintro e w1 ⟨rfl, hb1⟩
  have hr2' := range_below hr2 hb1 (by rw [hz0]; omega)
  have hbw := hb0.trans (hb1.mono (by rw [hz0]; omega))
  clear hr1 hr2 hb0 hb1 HC1
  by_cases h0 : e1 = 0
  · subst h0
    have hE := HE.out
    rw [if_pos rfl] at hE
    subst hE
    go_wp2_with (first
      | (refine wpList_load_mid rfl 25 (.tmp 10) rfl w.heap.size 17 rfl ys _ (by simpa using hr2') Try.underlying25 rfl (by rw [H17b.out]; exact info_tab) ?_)
      | fail)
    refine (HC2.out _ (hs2.below hbw hG) (by have := hbw.size; omega)).mono ?_
    rintro e w2 ⟨rfl, hb2⟩
    have hf := hbw.trans (hb2.mono hbw.size)
    go_wp2
    go_ret
    exact ⟨rfl, hf⟩
  · have hE := HE.out
    rw [if_neg h0] at hE
    subst hE
    have hne : (E != 0) = true := by simpa using h0
    clear h0
    go_wp2
    go_ret
    exact ⟨rfl, hbw⟩
/-- What is left to cut is cut again. -/
theorem partsN_next {m E : Nat} (hE : E ≠ 0) (h : E < m) : partsN m E = E :: partsN (m - E) E := by
  unfold partsN
  rw [if_neg (by omega), if_neg (by omega), chunk_pos hE (by omega), Nat.min_eq_right (by omega)]
set_option maxRecDepth 100000 in
set_option maxHeartbeats 1000000 in
theorem sizes_any (n E : Nat) (w : World) (hn : n ≤ 100000) (hE : E ≤ 1000000) : Calls Try.prog 20 #[.int .i64 (n : Int), .int .i64 (E : Int)] w fun e w' => ∃ v, e = .returned v ∧ Owns w.heap.size [intRow 3 .i64 v ((partsN n E).map Int.ofNat)] w' ∧ Below w.heap.size w w' := by
  by_cases h0 : E = 0
  · subst h0
    have e : partsN n 0 = [n] := by unfold partsN; rw [if_pos (.inl rfl)]
    rw [e]
    have Ho := veil (parts_one n w)
    go_enter Try.func20, Try.ntmps20
    go_wp2
    go_ret
    exact ⟨_, rfl, Ho.out, below1 w _⟩
  · have hE0 : ((E : Int) == 0) = false := by simp; omega
    have HC0 : Hid (partsN n E = [] ++ partsN n E) := rfl
    have hst := Owns.start w
    go_enter Try.func20, Try.ntmps20
    go_wp2_with fail
    go_loopg [0, 5] (n + 1) (fun gk mv v wr => ∃ (m : Nat) (acc : List Nat), gk = m + 1 ∧ m ≤ n ∧ mv = .int .i64 (m : Int) ∧ acc.length + m ≤ n ∧ Hid (partsN n E = acc ++ partsN m E) ∧ Owns w.heap.size [intRow 3 .i64 v (acc.map Int.ofNat)] wr ∧ Below w.heap.size w wr)
    case atStart => exact ⟨n, [], rfl, Nat.le_refl _, rfl, by simp, HC0, hst.fresh _ _, Below.refl _ _⟩
    case round =>
      clear HC0 hst
      obtain ⟨m, acc, rfl, hm, rfl, hal, HC, HO, hbel⟩ := hrel
      have hl1 : (acc.map Int.ofNat).length = acc.length := by simp
      rcases Nat.lt_or_ge E m with hlt | hge
      · have hltz : (E : Int) < (m : Int) := by omega
        have HC2 : Hid (partsN n E = (acc ++ [E]) ++ partsN (m - E) E) := by show _ = _; rw [HC.out, partsN_next h0 hlt]; simp
        go_wp2_with (first
          | (at_builtin; go_loud (refine wpList_ownI _ rfl (.tmp 16) (.tmp 18) _ rfl w.heap.size 3 .i64 8 elem_int u5 (acc.map Int.ofNat) [] rfl HO [(E : Int)] rfl (by rw [hl1]; unfold maxLen; simp; omega) (by rw [hl1]; simp; omega) ?_); intro v4 w4 HO4 hb4 hz4)
          | fail)
        all_goals (go_roundg (m - E + 1))
        all_goals first
          | (case rel => exact ⟨m - E, acc ++ [E], rfl, by omega, by go_num, by simp; omega, HC2, by rw [List.map_append]; exact HO4, hbel.trans hb4⟩)
          | (case measure => omega)
          | omega
      · have hgez : ¬ (E : Int) < (m : Int) := by omega
        have hc : partsN n E = acc ++ [m] := by rw [HC.out, partsN_one hge]
        have Hc := veil hc
        clear hc
        go_wp2_with (first
          | (at_builtin; go_loud (refine wpList_ownI _ rfl (.tmp 20) (.tmp 22) _ rfl w.heap.size 3 .i64 8 elem_int u5 (acc.map Int.ofNat) [] rfl HO [(m : Int)] rfl (by rw [hl1]; unfold maxLen; simp; omega) (by rw [hl1]; simp; omega) ?_); intro v4 w4 HO4 hb4 hz4)
          | fail)
        go_ret
        exact ⟨_, rfl, by rw [Hc.out, List.map_append]; exact HO4, hbel.trans hb4⟩
end Go.Proofs.Ytddkhkpdbjjboaa

/- scan.Encode: its contract. -/
namespace Go.Proofs.Ytddkhkpdbjjboaa
open Go.RowKit
set_option linter.unusedVariables false
set_option linter.unusedSimpArgs false
set_option maxRecDepth 100000

/-- The marker ahead of segment k. -/
def mkB (k : Nat) : List Int := if k = 0 then ([] : List Int) else ([255, 208 + (((k + 7) % 8 : Nat) : Int)] : List Int)
theorem mkB_len (k : Nat) : (mkB k).length ≤ 2 := by unfold mkB; split <;> simp
set_option maxRecDepth 100000 in
set_option maxHeartbeats 2000000 in
theorem scanEncode_any : EncSpec := by
  intro cs syms A c cs2 syms2 A2 c2 G L A3 c3 every w hTI hl hm hcap3 hs3 hG
  obtain ⟨hcs, hn, hcap, hb, hs, hcs2, hn2, hcap2, hb2, hs2⟩ := hTI
  have h34 : (tabsCells cs A syms.length c cs2 A2 syms2.length c2).length = 34 := by unfold tabsCells; rw [List.length_append, tabCells_length hcs, tabCells_length hcs2]
  have HCk := veil (fun W h1 h2 hG => checkTables_any cs syms A c cs2 syms2 A2 c2 G W hcs hn hb h1 hcs2 hn2 hb2 h2 hG)
  have HBk := veil (fun W h hG => segCounts_any L A3 c3 G W hl hm (fun _ => h) hG)
  have HEn := veil (fun M A' c' W h1 h2 h3 (hl : ∀ r ∈ M, r.length = 64) (hm : M.length ≤ maxLen) hG => segEncode_any cs syms A c cs2 syms2 A2 c2 G M A' c' W hcs hn hb h1 hcs2 hn2 hb2 h2 hl hm h3 hG)
  have HFl := veil (fun (M : List (List Int)) (h : ∀ r ∈ M, r.length = 64) => segF_len (cs := cs) (syms := syms) (cs2 := cs2) (syms2 := syms2) hcs hcs2 h)
  have hb0 := below1 w (.cells (tabsCells cs A syms.length c cs2 A2 syms2.length c2).toArray 27)
  have hz0 : (w.alloc (.cells (tabsCells cs A syms.length c cs2 A2 syms2.length c2).toArray 27)).heap.size = w.heap.size + 1 := by simp
  have hTB := Blk.new w (tabsCells cs A syms.length c cs2 A2 syms2.length c2) 27
  obtain ⟨E, hE⟩ : ∃ E, E = eScan cs syms cs2 syms2 L every := ⟨_, rfl⟩
  obtain ⟨O, hO⟩ : ∃ O, O = oScan cs syms cs2 syms2 L every := ⟨_, rfl⟩
  rw [← hE, ← hO]
  have HOe : Hid (E ≠ 0 → O = []) := by show _ → _; intro h; rw [hO]; exact oScan_err (by rw [← hE]; exact h)
  have HE := veil hE
  have HO := veil hO
  have H34 := veil h34
  have Hl := veil hl
  have hs3' := hs3; have hs' := hs; have hs2' := hs2
  clear hcs hcs2 hb hb2 hE hO h34 hl hn hn2 hcap hcap2
  unfold tabsV at HCk HEn ⊢
  generalize tabsCells cs A syms.length c cs2 A2 syms2.length c2 = zs at *
  have hr0 := hTB.range
  go_enter Try.func6, Try.ntmps6
  by_cases hrg : every < 0 ∨ 100 < every
  · have hE1 := HE.out.trans (eScan_every hrg)
    have hO1 := HOe.out (by rw [hE1]; decide)
    have HE1 := veil hE1
    have HO1 := veil hO1
    have HOu := veil (isEvery_no every hrg (w.alloc (.cells zs.toArray 27)))
    clear hE1 hO1 hrg
    go_wp2_with fail
    refine HOu.out.mono ?_
    rintro e w2 ⟨rfl, hw2⟩
    rw [hw2]
    go_wp2
    go_ret2
    exact ⟨_, ret_two rfl (by rw [HE1.out]; rfl), by rw [HO1.out]; exact (Owns.nil hb0.size).fresh _ _, hb0⟩
  · have Hrg := veil hrg
    obtain ⟨Ev, hEv, hEv100⟩ : ∃ Ev : Nat, every = (Ev : Int) ∧ Ev ≤ 100 := ⟨every.toNat, by omega, by omega⟩
    subst hEv
    have HOu := veil (isEvery_yes (Ev : Int) hrg (w.alloc (.cells zs.toArray 27)))
    clear hrg
    obtain ⟨W0, hW0⟩ : ∃ W0, W0 = w.alloc (.cells zs.toArray 27) := ⟨_, rfl⟩
    have HW0 := veil hW0
    rw [← hW0] at hb0 hz0 hTB hr0 HOu
    clear hW0
    go_wp2_with fail
    rw [← HW0.out]
    refine HOu.out.mono ?_
    rintro e w1' ⟨rfl, hw1⟩
    have hw1' : w1' = W0 := hw1
    subst w1'
    clear HOu HW0
    go_wp2_with (first
      | (refine wpList_load_mid rfl 27 (.tmp 3) rfl w.heap.size 0 rfl zs _ hr0 Try.underlying27 rfl (by rw [H34.out]; kernel_rfl) ?_)
      | fail)
    refine (HCk.out _ (hs.below hb0 hG) (hs2.below hb0 hG) (by rw [hz0]; omega)).mono ?_
    rintro e w1 ⟨rfl, hb1⟩
    have hTB1 := hTB.below hb1 (by rw [hz0]; omega)
    have hbw1 := hb0.trans (hb1.mono (by rw [hz0]; omega))
    have hz1 := hb1.size
    rw [hz0] at hz1
    clear hr0 hb0 HCk hb1 hTB
    by_cases h0 : eTs cs syms cs2 syms2 = 0
    · rw [h0]
      have HT0 : Hid (eTs cs syms cs2 syms2 = 0) := h0
      clear h0
      go_wp2_with fail
      refine (HBk.out _ (hs3.below hbw1 hG) (by omega)).mono ?_
      rintro e w2 ⟨cv1, cv2, rfl, _, hb2⟩
      have hTB2 := hTB1.below hb2 (by omega)
      have hbw2 := hbw1.trans (hb2.mono hbw1.size)
      have hz2 := hb2.size
      clear HBk hbw1 hb2 hTB1
      by_cases hL : eL L = 0
      · rw [hL]
        obtain ⟨h400, hin⟩ := eL_zero hL
        have HEs : Hid (E = firstE ((segs L (Ev : Int)).map (eEnc cs syms cs2 syms2))) := HE.out.trans (eScan_seg Hrg.out HT0.out hL)
        have HOs : Hid (E = 0 → O = joinM 0 ((segs L (Ev : Int)).map (segF cs syms cs2 syms2))) := fun h => HO.out.trans (if_pos (by rw [← HE.out]; exact h))
        have HPa := veil (sizes_any L.length Ev w2 (by omega) (by omega))
        have hev : (Ev : Int).toNat = Ev := Int.toNat_natCast _
        have hsg : segs L (Ev : Int) = segsOf (partsN L.length Ev) L := by unfold segs; rw [hev]
        rw [hsg] at HEs HOs
        have hps := partsN_sum L.length Ev
        have hpi := partsN_in L.length Ev
        have hpl := partsN_len L.length Ev
        obtain ⟨ps, hpsd⟩ : ∃ ps, ps = partsN L.length Ev := ⟨_, rfl⟩
        rw [← hpsd] at HEs HOs HPa hps hpi hpl
        have Hps := veil hps; have Hpi := veil hpi; have Hin := veil hin
        clear hL hev hsg hpsd hps hpi hin HE HO
        go_wp2_with fail
        refine HPa.out.mono ?_
        rintro e w3 ⟨pv, rfl, HOp, hb3⟩
        obtain ⟨Ap, cp, hpv, hsp, _, _⟩ := HOp.seen (List.mem_cons_self ..)
        have hz3 := hb3.size
        have hvv : pv = .slice Ap ps.length cp := by
          have h9 : pv = .slice Ap (ps.map Int.ofNat).length cp := hpv
          rw [List.length_map] at h9; exact h9
        subst pv
        have hsp' : Seen w3 w3.heap.size Ap (ints .i64 (ps.map Int.ofNat)) := hsp
        have hTB3 := hTB2.below hb3 (by omega)
        have hbw3 := hbw2.trans (hb3.mono hbw2.size)
        have Hsp := veil hsp'; have HTB := veil hTB3; have Hbw3 := veil hbw3
        have hbr0 : Below w3.heap.size w3 w3 := Below.refl _ _
        have hO0 : Owns w3.heap.size [byteRow (.slice none 0 0) []] w3 := (Owns.start w3).fresh _ _
        have Hbr0 := veil hbr0; have HO0 := veil hO0
        have Hs := veil (hs.below hbw3 hG); have Hs2 := veil (hs2.below hbw3 hG); have Hs3 := veil (hs3.below hbw3 hG)
        have HL0 : Hid (L = L.drop (ps.take 0).sum) := by show _ = _; simp
        have HZ0 : Hid (∀ x ∈ ((segsOf ps L).map (eEnc cs syms cs2 syms2)).take 0, x = 0) := by show ∀ x ∈ _, _; simp
        have HJ0 : Hid (([] : List Int) = joinM 0 (((segsOf ps L).map (segF cs syms cs2 syms2)).take 0)) := by show _ = _; simp [joinM]
        have hG3 : G ≤ w3.heap.size := by omega
        have hT3 : w.heap.size < w3.heap.size := by omega
        clear HPa hsp hsp' hpv HOp hb3 hTB2 hTB3 hbw2 hbw3 hbr0 hO0 hs hs2 hs3 hs' hs2' hs3' hz2 hz1
        go_wp2_with fail
        go_loopg [1, 12, 13, 14, 15, 16, 39] ps.length (fun gk lv ov kv nv bv ev iv wr => ∃ (k : Nat) (A' : Option Addr) (c' : Nat) (M : List (List Int)) (out : List Int), gk = ps.length - k ∧ k ≤ ps.length ∧ lv = .slice A' M.length c' ∧ iv = .int .i64 (k : Int) ∧ M.length ≤ c' ∧ Hid (M = L.drop (ps.take k).sum) ∧ Hid (Seen wr G A' (rowsC M)) ∧ Hid (∀ x ∈ ((segsOf ps L).map (eEnc cs syms cs2 syms2)).take k, x = 0) ∧ Hid (out = joinM 0 (((segsOf ps L).map (segF cs syms cs2 syms2)).take k)) ∧ out.length ≤ 250004 * k ∧ Hid (Owns w3.heap.size [byteRow ov out] wr) ∧ Hid (Below w3.heap.size w3 wr))
        case atStart => exact ⟨0, A3, c3, L, [], rfl, Nat.zero_le _, rfl, rfl, hcap3, HL0, Hs3, HZ0, HJ0, by simp, HO0, Hbr0⟩
        case round =>
          clear HL0 HZ0 HJ0 HO0 Hbr0
          obtain ⟨k, A', c', M, out, rfl, hk, rfl, rfl, hMc, HM, HsM, HZ, HJ, hol, HOo, Hbr⟩ := hrel
          obtain ⟨W9, hW9⟩ : ∃ W9, W9 = wr := ⟨_, rfl⟩
          subst hW9
          by_cases hlt : k < ps.length
          · have hltz : (k : Int) < (ps.length : Int) := by omega
            obtain ⟨gp, op, x, rfl, hgp, hx, hcx⟩ := (Hsp.out.below Hbr.out (Nat.le_refl _)).int (k := k) (by rw [List.length_map]; exact hlt)
            obtain ⟨n, hn⟩ := some_at hlt
            obtain rfl : x = (n : Int) := by rw [List.getElem?_map, hn] at hx; simpa using hx.symm
            have Hn := veil hn
            have Hcx := veil hcx
            have hk400 : k ≤ 400 := by omega
            have hmkl := mkB_len k
            clear hx hn
            go_upto_if 45 with fail
            clear hcx
            go_cut [12] (fun ov wx => Hid (Owns w3.heap.size [byteRow ov (out ++ mkB k)] wx) ∧ Hid (Below w3.heap.size W9 wx))
            case first =>
              by_cases hk0 : k = 0
              · subst hk0
                clear hmkl
                go_wp2_with fail
                go_meet
                case rel => exact ⟨veil (by rw [show mkB 0 = [] from rfl, List.append_nil]; exact HOo.out), veil (Below.refl _ _)⟩
              · have hkp : (0 : Int) < (k : Int) := by omega
                obtain ⟨q, hq, hq8⟩ : ∃ q : Nat, q = (k + 7) % 8 ∧ q < 8 := ⟨_, rfl, by omega⟩
                have hmk : mkB k = [255, 208 + (q : Int)] := by unfold mkB; rw [if_neg hk0, ← hq]
                have HMa := veil (marker_any ((k : Int) - 1) q (by omega) (by omega) (by omega) W9)
                have hu8 := u8_208 q hq8
                have HMK := veil hmk
                have HOo' := HOo.out
                clear hmk hq hk0 hmkl
                go_wp2_with fail
                refine HMa.out.mono ?_
                rintro e w9 ⟨rfl, hw9⟩
                have hw9' : w9 = W9 := hw9
                subst w9
                clear HMa
                go_wp2_with (first
                  | (at_builtin; go_loud (refine wpList_ownI _ rfl (.tmp 46) (.tmp 51) _ rfl w3.heap.size 5 .u8 1 elem_byte u12 out [] rfl HOo' [255, 208 + (q : Int)] rfl (by unfold maxLen; simp; omega) (by simp; omega) ?_); intro v6 w6 HO6b hb6 hz6)
                  | fail)
                go_meet
                case rel => exact ⟨veil (by rw [HMK.out]; exact HO6b), veil hb6⟩
            case rest =>
              obtain ⟨HOc, Hbc⟩ := hcut
              obtain ⟨Wr, hWr⟩ : ∃ Wr, Wr = wc := ⟨_, rfl⟩
              subst hWr
              have hsMr := HsM.out.below Hbc.out hG3
              have HsM := veil hsMr
              have Hbr := veil (Hbr.out.trans Hbc.out)
              have hzr := Hbr.out.size
              have hsa := segsOf_at ps L k n Hn.out
              rw [← HM.out] at hsa
              have hsk := take_sum_le ps (k + 1)
              rw [Hps.out] at hsk
              have hst : (ps.take (k + 1)).sum = (ps.take k).sum + n := by rw [fc_snoc Hn.out]; simp
              have hMl : M.length = L.length - (ps.take k).sum := by rw [HM.out, List.length_drop]
              have hnM : n ≤ M.length := by omega
              have hlM : ∀ r ∈ M, r.length = 64 := fun r hr => Hl.out r (by rw [HM.out] at hr; exact List.mem_of_mem_drop hr)
              obtain ⟨A4, hA4, hsA4⟩ := cutR_drop hlM HsM.out hnM hMc
              have hct := fun u => run_cutR_to A' M.length c' n (by omega) u
              have hce := fun u => run_cutR_end A' M.length c' n hnM u
              rw [hA4] at hce
              have hMd : M.drop n = L.drop (ps.take (k + 1)).sum := by rw [HM.out, List.drop_drop, hst]
              have htl : (M.take n).length = n := by rw [List.length_take]; omega
              have hbd : Below w3.heap.size w3 Wr.drew := Hbr.out.drew
              have hC := HEn.out (M.take n) A' c' Wr.drew (Hs.out.below hbd hG3) (Hs2.out.below hbd hG3) (cutR_take (HsM.out.below (Below.refl G Wr).drew (Nat.le_refl _))) (fun r hr => hlM r (List.mem_of_mem_take hr)) (by rw [htl]; omega) (by show G ≤ Wr.heap.size; omega)
              rw [htl] at hC
              have hfl := HFl.out (M.take n) (fun r hr => hlM r (List.mem_of_mem_take hr))
              have hse : ((segsOf ps L).map (eEnc cs syms cs2 syms2))[k]? = some (eEnc cs syms cs2 syms2 (M.take n)) := by rw [List.getElem?_map, hsa]; rfl
              have hsf : ((segsOf ps L).map (segF cs syms cs2 syms2))[k]? = some (segF cs syms cs2 syms2 (M.take n)) := by rw [List.getElem?_map, hsa]; rfl
              have hso := fun out (h : SegOut cs syms cs2 syms2 (M.take n) out) => segOut_is cs syms cs2 syms2 h
              have hTBr := HTB.out.below Hbr.out hT3
              have hMd2 : (M.drop n).length ≤ c' - n := by rw [List.length_drop]; omega
              have HC := veil hC; have Hso := veil hso; have Hse := veil hse; have Hsf := veil hsf; have HMd := veil hMd; have HsA4 := veil hsA4
              obtain ⟨er, her⟩ : ∃ er, er = eEnc cs syms cs2 syms2 (M.take n) := ⟨_, rfl⟩
              obtain ⟨sf, hsfd⟩ : ∃ sf, sf = segF cs syms cs2 syms2 (M.take n) := ⟨_, rfl⟩
              rw [← her] at HC Hse
              rw [← hsfd] at Hsf Hso hfl
              clear hC hso hse hsf hMd hsA4 hsa hst hlM htl hA4 her hsfd hMl hsMr
              go_upto_region 15 with fail
              refine wp_region_held_drew (S := fun w' => Blk w' w.heap.size zs 27) (by kernel_rfl) hTBr (fun hHeld0 => ?_)
              refine take_load 0 54 27 (.tmp 3) w.heap.size 0 zs _ rfl rfl (by kernel_rfl) (by kernel_rfl) (by kernel_rfl) (fun _ _ _ h => h) rfl rfl rfl (fun w' h => h.range) Try.underlying27 rfl (by rw [H34.out]; kernel_rfl) hHeld0 rfl ?_
              refine take_pure 1 55 (.slice A' M.length c') _ rfl rfl (by kernel_rfl) (by kernel_rfl) (by kernel_rfl) (fun _ _ _ h => h) rfl (fun w' hS => by go_simp) hHeld0 rfl ?_
              refine take_pure 2 56 (.int .i64 (n : Int)) _ rfl rfl (by kernel_rfl) (by kernel_rfl) (by kernel_rfl) (fun _ _ _ h => h) rfl (fun w' hS => by go_simp) hHeld0 rfl ?_
              refine take_pure 3 57 (.slice A' n c') _ rfl rfl (by kernel_rfl) (by kernel_rfl) (by kernel_rfl) (fun _ _ _ h => h) rfl (fun w' hS => by go_simp) hHeld0 rfl ?_
              refine wpAnyH_ready (rs := [4]) (by kernel_rfl) (by simp) ?_
              refine AllReadyH.cons rfl (fun K hK => ?_) AllReadyH.nil
              go_simp
              refine HC.out.mono ?_
              rintro e w5 ⟨v5, out5, rfl, HO5, hS5, hb5⟩
              have hb5' : Below Wr.heap.size Wr w5 := below_of_drew hb5
              refine hK.out _ _ (hHeld0.below hb5 hHeld0.lt) (fun hHeld1 => ?_)
              clear hK K
              refine take_pure 5 53 (.tuple #[v5, .int .i64 er]) _ rfl rfl (by kernel_rfl) (by kernel_rfl) (by kernel_rfl) (fun _ _ _ h => h) rfl (fun w' hS => by go_simp) hHeld1 rfl ?_
              refine take_pure 6 59 v5 _ rfl rfl (by kernel_rfl) (by kernel_rfl) (by kernel_rfl) (fun _ _ _ h => h) rfl (fun w' hS => by go_simp) hHeld1 rfl ?_
              refine take_pure 7 60 (.int .i64 er) _ rfl rfl (by kernel_rfl) (by kernel_rfl) (by kernel_rfl) (fun _ _ _ h => h) rfl (fun w' hS => by go_simp) hHeld1 rfl ?_
              refine take_pure 8 15 v5 _ rfl rfl (by kernel_rfl) (by kernel_rfl) (by kernel_rfl) (fun _ _ _ h => h) rfl (fun w' hS => by go_simp) hHeld1 rfl ?_
              refine take_pure 9 16 (.int .i64 er) _ rfl rfl (by kernel_rfl) (by kernel_rfl) (by kernel_rfl) (fun _ _ _ h => h) rfl (fun w' hS => by go_simp) hHeld1 rfl ?_
              refine wpAnyH_done (by kernel_rfl) ?_ _
              obtain rfl := (Hso.out out5 hS5).symm
              obtain ⟨A5, c5, hv5, hs5, hc5, hm5⟩ := HO5.seen (List.mem_cons_self ..)
              obtain rfl : v5 = .slice A5 sf.length c5 := hv5
              have hz5 := hb5'.size
              have Hbr5 := veil (Hbr.out.trans (hb5'.mono hzr))
              have HO6 := (HOc.out.call hb5' HO5).swap
              have HsA4w := HsA4.out.below hb5' (by omega)
              obtain ⟨mk, hmkd⟩ : ∃ mk, mk = mkB k := ⟨_, rfl⟩
              have Hmkd := veil hmkd
              rw [← hmkd] at HO6 hmkl
              clear HO5 hS5 hb5 hs5 hHeld0 hHeld1 hTBr HC Hso hbd HOo HOc hmkd
              by_cases he : er = 0
              · subst he
                have hz2 : Hid (∀ x ∈ ((segsOf ps L).map (eEnc cs syms cs2 syms2)).take (k + 1), x = 0) := mem_snoc Hse.out HZ.out rfl
                have htk : (((segsOf ps L).map (segF cs syms cs2 syms2)).take k).length = k := by rw [List.length_take, List.length_map, segsOf_length]; omega
                have hj2 : joinM 0 (((segsOf ps L).map (segF cs syms cs2 syms2)).take (k + 1)) = (out ++ mk) ++ sf := by
                  rw [take_snoc Hsf.out, joinM_snoc, ← HJ.out, htk, Nat.zero_add, Hmkd.out, List.append_assoc]; rfl
                have Hj2 := veil hj2
                clear HsM hj2
                go_wp2_with (first
                  | (at_builtin; go_loud (refine wpList_ownV w5 rfl (.tmp 64) (.tmp 65) _ rfl w3.heap.size 5 1 1 elem_byte _ (out ++ mk).length (ints .u8 (out ++ mk)) [byteRow (.slice A5 sf.length c5) sf] rfl HO6 w5.heap.size A5 sf.length c5 (ints .u8 sf) rfl (seen_second HO6) (by rw [ints_length]; omega) ints_one (by unfold maxLen; rw [List.length_append]; omega) (by rw [List.length_append]; omega) ?_); intro v7 w7 HO7 hb7)
                  | fail)
                go_roundg (ps.length - (k + 1))
                case rel => exact ⟨k + 1, A4, c' - n, M.drop n, (out ++ mk) ++ sf, rfl, by omega, by rw [List.length_drop], by go_num, hMd2, HMd, veil (HsA4w.below hb7 hG3), hz2, veil Hj2.out.symm, by rw [List.length_append, List.length_append]; omega, veil (by rw [intRow_append] at HO7; exact HO7.swap.tail), veil (Hbr5.out.trans hb7)⟩
                case measure => omega
              · have hE1 : E = er := HEs.out.trans (firstE_at HZ.out Hse.out he)
                have hO1 := HOe.out (by rw [hE1]; exact he)
                have HE1 := veil hE1
                have HO1 := veil hO1
                have hbe : (er != 0) = true := by simpa using he
                have hfin := Hbw3.out.trans (Hbr5.out.mono (by omega))
                clear hE1 hO1 he
                go_wp2_with fail
                go_ret2
                exact ⟨_, ret_two rfl (by rw [HE1.out]; rfl), by rw [HO1.out]; exact (Owns.nil hfin.size).fresh _ _, hfin⟩
          · obtain rfl : k = ps.length := by omega
            have hlen1 : ((segsOf ps L).map (eEnc cs syms cs2 syms2)).length ≤ ps.length := by rw [List.length_map, segsOf_length]; omega
            have hlen2 : ((segsOf ps L).map (segF cs syms cs2 syms2)).length ≤ ps.length := by rw [List.length_map, segsOf_length]; omega
            have hz := HZ.out
            rw [List.take_of_length_le hlen1] at hz
            have hE1 : E = 0 := HEs.out.trans ((firstE_zero _).2 hz)
            have hO1 := HOs.out hE1
            have hj := HJ.out
            rw [List.take_of_length_le hlen2] at hj
            rw [← hj] at hO1
            have HE1 := veil hE1
            have HO1 := veil hO1
            have hzr := Hbr.out.size
            have hfin := Hbw3.out.trans (Hbr.out.mono (by omega))
            clear hE1 hO1 hz hj hlen1 hlen2
            go_wp2_with fail
            go_ret2
            exact ⟨_, ret_two rfl (by rw [HE1.out]; rfl), by rw [HO1.out]; exact HOo.out.down (by omega), hfin⟩
      · have hE1 := HE.out.trans (eScan_blk Hrg.out HT0.out hL)
        have hO1 := HOe.out (by rw [hE1]; exact hL)
        have HE1 := veil hE1
        have HO1 := veil hO1
        have hne : (eL L != 0) = true := by simpa using hL
        obtain ⟨er, her⟩ : ∃ er, er = eL L := ⟨_, rfl⟩
        rw [← her] at HE1 hne ⊢
        clear hE1 hO1 hL her
        go_wp2_with fail
        go_ret2
        exact ⟨_, ret_two rfl (by rw [HE1.out]; rfl), by rw [HO1.out]; exact (Owns.nil hbw2.size).fresh _ _, hbw2⟩
    · have hE1 := HE.out.trans (eScan_tab Hrg.out h0)
      have hO1 := HOe.out (by rw [hE1]; exact h0)
      have HE1 := veil hE1
      have HO1 := veil hO1
      have hne : (eTs cs syms cs2 syms2 != 0) = true := by simpa using h0
      obtain ⟨er, her⟩ : ∃ er, er = eTs cs syms cs2 syms2 := ⟨_, rfl⟩
      rw [← her] at HE1 hne ⊢
      clear hE1 hO1 h0 her
      go_wp2_with fail
      go_ret2
      exact ⟨_, ret_two rfl (by rw [HE1.out]; rfl), by rw [HO1.out]; exact (Owns.nil hbw1.size).fresh _ _, hbw1⟩
end Go.Proofs.Ytddkhkpdbjjboaa

/- stuff.Split: its contract. -/
namespace Go.Proofs.Ytddkhkpdbjjboaa
open Go.RowKit
set_option linter.unusedVariables false
set_option linter.unusedSimpArgs false
set_option maxRecDepth 100000

theorem elem_bytes : ElemOf Try.prog 58 29 1 24 := .mk' (z := .slice none 0 0) Try.underlying58 (by kernel_rfl) rfl (by omega)
/-- A row of slices. -/
abbrev pileRow (v : Value) (vs : List Value) : Row := ⟨29, 1, v, vs.length, vs⟩
theorem pile_snoc (v : Value) (vs : List Value) (u : Value) : (⟨29, 1, v, vs.length + [u].length, vs ++ [u]⟩ : Row) = pileRow v (vs ++ [u]) := by simp [pileRow]
theorem zip_snoc {vs : List Value} {ps : List (List Int)} (h : vs.length = ps.length) (u : Value) (p : List Int) : List.zipWith byteRow (vs ++ [u]) (ps ++ [p]) = List.zipWith byteRow vs ps ++ [byteRow u p] := by
  rw [List.zipWith_append h]; rfl
/-- A piece is done; the next one begins. -/
theorem Owns.next {B : Nat} {w : World} {v m u : Value} {vs : List Value} {ms cur : List Int} {ps : List (List Int)} (hl : vs.length = ps.length)
    (h : Owns B (pileRow v (vs ++ [u]) :: numRow m ms :: byteRow u cur :: List.zipWith byteRow vs ps) w) :
    Owns B (pileRow v (vs ++ [u]) :: numRow m ms :: byteRow (.slice none 0 0) [] :: List.zipWith byteRow (vs ++ [u]) (ps ++ [cur])) w := by
  rw [zip_snoc hl]
  refine (h.fresh 5 1).toThird.perm (.cons _ (.cons _ (.cons _ ?_)))
  exact (List.perm_append_comm (l₁ := [byteRow u cur]) (l₂ := List.zipWith byteRow vs ps))
theorem Owns.finish {B : Nat} {w : World} {v m u : Value} {vs : List Value} {ms cur : List Int} {ps : List (List Int)} (hl : vs.length = ps.length)
    (h : Owns B (pileRow v (vs ++ [u]) :: numRow m ms :: byteRow u cur :: List.zipWith byteRow vs ps) w) :
    Owns B (pileRow v (vs ++ [u]) :: numRow m ms :: List.zipWith byteRow (vs ++ [u]) (ps ++ [cur])) w := by
  have h2 := (h.next hl).third.tail
  exact h2

set_option maxHeartbeats 2000000 in
theorem split_any (A : Option Addr) (c G : Nat) (bs : List Int) (w : World) (hb : Seen w G A (ints .u8 bs)) (hG : G ≤ w.heap.size) (hl : bs.length ≤ 1099511627776) (hby : ∀ x ∈ bs, 0 ≤ x ∧ x ≤ 255) :
    Calls Try.prog 49 #[.slice A bs.length c] w fun e w' => ∃ vs v m, e = .returned (.tuple #[v, m, .int .i64 (splitErr bs)]) ∧ vs.length = (splitP bs).length ∧
      Owns w.heap.size (pileRow v vs :: numRow m (splitM bs) :: List.zipWith byteRow vs (splitP bs)) w' ∧ Below w.heap.size w w' := by
  have Hby := veil hby; clear hby
  go_enter Try.func49, Try.ntmps49
  go_wp2_with fail
  go_loopg [5, 6, 7, 8] bs.length (fun gk v m u i wr => ∃ (k : Nat) (ps : List (List Int)) (ms cur : List Int) (vs : List Value), gk = bs.length - k ∧ k ≤ bs.length ∧ i = .int .i64 k ∧ Hid (SInv bs k ps ms cur) ∧ vs.length = ps.length ∧ vs.length ≤ k ∧ ms.length ≤ k ∧ cur.length ≤ k ∧
    Owns w.heap.size (pileRow v vs :: numRow m ms :: byteRow u cur :: List.zipWith byteRow vs ps) wr ∧ Below w.heap.size w wr)
  case atStart => exact ⟨0, [], [], [], [], rfl, Nat.zero_le _, rfl, veil (SInv.start bs), rfl, Nat.zero_le _, Nat.zero_le _, Nat.zero_le _, (((Owns.start w).fresh _ _).fresh _ _).fresh _ _, Below.refl _ _⟩
  case round =>
    obtain ⟨k, ps, ms, cur, vs, rfl, hk, rfl, HI, hvp, hvk, hmk, hck, HO, hbel⟩ := hrel
    have hB := hbel.size
    by_cases hlt : k < bs.length
    · obtain ⟨g, o, x, rfl, hg, hx, h1⟩ := hb.int hlt
      have Hx := veil hx; clear hx
      rw [← hbel.cell (by simp; omega)] at h1
      by_cases h255 : x = 255
      · subst h255
        by_cases hlast : k + 1 = bs.length
        · have hpn := HI.out.last Hx.out hlast
          obtain ⟨hp1, hp2, hp3⟩ := split_none hpn
          have Hp := veil hp1; have Hm := veil hp2; have He := veil hp3
          have hlast' : (k : Int) + 1 = (bs.length : Int) := by omega
          clear hpn hp1 hp2 hp3
          go_wp2
          go_ret3
          exact ⟨[], _, _, ret_three rfl rfl (by rw [He.out]; rfl), by rw [Hp.out]; rfl, by rw [Hp.out, Hm.out]; exact ((Owns.nil hbel.size).fresh _ _).fresh _ _, hbel⟩
        · obtain ⟨g2, o2, y, e2, hg2, hy, h2⟩ := hb.int (k := k + 1) (by omega)
          injection e2 with e2
          injection e2 with e3 e4
          subst e3 e4
          have hyb := Hby.out y (List.mem_of_getElem? hy)
          have Hy := veil hy; clear hy
          rw [← hbel.cell (by simp; omega)] at h2
          have hne : ¬ ((k : Int) + 1 = (bs.length : Int)) := by omega
          have hlt2 : (k : Int) + 1 < (bs.length : Int) := by omega
          by_cases hy255 : y = 255
          · subst hy255
            have hpn := HI.out.two Hx.out Hy.out
            obtain ⟨hp1, hp2, hp3⟩ := split_none hpn
            have Hp := veil hp1; have Hm := veil hp2; have He := veil hp3
            clear hpn hp1 hp2 hp3
            go_wp2
            go_ret3
            exact ⟨[], _, _, ret_three rfl rfl (by rw [He.out]; rfl), by rw [Hp.out]; rfl, by rw [Hp.out, Hm.out]; exact ((Owns.nil hbel.size).fresh _ _).fresh _ _, hbel⟩
          · by_cases hy0 : y = 0
            · subst hy0
              go_wp2_with (at_builtin; go_loud (refine wpList_ownI _ rfl (.tmp 45) (.tmp 46) _ rfl w.heap.size 5 .u8 1 elem_byte u7 cur (pileRow u5 vs :: numRow u6 ms :: List.zipWith byteRow vs ps) rfl HO.third [255, 0] rfl (by unfold maxLen; simp; omega) (by simp; omega) ?_); intro v1 w1 HO1 hb1 hz1)
              go_roundg (bs.length - (k + 2))
              case rel => exact ⟨k + 2, ps, ms, cur ++ [255, 0], vs, rfl, by omega, by go_num, veil (HI.out.pad Hx.out Hy.out), hvp, by omega, by omega, by simp; omega, HO1.toThird, hbel.trans hb1⟩
              case measure => omega
            · have hn1 : (y == 255) = false := by simpa using hy255
              have hn2 : (y == 0) = false := by simpa using hy0
              have H1 := veil hy255; have H2 := veil hy0
              clear hy255 hy0
              obtain ⟨A7, c7, e7, _, _, _⟩ := HO.third.seen (List.mem_cons_self ..)
              simp only [byteRow, intRow] at e7
              subst e7
              go_wp2_with (first
                | (at_builtin; go_loud (refine wpList_ownN _ rfl (.tmp 48) (.tmp 50) _ rfl w.heap.size 29 24 elem_bytes u5 vs.length vs (numRow u6 ms :: byteRow (.slice A7 cur.length c7) cur :: List.zipWith byteRow vs ps) rfl HO [.slice A7 cur.length c7] rfl (by simp [Value.oneCell']) (by unfold maxLen; simp; omega) (by simp; omega) ?_); intro v1 w1 HO1 hb1 hz1; have h2' := h2; rw [← hb1.cell (by simp; omega)] at h2')
                | (at_builtin; go_loud (refine wpList_ownI _ rfl (.tmp 52) (.tmp 58) _ rfl w.heap.size 3 .i64 8 elem_int u6 ms (pileRow v1 (vs ++ [.slice A7 cur.length c7]) :: byteRow (.slice A7 cur.length c7) cur :: List.zipWith byteRow vs ps) rfl (by rw [← pile_snoc]; exact HO1.swap) [y] rfl (by unfold maxLen; simp; omega) (by simp; omega) ?_); intro v2 w2 HO2 hb2 hz2))
              go_roundg (bs.length - (k + 2))
              case rel => exact ⟨k + 2, ps ++ [cur], ms ++ [y], [], vs ++ [.slice A7 cur.length c7], rfl, by omega, by go_num, veil (HI.out.mark Hx.out Hy.out H1.out H2.out), by simp [hvp], by simp; omega, by simp; omega, by simp, HO2.swap.next hvp, (hbel.trans hb1).trans hb2⟩
              case measure => omega
      · have hxb : (x != 255) = true := by simpa using h255
        have H255 := veil h255; clear h255
        go_wp2_with (at_builtin; go_loud (refine wpList_ownI _ rfl (.tmp 20) (.tmp 25) _ rfl w.heap.size 5 .u8 1 elem_byte u7 cur (pileRow u5 vs :: numRow u6 ms :: List.zipWith byteRow vs ps) rfl HO.third [x] rfl (by unfold maxLen; simp; omega) (by simp; omega) ?_); intro v1 w1 HO1 hb1 hz1)
        go_roundg (bs.length - (k + 1))
        case rel => exact ⟨k + 1, ps, ms, cur ++ [x], vs, rfl, by omega, by go_num, veil (HI.out.other Hx.out H255.out), hvp, by omega, by omega, by simp; omega, HO1.toThird, hbel.trans hb1⟩
        case measure => omega
    · obtain rfl : k = bs.length := by omega
      obtain ⟨hp1, hp2, hp3⟩ := split_some HI.out.done
      have Hp := veil hp1; have Hm := veil hp2; have He := veil hp3
      clear hp1 hp2 hp3
      obtain ⟨A7, c7, e7, _, _, _⟩ := HO.third.seen (List.mem_cons_self ..)
      simp only [byteRow, intRow] at e7
      subst e7
      go_wp2_with (at_builtin; go_loud (refine wpList_ownN _ rfl (.tmp 60) (.tmp 62) _ rfl w.heap.size 29 24 elem_bytes u5 vs.length vs (numRow u6 ms :: byteRow (.slice A7 cur.length c7) cur :: List.zipWith byteRow vs ps) rfl HO [.slice A7 cur.length c7] rfl (by simp [Value.oneCell']) (by unfold maxLen; simp; omega) (by simp; omega) ?_); intro v1 w1 HO1 hb1 hz1)
      go_ret3
      exact ⟨vs ++ [.slice A7 cur.length c7], _, _, ret_three rfl rfl (by rw [He.out]; rfl), by rw [Hp.out]; simp [hvp], by rw [Hp.out, Hm.out]; rw [pile_snoc] at HO1; exact HO1.finish hvp, hbel.trans hb1⟩
end Go.Proofs.Ytddkhkpdbjjboaa

/- scan.split: its contract. -/
namespace Go.Proofs.Ytddkhkpdbjjboaa
open Go.RowKit
set_option linter.unusedVariables false
set_option linter.unusedSimpArgs false
set_option maxRecDepth 100000

theorem zipWith_mem {α β γ : Type} {f : α → β → γ} {xs : List α} {ys : List β} {j : Nat} {x : α} {y : β} (hx : xs[j]? = some x) (hy : ys[j]? = some y) : f x y ∈ List.zipWith f xs ys := by
  have : (List.zipWith f xs ys)[j]? = some (f x y) := by rw [List.getElem?_zipWith, hx, hy]
  exact List.mem_of_getElem? this
set_option maxRecDepth 100000 in
set_option maxHeartbeats 2000000 in
theorem scanSplit_any (cs syms : List Int) (A : Option Addr) (c : Nat) (cs2 syms2 : List Int) (A2 : Option Addr) (c2 G : Nat) (bs : List Int) (A3 : Option Addr) (c3 : Nat) (n every : Int) (w : World)
    (hcs : cs.length = 16) (hn : syms.length ≤ maxLen) (hb : ∀ x ∈ cs, -9223372036854775808 ≤ x ∧ x ≤ 9223372036854775807) (hs : Seen w G A (ints .i64 syms))
    (hcs2 : cs2.length = 16) (hn2 : syms2.length ≤ maxLen) (hb2 : ∀ x ∈ cs2, -9223372036854775808 ≤ x ∧ x ≤ 9223372036854775807) (hs2 : Seen w G A2 (ints .i64 syms2))
    (hs3 : Seen w G A3 (ints .u8 bs)) (hby : ∀ x ∈ bs, 0 ≤ x ∧ x ≤ 255) (hl : bs.length ≤ 1099511627776) (hG : G ≤ w.heap.size) :
    Calls Try.prog 27 #[tabsV cs A syms.length c cs2 A2 syms2.length c2, .slice A3 bs.length c3, .int .i64 n, .int .i64 every] w fun e w' => ∃ vs Ap cp Am cm, e = .returned (.tuple #[.slice Ap vs.length cp, .slice Am (headM cs syms cs2 syms2 bs n every).length cm, .int .i64 (eHead cs syms cs2 syms2 bs n every)]) ∧ SeenRows w' w'.heap.size .u8 vs (headP cs syms cs2 syms2 bs n every) ∧ Seen w' w'.heap.size Ap vs ∧ Seen w' w'.heap.size Am (ints .i64 (headM cs syms cs2 syms2 bs n every)) ∧ Below w.heap.size w w' := by
  have h34 : (tabsCells cs A syms.length c cs2 A2 syms2.length c2).length = 34 := by unfold tabsCells; rw [List.length_append, tabCells_length hcs, tabCells_length hcs2]
  have HCk := veil (fun W h1 h2 hG => checkTables_any cs syms A c cs2 syms2 A2 c2 G W hcs hn hb h1 hcs2 hn2 hb2 h2 hG)
  have HSp := veil (fun W h hG => split_any A3 c3 G bs W h hG hl hby)
  have hb0 := below1 w (.cells (tabsCells cs A syms.length c cs2 A2 syms2.length c2).toArray 27)
  have hz0 : (w.alloc (.cells (tabsCells cs A syms.length c cs2 A2 syms2.length c2).toArray 27)).heap.size = w.heap.size + 1 := by simp
  have hr0 := range_new w (tabsCells cs A syms.length c cs2 A2 syms2.length c2) 27
  obtain ⟨E, hE⟩ : ∃ E, E = eHead cs syms cs2 syms2 bs n every := ⟨_, rfl⟩
  obtain ⟨P, hP⟩ : ∃ P, P = headP cs syms cs2 syms2 bs n every := ⟨_, rfl⟩
  obtain ⟨M, hM⟩ : ∃ M, M = headM cs syms cs2 syms2 bs n every := ⟨_, rfl⟩
  rw [← hE, ← hP, ← hM]
  have HPe : Hid (E ≠ 0 → P = [] ∧ M = []) := by
    show _ → _
    intro h
    rw [hP, hM]
    exact ⟨if_neg (by rw [← hE]; exact h), if_neg (by rw [← hE]; exact h)⟩
  have HE := veil hE
  have HP := veil hP
  have HM := veil hM
  have H34 := veil h34
  clear hcs hcs2 hb hb2 hE hP hM h34 hn hn2 hby
  unfold tabsV at HCk ⊢
  generalize tabsCells cs A syms.length c cs2 A2 syms2.length c2 = zs at *
  obtain ⟨W0, hW0⟩ : ∃ W0, W0 = w.alloc (.cells zs.toArray 27) := ⟨_, rfl⟩
  have HW0 := veil hW0
  rw [← hW0] at hb0 hz0 hr0
  clear hW0
  go_enter Try.func27, Try.ntmps27
  by_cases hrg : every < 0 ∨ 100 < every ∨ n < 0 ∨ 400 < n
  · have hE1 := HE.out.trans (eHead_arg hrg)
    obtain ⟨hP1, hM1⟩ := HPe.out (by rw [hE1]; decide)
    have HE1 := veil hE1
    have HP1 := veil hP1
    have HM1 := veil hM1
    clear hE1 hP1 hM1
    by_cases hev : every < 0 ∨ 100 < every
    · have HOu := veil (isEvery_no every hev W0)
      clear hrg hev
      go_wp2_with fail
      rw [← HW0.out]
      refine HOu.out.mono ?_
      rintro e w2 ⟨rfl, hw2⟩
      rw [hw2]
      go_wp2
      go_ret3
      exact ⟨[], none, 0, none, 0, by rw [HE1.out, HM1.out]; rfl, by rw [HP1.out]; exact SeenRows.nil _ _ _, .inl rfl, by rw [HM1.out]; exact .inl rfl, hb0⟩
    · have HOu := veil (isEvery_yes every hev W0)
      by_cases hn0 : n < 0
      · clear hrg hev
        go_wp2_with fail
        rw [← HW0.out]
        refine HOu.out.mono ?_
        rintro e w2 ⟨rfl, hw2⟩
        rw [hw2]
        go_wp2
        go_ret3
        exact ⟨[], none, 0, none, 0, by rw [HE1.out, HM1.out]; rfl, by rw [HP1.out]; exact SeenRows.nil _ _ _, .inl rfl, by rw [HM1.out]; exact .inl rfl, hb0⟩
      · have hn4 : 400 < n := by omega
        clear hrg hev
        go_wp2_with fail
        rw [← HW0.out]
        refine HOu.out.mono ?_
        rintro e w2 ⟨rfl, hw2⟩
        rw [hw2]
        go_wp2
        go_ret3
        exact ⟨[], none, 0, none, 0, by rw [HE1.out, HM1.out]; rfl, by rw [HP1.out]; exact SeenRows.nil _ _ _, .inl rfl, by rw [HM1.out]; exact .inl rfl, hb0⟩
  · have Hrg := veil hrg
    have HOu := veil (isEvery_yes every (by omega) W0)
    have hn0 : ¬ n < 0 := by omega
    have hn4 : ¬ 400 < n := by omega
    clear hrg
    go_wp2_with fail
    rw [← HW0.out]
    refine HOu.out.mono ?_
    rintro e w2 ⟨rfl, hw2⟩
    have hw2' : w2 = W0 := hw2
    subst w2
    clear HOu HW0
    go_wp2_with (first
      | (refine wpList_load_mid rfl 27 (.tmp 4) rfl w.heap.size 0 rfl zs _ hr0 Try.underlying27 rfl (by rw [H34.out]; kernel_rfl) ?_)
      | fail)
    refine (HCk.out _ (hs.below hb0 hG) (hs2.below hb0 hG) (by rw [hz0]; omega)).mono ?_
    rintro e w1 ⟨rfl, hb1⟩
    have hbw1 := hb0.trans (hb1.mono (by rw [hz0]; omega))
    have hz1 := hb1.size
    rw [hz0] at hz1
    clear hr0 hb0 HCk hb1
    by_cases h0 : eTs cs syms cs2 syms2 = 0
    · rw [h0]
      have hE1 := HE.out.trans (eHead_split Hrg.out h0)
      have hPM := head_split (bs := bs) Hrg.out h0
      have hP1 := HP.out.trans hPM.1
      have hM1 := HM.out.trans hPM.2
      have HS := veil (HSp.out w1 (hs3.below hbw1 hG) (by omega))
      rw [← hE1, ← hP1, ← hM1] at HS
      clear hE1 hPM hP1 hM1 h0 HSp
      go_wp2_with fail
      refine HS.out.mono ?_
      rintro e w2 ⟨vs, v, m, rfl, hvl, HO2, hb2⟩
      have hbw2 := hbw1.trans (hb2.mono hbw1.size)
      have hsr := Owns.rows (e := 5) (k := .u8) HO2 hvl (fun j x p hx hp => List.mem_cons_of_mem _ (List.mem_cons_of_mem _ (zipWith_mem (f := byteRow) hx hp)))
      obtain ⟨Ap, cp, hpv, hsp, _, _⟩ := HO2.seen (List.mem_cons_self ..)
      obtain ⟨Am, cm, hmv, hsm, _, _⟩ := HO2.seen (List.mem_cons_of_mem _ (List.mem_cons_self ..))
      obtain rfl : v = .slice Ap vs.length cp := hpv
      obtain rfl : m = .slice Am M.length cm := hmv
      have hsp' : Seen w2 w2.heap.size Ap vs := hsp
      have hsm' : Seen w2 w2.heap.size Am (ints .i64 M) := hsm
      have Hsr := veil hsr
      clear hb2 HS HO2 hsp hsm hsr hvl
      go_wp2_with fail
      go_ret3
      exact ⟨vs, Ap, cp, Am, cm, rfl, Hsr.out, hsp', hsm', hbw2⟩
    · have hE1 := HE.out.trans (eHead_tab Hrg.out h0)
      obtain ⟨hP1, hM1⟩ := HPe.out (by rw [hE1]; exact h0)
      have HE1 := veil hE1
      have HP1 := veil hP1
      have HM1 := veil hM1
      have hne : (eTs cs syms cs2 syms2 != 0) = true := by simpa using h0
      obtain ⟨er, her⟩ : ∃ er, er = eTs cs syms cs2 syms2 := ⟨_, rfl⟩
      rw [← her] at HE1 hne ⊢
      clear hE1 hP1 hM1 h0 her
      go_wp2_with fail
      go_ret3
      exact ⟨[], none, 0, none, 0, by rw [HE1.out, HM1.out]; rfl, by rw [HP1.out]; exact SeenRows.nil _ _ _, .inl rfl, by rw [HM1.out]; exact .inl rfl, hbw1⟩
end Go.Proofs.Ytddkhkpdbjjboaa
