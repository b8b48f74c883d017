/- The reference's TableWords: the words, of a table that may be; and the table that may not be. -/
import Derived.Test.YthbcapjccfkldaaRefCheck
import Derived.Test.YthbcapjccfkldaaTabled
import Derived.Test.YthbcapjccfkldaaTabEnc
namespace Go.Proofs.Ythbcapjccfkldaa
open Go.RowKit
set_option linter.unusedVariables false
set_option linter.unusedSimpArgs false

theorem tripleRow_snoc (v : Value) (l : List (Int × Nat × Nat)) (f : Int × Nat × Nat) : (⟨35, 3, v, l.length + 1, tripleCells l ++ tripleCells [f]⟩ : Row) = wordRow v (l ++ [f]) := by simp [wordRow, tripleCells]

set_option maxRecDepth 100000 in
set_option maxHeartbeats 2000000 in
theorem refTabWords_any (cs syms : List Int) (l : List (Nat × Nat)) (A : Option Addr) (c G : Nat) (w : World) (hcs : cs.length = 16) (hf : Fine cs syms l) (hs : Seen w G A (ints .i64 syms)) (hG : G ≤ w.heap.size) :
    Calls Try.prog 19 #[tabV cs A syms.length c] w fun e w' => ∃ v, e = .returned v ∧ Owns w.heap.size [wordRow v (mkWords syms l)] w' ∧ Below w.heap.size w w' := by
  have h16 : (tabCells cs A syms.length c)[16]? = some (.slice A syms.length c) := tabCells_last hcs
  have hlen17 : (tabCells cs A syms.length c).length = 17 := tabCells_length hcs
  have h256 := hf.good.le
  have hll : l.length = syms.length := (codes_length hf.code).trans hf.good.sum
  have hwo := fun w1 => refWordsOf_any (nats cs) A syms.length c w1 (by rw [nats_length]; exact hcs) (by rw [hf.good.sum]; exact hf.good.le)
  rw [natI_nats hf.good.1, hf.code] at hwo
  have hword : ∀ t ∈ l, t.1 ≤ 16 ∧ t.2 < 2 ^ t.1 := fun t ht => ⟨((hf.kr hcs).ge t ht).2.1, by have := (hf.kr hcs).small ht; omega⟩
  have Hword := veil hword; have Hll := veil hll
  clear hword hf hll hcs
  obtain ⟨ys, hys⟩ : ∃ ys, ys = tabCells cs A syms.length c := ⟨_, rfl⟩
  have Hr := veil (range_new w ys 25)
  unfold tabV at hwo ⊢
  rw [← hys] at hlen17 hwo h16 ⊢
  clear hys
  have Hwo := veil hwo; clear hwo
  have H17 := veil hlen17; clear hlen17
  go_enter Try.func19, Try.ntmps19
  go_wp2_with (first
    | (refine wpList_load_mid rfl 25 (.tmp 1) rfl w.heap.size 0 rfl ys _ Hr.out Try.underlying25 rfl (by rw [H17.out]; exact info_tab) ?_)
    | fail)
  refine (Hwo.out _).mono ?_
  rintro e w1 ⟨v, rfl, HS, hb1⟩
  have c16 : w1.cell? ⟨w.heap.size, 16, none⟩ = some (.slice A syms.length c) := by rw [hb1.cell (by simp), World.cell?_alloc_at _ _ _ _ rfl]; simpa using h16
  have hbel1 : Below w.heap.size w w1 := (below1 _ _).trans (hb1.mono (by simp))
  have hz1 := hb1.size
  simp at hz1
  obtain ⟨A5, c5, e5, hs5, _, _⟩ := HS.seen (List.mem_cons_self ..)
  simp only [strRow, Option.getD_some, Hll.out] at e5 hs5
  subst e5
  clear Hr hb1 Hwo h16 HS
  go_wp2_with fail
  go_loopg [5, 6, 7, 15] syms.length (fun gk v i0 s0 i wr => ∃ k : Nat, gk = syms.length - k ∧ k ≤ syms.length ∧ i = .int .i64 k ∧ Owns w1.heap.size [wordRow v (mkWords syms (l.take k))] wr ∧ Below w1.heap.size w1 wr)
  case atStart => exact ⟨0, rfl, Nat.zero_le _, rfl, by rw [List.take_zero, mkWords_nil]; exact (Owns.start w1).fresh _ _, Below.refl _ _⟩
  case round =>
    obtain ⟨k, rfl, hk, rfl, HO, hbel⟩ := hrel
    have hz := hbel.size
    by_cases hlt : k < syms.length
    · obtain ⟨p, hp⟩ := some_at (xs := l) (j := k) (by rw [Hll.out]; exact hlt)
      obtain ⟨g5, o5, rfl, hg5, h5⟩ := hs5.cell (strs_at hp)
      rw [← hbel.cell (by simp; omega)] at h5
      obtain ⟨g, o, x, rfl, hg, hx, h1⟩ := hs.int hlt
      rw [← hbel1.cell (by simp; omega), ← hbel.cell (by simp; omega)] at h1
      have d16 := (hbel.cell (p := ⟨w.heap.size, 16, none⟩) (by simp; omega)).trans c16
      obtain ⟨n, m⟩ := p
      obtain ⟨hn16, hm⟩ := Hword.out (n, m) (List.mem_of_getElem? hp)
      simp only at hn16 hm h5
      have hsz : (txt (bitsN n m)).size = n := by rw [txt_size, bitsN_length]
      have hfb := fun w => fromBinary_any (bitsN n m) w (by rw [bitsN_length]; omega)
      rw [valB_bitsN _ _ hm] at hfb
      have htl : (l.take k).length = k := by rw [List.length_take, Hll.out]; omega
      have hsn : mkWords syms (l.take (k + 1)) = mkWords syms (l.take k) ++ [(x, n, m)] := by
        rw [take_snoc hp]; exact mkWords_snoc (by rw [htl]; exact hx) (n, m)
      have hml : (mkWords syms (l.take k)).length = k := by rw [mkWords_length _ _ (by rw [htl]; omega), htl]
      have Hfb := veil hfb; have Hsn := veil hsn; have Hml := veil hml
      clear hfb hsn hp hx hm htl hml
      generalize txt (bitsN n m) = tx at *
      generalize mkWords syms (l.take k) = wk at *
      have hn1 : wk.length + 1 ≤ maxLen := by rw [Hml.out]; unfold maxLen; omega
      have hn2 : (wk.length + 1) * 24 ≤ 140737488355328 := by rw [Hml.out]; omega
      have hone : ∀ u ∈ tripleCells [(x, n, m)], u.oneCell' = true := tripleCells_one
      have hlw : (k : Int) < (syms.length : Int) := by omega
      have hwlt : w.heap.size < wr.heap.size := by omega
      have hglt : g < wr.heap.size := by omega
      have hwb : w.heap.size < w1.heap.size := by omega
      have hgb : g < w1.heap.size := by omega
      go_wp2_with fail
      generalize hW : wr = W at *
      clear hW
      go_region_held3 (fun w' => w'.cell? ⟨w.heap.size, 16, none⟩ = some (.slice (some ⟨g, o, none⟩) syms.length c) ∧ w'.cell? ⟨g, o + k, none⟩ = some (.int .i64 x))
        (first
          | go_keep
          | (go_split_ands
             refine ⟨?_, ?_⟩
             · (first | (refine (hb2.cell hwlt).trans ?_; assumption) | (refine (hbl3.cell hwb).trans ?_; assumption))
             · (first | (refine (hb2.cell hglt).trans ?_; assumption) | (refine (hbl3.cell hgb).trans ?_; assumption))))
        (first
          | (go_at_call 35; refine (Hfb.out _).mono ?_; rintro e w2 ⟨rfl, hb2⟩; have HO2 := HO.below (below_of_drew hb2))
          | (refine step_ownV _ ?a1 (.tmp 20) (.tmp 31) _ ?b1 w1.heap.size 35 3 24 elem_word u5 wk.length (tripleCells wk) [] ?c1 (HO2.alloc _) _ (some ⟨w2.heap.size, 0, none⟩) 1 1 (tripleCells [(x, n, m)]) ?d1 (Seen.new w2 _ _ (w2.heap.size + 1) (Nat.lt_succ_self _)) rfl hone hn1 hn2 ?_
             case b1 => rfl
             case a1 => rfl
             case c1 => rfl
             case d1 => rfl
             intro v3 w3 HO3 hgr3 hbl3)
          | fail)
      have hbel3 : Below w1.heap.size w1 w3 := (((hbel.trans ((below_of_drew hb2).mono hz)).alloc (Nat.le_trans hz hb2.size) _)).trans hbl3
      have HO4 : Owns w1.heap.size [wordRow v3 (wk ++ [(x, n, m)])] w3 := by rw [← tripleRow_snoc]; exact HO3
      clear HO HO2 HO3 hgr3 hbl3 hb2 hbel d16 h1 h5
      go_wp2_with fail
      go_roundg (syms.length - (k + 1))
      case rel => exact ⟨k + 1, rfl, by omega, by go_num, by rw [Hsn.out]; exact HO4, hbel3⟩
      case measure => omega
    · obtain rfl : k = syms.length := by omega
      have htk : l.take syms.length = l := List.take_of_length_le (by rw [Hll.out]; omega)
      rw [htk] at HO
      clear htk
      go_wp2
      go_ret
      exact ⟨_, rfl, HO.down hbel1.size, hbel1.trans (hbel.mono hbel1.size)⟩

/-- The table that may not be. -/
theorem bad_any (w : World) : Calls Try.prog 16 #[] w fun e w' => ∃ A, e = .returned (tabV cs0 A 1 1) ∧ Seen w' w'.heap.size A (ints .i64 [1]) ∧ Below w.heap.size w w' := by
  go_enter Try.func16, Try.ntmps16
  go_wp2
  have hg : ((w.alloc (Obj.cells (tabCells cs0 (some ⟨w.heap.size + 1, 0, none⟩) 1 1).toArray 25)).alloc (Obj.cells #[Value.int IntKind.i64 1] 3)).heap[w.heap.size]? = some (.cells (tabCells cs0 (some ⟨w.heap.size + 1, 0, none⟩) 1 1).toArray 25 (0, 0)) := by
    rw [Below.heap_alloc _ _ _ (by simp)]; exact heap_alloc_new w _
  have hsn : Seen ((w.alloc (Obj.cells (tabCells cs0 (some ⟨w.heap.size + 1, 0, none⟩) 1 1).toArray 25)).alloc (Obj.cells #[Value.int IntKind.i64 1] 3)) ((w.alloc (Obj.cells (tabCells cs0 (some ⟨w.heap.size + 1, 0, none⟩) 1 1).toArray 25)).alloc (Obj.cells #[Value.int IntKind.i64 1] 3)).heap.size (some ⟨w.heap.size + 1, 0, none⟩) (ints .i64 [1]) := by
    have h := Seen.new (w.alloc (Obj.cells (tabCells cs0 (some ⟨w.heap.size + 1, 0, none⟩) 1 1).toArray 25)) (ints .i64 [1]) 3 (w.heap.size + 2) (by simp)
    rw [World.size_alloc'] at h
    exact h.up (by simp)
  exact bodyPost_ret (v := tabV cs0 (some ⟨w.heap.size + 1, 0, none⟩) 1 1) (results_cell_row rfl _ _ w.heap.size 25 (tabCells cs0 (some ⟨w.heap.size + 1, 0, none⟩) 1 1).toArray (0, 0) _ rfl hg Try.underlying25 rfl info_tab) rfl ⟨_, rfl, hsn, below2 _ _ _⟩
end Go.Proofs.Ythbcapjccfkldaa
