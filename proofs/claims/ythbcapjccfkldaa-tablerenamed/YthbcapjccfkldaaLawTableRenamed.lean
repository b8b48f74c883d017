/- TableRenamed returns true: renaming the symbols does not change the codewords. -/
import Derived.Test.YthbcapjccfkldaaTabled
import Derived.Test.YthbcapjccfkldaaTabEnc
import Derived.Test.YthbcapjccfkldaaBlk
import Derived.Test.YthbcapjccfkldaaElemInt
import Derived.Test.YthbcapjccfkldaaRest
import Derived.Test.YthbcapjccfkldaaLawTablePrefix
namespace Go.Proofs.Ythbcapjccfkldaa
open Go.RowKit
set_option linter.unusedVariables false
set_option linter.unusedSimpArgs false

def ren (K : Int) (syms : List Int) : List Int := syms.map fun s => (s + K) % 256
theorem ren_length (K : Int) (syms : List Int) : (ren K syms).length = syms.length := by simp [ren]
theorem ren_take {K : Int} {syms : List Int} {k : Nat} {x : Int} (h : syms[k]? = some x) : ren K (syms.take (k + 1)) = ren K (syms.take k) ++ [(x + K) % 256] := by
  rw [take_snoc h]; simp [ren]
theorem ren_fine {cs syms : List Int} {l : List (Nat × Nat)} (h : Fine cs syms l) (K : Int) (hK : 0 ≤ K ∧ K < 256) : Fine cs (ren K syms) l where
  good := by rw [ren_length]; exact h.good
  ok s hs := by
    simp only [ren, List.mem_map] at hs
    obtain ⟨x, _, rfl⟩ := hs
    omega
  code := h.code
  nodup := by
    unfold ren
    rw [List.nodup_iff_pairwise_ne, List.pairwise_map]
    have h1 := List.nodup_iff_pairwise_ne.1 h.nodup
    refine List.Pairwise.imp_of_mem ?_ h1
    intro a b ha hb hne e
    have h2 := h.ok a ha
    have h3 := h.ok b hb
    omega
theorem Fine.check {cs syms : List Int} {l : List (Nat × Nat)} (h : Fine cs syms l) : checkErr cs syms = 0 := checkErr_ok h.good h.ok (by rw [h.code]; rfl) h.nodup
theorem Fine.out {cs syms : List Int} {l : List (Nat × Nat)} (h : Fine cs syms l) : outWords cs syms = mkWords syms l := by rw [outWords_ok h.check]; unfold tabWords; rw [h.code]; rfl

set_option maxRecDepth 100000 in
set_option maxHeartbeats 2000000 in
theorem tableRenamed_walk (cs : List Int) (A : Option Addr) (c : Nat) (syms : List Int) (kk : Int) (w : World) (hcs : cs.length = 16) (hb : ∀ x ∈ cs, -9223372036854775808 ≤ x ∧ x ≤ 9223372036854775807) (hs : Seen w w.heap.size A (ints .i64 syms)) (hwf : ∀ x ∈ syms, (Lit.int .i64 x).wf = true) (hn : syms.length ≤ maxLen)
    (hkk : -9223372036854775808 ≤ kk ∧ kk ≤ 9223372036854775807) :
    Calls Try.prog 13 #[tabV cs A syms.length c, .int .i64 kk] w fun e w' => e = .returned (.bool true) ∧ Below w.heap.size w w' := by
  have h16 : (tabCells cs A syms.length c)[16]? = some (.slice A syms.length c) := tabCells_last hcs
  have hlen17 : (tabCells cs A syms.length c).length = 17 := tabCells_length hcs
  have hone : ∀ u ∈ tabCells cs A syms.length c, u.oneCell' = true := tabCells_one
  have hset : (tabCells cs A syms.length c).set 16 (.slice none 0 0) = tabCells cs none 0 0 := by
    unfold tabCells; rw [List.set_append_right _ _ (by rw [ints_length]; omega), ints_length, hcs]; rfl
  have hck := fun w1 h1 hG1 => words_any cs syms A c w.heap.size w1 hcs hn hb h1 hG1
  have hck2 := fun syms2 A2 c2 w1 h0 h1 => words_any cs syms2 A2 c2 w1.heap.size w1 hcs h0 hb h1 (Nat.le_refl _)
  have Hcs := veil hcs; have Hck2 := veil hck2
  clear hcs hb hwf hck2
  unfold maxLen at hn
  obtain ⟨ys, hys⟩ : ∃ ys, ys = tabCells cs A syms.length c := ⟨_, rfl⟩
  have Hr := veil (range_new w ys 25)
  unfold tabV at hck ⊢
  rw [← hys] at hlen17 hck h16 hone hset ⊢
  clear hys
  have Hck := veil hck; clear hck
  have H17 := veil hlen17; have Hone := veil hone; have Hset := veil hset; clear hlen17 hone hset
  go_enter Try.func13, Try.ntmps13
  go_wp2_with fail
  refine (tabled_any _).mono ?_
  rintro e w0 ⟨rfl, hb0⟩
  have hr0 : w0.rangeAt w.heap.size 0 ys := range_below Hr.out hb0 (by simp)
  have Hr0 := veil hr0
  have c16 : w0.cell? ⟨w.heap.size, 16, none⟩ = some (.slice A syms.length c) := by rw [hb0.cell (by simp), World.cell?_alloc_at _ _ _ _ rfl]; simpa using h16
  have hbel0 : Below w.heap.size w w0 := (below1 _ _).trans (hb0.mono (by simp))
  have hz0 := hb0.size
  simp at hz0
  clear Hr hr0 hb0
  go_wp2_with (first
    | (refine wpList_load_mid rfl 25 (.tmp 2) rfl w.heap.size 0 rfl ys _ Hr0.out Try.underlying25 rfl (by rw [H17.out]; exact info_tab) ?_)
    | fail)
  refine (Hck.out _ (hs.below hbel0 (Nat.le_refl _)) (by omega)).mono ?_
  rintro e w1 ⟨v, rfl, HO, hb1⟩
  have hbel1 : Below w.heap.size w w1 := hbel0.trans (hb1.mono (by omega))
  have hz1 := hb1.size
  rw [← hb1.cell (by simp; omega)] at c16
  have hr1 : w1.rangeAt w.heap.size 0 ys := range_below Hr0.out hb1 (by omega)
  have Hr1 := veil hr1
  clear Hr0 hb1 Hck hr1
  by_cases h0 : checkErr cs syms = 0
  · obtain ⟨l, hf, how, hll⟩ := fine_of h0
    have h256 := hf.good.le
    rw [how] at HO
    have hwl : (mkWords syms l).length = syms.length := by rw [mkWords_length _ _ (by omega), hll]
    obtain ⟨A5, c5, e5, hs5, _, _⟩ := HO.seen (List.mem_cons_self ..)
    simp only [wordRow] at e5 hs5
    rw [hwl] at e5
    subst e5
    have Hf := veil hf; have Hwl := veil hwl; have Hll := veil hll
    have hrs := veil (rest_any kk 256 w1 (by omega) (by omega) hkk)
    rw [h0]
    clear hwl hll hf how HO h0
    go_wp2_with fail
    refine hrs.out.mono ?_
    rintro e w1' ⟨rfl, rfl⟩
    obtain ⟨K, hK⟩ : ∃ K, K = kk % 256 := ⟨_, rfl⟩
    have hK0 : 0 ≤ K := by omega
    have hK1 : K < 256 := by omega
    rw [← hK]
    clear hK hrs
    rw [← (below1 w1 (Obj.cells (ys.set 16 (Value.slice none 0 0)).toArray 25)).cell (by simp; omega)] at c16
    go_wp2_with (first
      | (refine wpList_load_mid rfl 25 (.tmp 2) rfl w.heap.size 0 rfl ys _ Hr1.out Try.underlying25 rfl (by rw [H17.out]; exact info_tab) ?_)
      | (refine wpList_store_new w1 rfl 25 (.tmp 7) (.tmp 24) rfl _ ys rfl rfl (by rw [H17.out]; exact info_tab) (by rw [H17.out]; rfl) Hone.out ?_)
      | fail)
    have hbk0 := Blk.new w1 (ys.set 16 (Value.slice none 0 0)) 25
    rw [Hset.out] at hbk0
    go_loopg [9, 29] syms.length (fun gk s0 i wr => ∃ (k : Nat) (A' : Option Addr) (c' : Nat), gk = syms.length - k ∧ k ≤ syms.length ∧ i = .int .i64 k ∧ Blk wr w1.heap.size (tabCells cs A' k c') 25 ∧
      Owns (w1.heap.size + 1) [numRow (.slice A' k c') (ren K (syms.take k))] wr ∧ Below w1.heap.size w1 wr)
    case atStart =>
      refine ⟨0, none, 0, rfl, Nat.zero_le _, rfl, by rw [Hset.out]; exact hbk0, ?_, below1 _ _⟩
      exact (Owns.nil (by simp)).fresh _ _
    case round =>
      clear hbk0 c16
      obtain ⟨k, A', c', rfl, hk, rfl, HB, HO, hbel⟩ := hrel
      have hz := hbel.size
      by_cases hlt : k < syms.length
      · obtain ⟨g, o, x, rfl, hg, hxk, h1⟩ := hs.int hlt
        rw [← hbel1.cell (by simp; omega), ← hbel.cell (by simp; omega)] at h1
        have hxo := Hf.out.ok x (List.mem_of_getElem? hxk)
        have hmod : (x + K).tmod 256 = (x + K) % 256 := Int.tmod_eq_emod_of_nonneg (by omega)
        have hsn := ren_take (K := K) hxk
        have hrl : (ren K (syms.take k)).length = k := by rw [ren_length]; simp; omega
        have Hrl := veil hrl; have Hsn := veil hsn; have Hmod := veil hmod
        have d16 := HB.cell (tabCells_last Hcs.out)
        have fz := HB.frozen 16
        clear hxk hsn hrl hmod
        go_wp2_with (first
          | (at_builtin; go_loud (refine wpList_ownS _ rfl (.tmp 34) (.tmp 39) _ rfl (w1.heap.size + 1) 3 .i64 8 elem_int (.slice A' k c') (ren K (syms.take k)) [] rfl HO [_] (k + 1) (by rw [Hrl.out]; rfl) rfl (by have := Hrl.out; unfold maxLen; simp; omega) (by have := Hrl.out; simp; omega) ?_); intro A4 c4 w4 HO4 hb4 hz4; have d16' := (hb4.cell (by simp)).trans d16; have fz' := (hb4.frozen (by simp)).trans fz)
          | fail)
        have hB5 : Blk (w4.setCell ⟨w1.heap.size, 16, none⟩ (.slice A4 (k + 1) c4)) w1.heap.size (tabCells cs A4 (k + 1) c4) 25 := by
          have h5 := (HB.below hb4 (by omega)).set 16 (.slice A4 (k + 1) c4)
          have h6 : (tabCells cs A' k c').set 16 (.slice A4 (k + 1) c4) = tabCells cs A4 (k + 1) c4 := by
            unfold tabCells; rw [List.set_append_right _ _ (by rw [ints_length, Hcs.out]; omega), ints_length, Hcs.out]; rfl
          rw [h6] at h5; exact h5
        go_roundg (syms.length - (k + 1))
        case rel => exact ⟨k + 1, A4, c4, rfl, by omega, by go_num, hB5, by rw [Hsn.out]; exact HO4.setCell (by simp) _, (hbel.trans (hb4.mono (by omega))).setCell (by simp) _⟩
        case measure => omega
      · obtain rfl : k = syms.length := by omega
        rw [List.take_length] at HO
        obtain ⟨A7, c7, e7, hs7, _, _⟩ := HO.seen (List.mem_cons_self ..)
        simp only [numRow, intRow, ren_length, Value.slice.injEq, true_and] at e7 hs7
        obtain ⟨rfl, rfl⟩ := e7
        have hfu := ren_fine Hf.out K ⟨hK0, hK1⟩
        have hrl := ren_length K syms
        have hwd := Hck2.out (ren K syms) A' c' wr (by rw [hrl]; unfold maxLen; omega) hs7
        rw [hfu.check, hfu.out, hrl] at hwd
        unfold tabV at hwd
        have Hwd := veil hwd; have Hr5 := veil HB.range; have H175 := veil (tabCells_length (A := A') (n := syms.length) (c := c') Hcs.out)
        have d16 := HB.cell (tabCells_last Hcs.out)
        clear hwd hfu hrl HO
        go_wp2_with (first
          | (refine wpList_load_mid rfl 25 (.tmp 7) rfl w1.heap.size 0 rfl (tabCells cs A' syms.length c') _ Hr5.out Try.underlying25 rfl (by rw [H175.out]; exact info_tab) ?_)
          | fail)
        refine Hwd.out.mono ?_
        rintro e w5 ⟨v8, rfl, HO8, hb8⟩
        have hwl8 : (mkWords (ren K syms) l).length = syms.length := by rw [mkWords_length _ _ (by rw [ren_length, Hll.out]; omega), Hll.out]
        obtain ⟨A8, c8, e8, hs8, _, _⟩ := HO8.seen (List.mem_cons_self ..)
        simp only [wordRow] at e8 hs8
        rw [hwl8] at e8
        subst e8
        have Hwl8 := veil hwl8; clear hwl8 HO8
        have hz8 := hb8.size
        have hbw5 : Below w1.heap.size w1 w5 := hbel.trans (hb8.mono hz)
        have hs5' := (hs5.below hbw5 (Nat.le_refl _)).up (Nat.le_trans hz hz8)
        have hs7' := (hs7.below hb8 (Nat.le_refl _)).up hz8
        have hw16 := HB.lt
        rw [← hb8.cell (by exact hw16)] at d16
        have hw5 : Below w.heap.size w w5 := hbel1.trans (hbw5.mono hbel1.size)
        have h165 : w1.heap.size < w5.heap.size := Nat.lt_of_lt_of_le hw16 hz8
        clear hs5 hs7 hb8 hbw5 Hwd Hr5 H175 HB hbel
        go_wp2_with fail
        go_loopg [12, 59] syms.length (fun gk i0 i wr2 => ∃ j : Nat, gk = syms.length - j ∧ j ≤ syms.length ∧ i = .int .i64 j ∧ Below w5.heap.size w5 wr2)
        case atStart => exact ⟨0, rfl, Nat.zero_le _, rfl, Below.refl _ _⟩
        case round =>
          obtain ⟨j, rfl, hj, rfl, hbel⟩ := hrel
          by_cases hjt : j < syms.length
          · obtain ⟨g1, o1, s1, n1, m1, rfl, hg1, hx1, h11, h12, h13⟩ := hs5'.triple (k := j) (by rw [Hwl.out]; exact hjt)
            obtain ⟨g2, o2, s2, n2, m2, rfl, hg2, hx2, h21, h22, h23⟩ := hs8.triple (k := j) (by rw [Hwl8.out]; exact hjt)
            obtain ⟨g3, o3, x3, rfl, hg3, hx3, h31⟩ := hs7'.int (k := j) (by rw [ren_length]; exact hjt)
            obtain ⟨_, e1⟩ := mkWords_at hx1
            obtain ⟨e2, e3⟩ := mkWords_at hx2
            rw [e1] at e3
            injection e3 with e3
            simp only [Prod.mk.injEq] at e3
            obtain ⟨rfl, rfl⟩ := e3
            rw [hx3] at e2
            injection e2 with e2
            simp only at e2
            subst e2
            rw [← hbel.cell (by simp; omega)] at h11 h12 h13 h21 h22 h23 h31
            have d16' := (hbel.cell (p := ⟨w1.heap.size, 16, none⟩) (by exact h165)).trans d16
            clear hx1 hx2 hx3 e1
            have hjt' : (j : Int) < (syms.length : Int) := by omega
            go_wp2_with fail
            go_quiet (fail)
            go_wp2
            go_roundg (syms.length - (j + 1))
            case rel => exact ⟨j + 1, rfl, by omega, by go_num, hbel.drewN _⟩
            case measure => omega
          · go_wp2
            go_ret
            exact ⟨rfl, hw5.trans (hbel.mono hw5.size)⟩
  · have hne : (checkErr cs syms != 0) = true := by simpa using h0
    clear h0 HO
    go_wp2
    go_ret
    exact ⟨rfl, hbel1⟩
end Go.Proofs.Ythbcapjccfkldaa
