/- StuffSplits: its walk. -/
import Derived.Test.YtnddlehhgholhaaRefSplit
import Derived.Test.YtnddlehhgholhaaEqBytes2
import Derived.Test.YtnddlehhgholhaaEqInt
namespace Go.Proofs.Ytnddlehhgholhaa
open Go.RowKit
set_option linter.unusedVariables false
set_option linter.unusedSimpArgs false

/-- Each piece that Split hands back, where it can be read. -/
theorem split_rows {B : Nat} {w : World} {vs : List Value} {ps : List (List Int)} {rs : List Row} (h : Owns B rs w) (hl : vs.length = ps.length) (hr : ∀ r ∈ List.zipWith byteRow vs ps, r ∈ rs) : SeenRows w w.heap.size .u8 vs ps := by
  refine h.rows (e := 5) hl fun j v p hv hp => hr _ ?_
  have e : (List.zipWith byteRow vs ps)[j]? = some (byteRow v p) := by rw [List.getElem?_zipWith, hv, hp]
  exact List.mem_of_getElem? e
set_option maxHeartbeats 1000000 in
theorem stuffSplits_walk (A : Option Addr) (c : Nat) (bs : List Int) (w : World) (hb : Seen w w.heap.size A (ints .u8 bs)) (hbw : ∀ x ∈ bs, (Lit.int .u8 x).wf = true) (hbl : bs.length ≤ maxLen) (hlc : bs.length ≤ c) (hcm : c ≤ maxLen) (hl : bs.length ≤ 1048576) :
    Calls Try.prog 4 #[.slice A bs.length c] w fun e w' => e = .returned (.bool true) ∧ Below w.heap.size w w' := by
  have hby : ∀ x ∈ bs, 0 ≤ x ∧ x ≤ 255 := fun x hx => bounds_u8 (hbw x hx)
  clear hbw
  go_enter Try.func4, Try.ntmps4
  go_wp2_with fail
  refine (split_any _ _ _ bs _ hb (Nat.le_refl _) (by omega) hby).mono ?_
  rintro e w1 ⟨vs, v1, m1, rfl, hvs, HO1, hb1⟩
  obtain ⟨A1, c1, f1, hs1, hn1, hx1⟩ := HO1.seen (List.mem_cons_self ..)
  obtain ⟨A2, c2, f2, hs2, hn2, hx2⟩ := HO1.tail.seen (List.mem_cons_self ..)
  have hr1 := split_rows HO1 hvs (fun r hr => List.mem_cons_of_mem _ (List.mem_cons_of_mem _ hr))
  simp only [pileRow, numRow, intRow] at f1 hs1 f2 hs2 hn1 hn2
  subst f1 f2
  clear HO1 hvs
  go_wp2_with fail
  refine (refSplit_any _ _ _ bs _ (hb.below hb1 (Nat.le_refl _)) hb1.size (by omega) hlc hby).mono ?_
  rintro e w2 ⟨us, v3, m3, rfl, hr2, HO2, hb2⟩
  obtain ⟨A3, c3, f3, hs3, hn3, hx3⟩ := HO2.seen (List.mem_cons_self ..)
  obtain ⟨A4, c4, f4, hs4, hn4, hx4⟩ := HO2.tail.seen (List.mem_cons_self ..)
  simp only [pileRow, numRow, intRow] at f3 hs3 f4 hs4 hn3 hn4
  subst f3 f4
  have hbw2 := hb1.trans (hb2.mono hb1.size)
  have hr2 := hr2.up hbw2.size
  have hs1a := (hs1.below hb2 (Nat.le_refl _)).up hb2.size
  have hs2a := (hs2.below hb2 (Nat.le_refl _)).up hb2.size
  have hr1a := (hr1.below hb2 (Nat.le_refl _)).up hb2.size
  clear HO2 hs1 hs2 hr1 hb1 hb2
  go_wp2_with fail
  have s3 : Seen (w2.alloc (Obj.cells #[.int .u8 255] 5)) (w2.heap.size + 1) (some ⟨w2.heap.size, 0, none⟩) (ints .u8 [255]) := Seen.new w2 (ints .u8 [255]) _ _ (by omega)
  refine (split_any _ 1 _ [255] _ s3 (by simp) (by show 1 ≤ _; omega) (by simp)).mono ?_
  rintro e w3 ⟨us3, v5, m5, rfl, _, HO3, hb3⟩
  have e3 : splitErr [255] = 4 := by decide
  rw [e3]
  have hb23 : Below w2.heap.size w2 w3 := (below1 _ _).trans (hb3.mono (by simp))
  have hbw3 := hbw2.trans (hb23.mono hbw2.size)
  have hs1b := (hs1a.below hb23 (Nat.le_refl _)).up hb23.size
  have hs2b := (hs2a.below hb23 (Nat.le_refl _)).up hb23.size
  have hs3b := (hs3.below hb23 (Nat.le_refl _)).up hb23.size
  have hs4b := (hs4.below hb23 (Nat.le_refl _)).up hb23.size
  have hr1b := (hr1a.below hb23 (Nat.le_refl _)).up hb23.size
  have hr2b := (hr2.below hb23 (Nat.le_refl _)).up hb23.size
  clear e3 s3 HO3 hb3 hb23 hs1a hs2a hs3 hs4 hr1a hr2 hbw2
  generalize splitErr bs = E at *
  have hE : (E == E) = true := by simp
  go_wp2_with fail
  refine (eqLists A1 A3 c1 c3 _ vs us (splitP bs) (splitP bs) _ hs1b hs3b hr1b hr2b (by omega) (by omega)).mono ?_
  rintro e w4 ⟨rfl, hb4⟩
  rw [decide_eq_true rfl]
  have hs2c := hs2b.below (hb4 w3.heap.size) (Nat.le_refl _)
  have hs4c := hs4b.below (hb4 w3.heap.size) (Nat.le_refl _)
  go_wp2_with fail
  refine (eqInt A2 A4 c2 c4 _ (splitM bs) (splitM bs) _ hs2c hs4c (by omega) (by omega)).mono ?_
  rintro e w5 ⟨rfl, rfl⟩
  rw [decide_eq_true rfl]
  go_wp2
  go_ret
  exact ⟨rfl, hbw3.trans (hb4 _)⟩
end Go.Proofs.Ytnddlehhgholhaa
