/- run's list of tokens as a source: the contract of its method next. -/
import Derived.Test.YtemckjkdlbipcaaRunTok
import Derived.Test.YtemckjkdlbipcaaFnCall
import Derived.Test.YtemckjkdlbipcaaCutTok
namespace Go.Proofs.Ytemckjkdlbipcaa
open Go.RowKit
set_option linter.unusedVariables false
set_option linter.unusedSimpArgs false
set_option maxRecDepth 100000

/-- The source stands before token u of these: block g holds the slice, which lies below block G, and the number. -/
def PSrc (G g : Nat) (A : Option Addr) (c : Nat) (l : List (Int × Int × Int)) (w : World) (u : Nat) : Prop :=
  Blk w g [.slice A l.length c, .int .i64 (u : Int)] 48 ∧ Seen w G A (tokCells l) ∧ u ≤ l.length
theorem PSrc.below {G g B c u : Nat} {A : Option Addr} {w w' : World} {l : List (Int × Int × Int)} (h : PSrc G g A c l w u) (hb : Below B w w') (hg : g < B) (hG : G ≤ B) : PSrc G g A c l w' u :=
  ⟨h.1.below hb hg, h.2.1.below hb hG, h.2.2⟩
theorem PSrc.kept {G g b c u : Nat} {A : Option Addr} {w w' : World} {l : List (Int × Int × Int)} (h : PSrc G g A c l w u) (hg : w.grownBy w' (some b)) (hne : g ≠ b) (hG : G ≤ b) (hz : G ≤ w.heap.size) : PSrc G g A c l w' u :=
  ⟨h.1.kept hg (fun e => hne (by injection e)), h.2.1.grown hg hG hz, h.2.2⟩
def tok0 : List Value := [.int .i64 0, .int .i64 0, .int .i64 0]
theorem tok0_one : ∀ u ∈ tok0, u.oneCell' = true := by intro u hu; simp [tok0] at hu; subst hu; rfl
theorem tokv_one (a b c : Int) : ∀ u ∈ [Value.int .i64 a, .int .i64 b, .int .i64 c], u.oneCell' = true := by intro u hu; simp at hu; rcases hu with rfl | rfl | rfl <;> rfl
set_option maxHeartbeats 1000000 in
theorem pnext_none (G g c : Nat) (A : Option Addr) (l : List (Int × Int × Int)) (w : World) (hs : PSrc G g A c l w l.length) (hl : l.length ≤ maxLen) :
    Calls Try.prog 61 #[.pointer (some ⟨g, 0, none⟩)] w fun e w' => e = .returned (.tuple #[tokV (0, 0, 0), .bool false]) ∧ Below w.heap.size w w' := by
  obtain ⟨hB, hS, _⟩ := hs
  have hgz := hB.lt
  have hb := below1 w (.cells tok0.toArray 30)
  have hB1 := hB.below hb hgz
  have hBt := Blk.new w tok0 30
  have c0 := hB1.cell (i := 0) (v := .slice A l.length c) rfl
  have c1 := hB1.cell (i := 1) (v := .int .i64 (l.length : Int)) rfl
  obtain ⟨W, hW⟩ : ∃ W, W = w.alloc (.cells tok0.toArray 30) := ⟨_, rfl⟩
  have HW := veil hW
  rw [← hW] at c0 c1 hBt hb
  clear hB hB1 hS hW
  unfold tokV
  go_enter Try.func61, Try.ntmps61
  go_wp2_with fail
  rw [show w.alloc (.cells #[Value.int IntKind.i64 0, Value.int IntKind.i64 0, Value.int IntKind.i64 0] 30) = W from HW.out.symm]
  go_quiet (fail)
  go_wp2_with (first
    | (refine wpList_store_blk _ rfl 30 (.tmp 2) (.tmp 15) rfl w.heap.size tok0 tok0 30 (hBt.drewN _) rfl rfl info_tok rfl tok0_one ?_; intro w5 HB7 hg7)
    | fail)
  exact bodyPost_ret (results_row_tmp rfl _ _ w.heap.size 30 tok0.toArray (0, 0) _ (.bool false) rfl rfl HB7 Try.underlying30 rfl info_tok) rfl ⟨rfl, (hb.drewN _).grown hg7 hb.size (fun j hj => by injection hj with hj; omega)⟩
set_option maxHeartbeats 2000000 in
theorem pnext_some (G g c u : Nat) (A : Option Addr) (l : List (Int × Int × Int)) (t : Int × Int × Int) (w : World) (hs : PSrc G g A c l w u) (hG : G ≤ g) (hl : l.length ≤ maxLen) (ht : l[u]? = some t) :
    Calls Try.prog 61 #[.pointer (some ⟨g, 0, none⟩)] w fun e w' => e = .returned (.tuple #[tokV t, .bool true]) ∧ w.grownBy w' (some g) ∧ PSrc G g A c l w' (u + 1) := by
  obtain ⟨hB, hS, hu⟩ := hs
  have hul : u < l.length := (List.getElem?_eq_some_iff.1 ht).1
  have hgz := hB.lt
  obtain ⟨g2, o, p0, p1, p2, rfl, hg2, ht2, d0, d1, d2⟩ := hS.tok (k := u) hul
  obtain rfl : t = (p0, p1, p2) := by rw [ht] at ht2; injection ht2
  have hb := below1 w (.cells tok0.toArray 30)
  have hB1 := hB.below hb hgz
  have hBt := Blk.new w tok0 30
  have c0 := hB1.cell (i := 0) (v := .slice (some ⟨g2, o, none⟩) l.length c) rfl
  have c1 := hB1.cell (i := 1) (v := .int .i64 (u : Int)) rfl
  rw [← hb.cell (by simp; omega)] at d0 d1 d2
  obtain ⟨W, hW⟩ : ∃ W, W = w.alloc (.cells tok0.toArray 30) := ⟨_, rfl⟩
  have HW := veil hW
  rw [← hW] at c0 c1 hBt hb hB1 d0 d1 d2
  have hulz : (u : Int) < (l.length : Int) := by omega
  have hune : ((u : Int) == (l.length : Int)) = false := by simp; omega
  clear hB hW ht ht2
  unfold tokV
  go_enter Try.func61, Try.ntmps61
  go_wp2_with fail
  rw [show w.alloc (.cells #[Value.int IntKind.i64 0, Value.int IntKind.i64 0, Value.int IntKind.i64 0] 30) = W from HW.out.symm]
  go_quiet (fail)
  have hgW : g < W.heap.size := hB1.lt
  have hb2 := below1 (W.drewN (nq + 1)) (.cells tok0.toArray 30)
  have e0 := (hb2.cell (p := ⟨g, 0, none⟩) hgW).trans c0
  have e1 := (hb2.cell (p := ⟨g, 1, none⟩) hgW).trans c1
  have hg2W : g2 < W.heap.size := by omega
  have f0 := (hb2.cell (p := ⟨g2, o + u * 3, none⟩) hg2W).trans d0
  have f1 := (hb2.cell (p := ⟨g2, o + u * 3 + 1, none⟩) hg2W).trans d1
  have f2 := (hb2.cell (p := ⟨g2, o + u * 3 + 2, none⟩) hg2W).trans d2
  have hBn : Blk ((W.drewN (nq + 1)).alloc (.cells tok0.toArray 30)) W.heap.size tok0 30 := Blk.new (W.drewN (nq + 1)) tok0 30
  have n0 := hBn.cell (i := 0) (v := .int .i64 0) rfl
  have z0 := hBn.frozen 0
  have hBn1 := hBn.set 0 (.int .i64 p0)
  have n1 := hBn1.cell (i := 1) (v := .int .i64 0) rfl
  have z1 := hBn1.frozen 1
  have hBn2 := hBn1.set 1 (.int .i64 p1)
  have n2 := hBn2.cell (i := 2) (v := .int .i64 0) rfl
  have z2 := hBn2.frozen 2
  simp only [tok0] at e0 e1 f0 f1 f2 n0 n1 n2 z0 z1 z2
  clear hb2
  go_wp2_with fail
  go_big_region
  have hBn3 := hBn2.set 2 (.int .i64 p2)
  have hbV : Below W.heap.size W ((((((W.drewN (nq + 1)).alloc (.cells tok0.toArray 30)).setCell ⟨W.heap.size, 0, none⟩ (.int .i64 p0)).setCell ⟨W.heap.size, 1, none⟩ (.int .i64 p1)).setCell ⟨W.heap.size, 2, none⟩ (.int .i64 p2))) :=
    ((((((Below.refl W.heap.size W).drewN (nq + 1)).alloc (Nat.le_refl _) _).grown (grown_setCell _ _ _ _) (by simp) (fun j hj => by injection hj with hj; omega)).grown (grown_setCell _ _ _ _) (by simp [World.setCell]) (fun j hj => by injection hj with hj; omega)).grown (grown_setCell _ _ _ _) (by simp [World.setCell]) (fun j hj => by injection hj with hj; omega))
  simp only [tok0] at hBn3 hbV
  obtain ⟨V, hV⟩ : ∃ V, V = (((((W.drewN (nq + 1)).alloc (.cells #[.int .i64 0, .int .i64 0, .int .i64 0] 30)).setCell ⟨W.heap.size, 0, none⟩ (.int .i64 p0)).setCell ⟨W.heap.size, 1, none⟩ (.int .i64 p1)).setCell ⟨W.heap.size, 2, none⟩ (.int .i64 p2)) := ⟨_, rfl⟩
  rw [← hV] at hBn3 hbV ⊢
  have hBg := hB1.below hbV hgW
  have hwW : w.heap.size < W.heap.size := by rw [HW.out]; simp
  have hBtV := hBt.below hbV hwW
  have k1 := hBg.cell (i := 1) (v := .int .i64 (u : Int)) rfl
  have y1 := hBg.frozen 1
  have hBg2 := hBg.set 1 (.int .i64 ((u : Int) + 1))
  have hg4 := grown_setCell V g 1 (.int .i64 ((u : Int) + 1))
  have hBn4 := hBn3.kept hg4 (by simp; omega)
  have hBt4 := hBtV.kept hg4 (by simp; omega)
  have m0 := hBn4.cell (i := 0) (v := .int .i64 p0) rfl
  have m1 := hBn4.cell (i := 1) (v := .int .i64 p1) rfl
  have m2 := hBn4.cell (i := 2) (v := .int .i64 p2) rfl
  have hgV : w.grownBy V (some g) := grown_below (grown_below (World.grownBy.refl _ _) hb (Nat.le_refl _)) hbV (by omega)
  have hgV4 : w.grownBy (V.setCell ⟨g, 1, none⟩ (.int .i64 ((u : Int) + 1))) (some g) := by
    refine ⟨hgV.os, hgV.tape, hgV.output, by have := hgV.size; simpa [World.setCell] using this, fun i hi hr => ?_⟩
    rw [Below.heap_setCell _ _ _ _ (fun e => hr (by rw [e]))]
    exact hgV.block i hi hr
  have hum : (u : Int) + 1 ≤ 9223372036854775807 := by unfold maxLen at hl; omega
  clear hV n0 n1 n2 z0 z1 z2 e0 e1 f0 f1 f2 hBn hBn1 hBn2 hBn3 c0 c1 d0 d1 d2 HW
  go_wp2_with (first
    | (refine wpList_store_blk (V.setCell ⟨g, 1, none⟩ (.int .i64 ((u : Int) + 1))) rfl 30 (.tmp 2) (.tmp 33) rfl w.heap.size tok0 [.int .i64 p0, .int .i64 p1, .int .i64 p2] 30 hBt4 rfl rfl info_tok rfl (tokv_one _ _ _) ?_; intro w5 HB7 hg7)
    | fail)
  refine bodyPost_ret (results_row_tmp rfl _ _ w.heap.size 30 #[.int .i64 p0, .int .i64 p1, .int .i64 p2] (0, 0) _ (.bool true) rfl rfl HB7 Try.underlying30 rfl info_tok) rfl ⟨rfl, grown_grown hgV4 hg7 (Nat.le_refl _), ?_⟩
  have hg8 := grown_grown hgV4 hg7 (Nat.le_refl _)
  refine ⟨?_, hS.grown hg8 hG (by omega), by omega⟩
  have := hBg2.kept hg7 (by simp; omega)
  exact this
end Go.Proofs.Ytemckjkdlbipcaa
