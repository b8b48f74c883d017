/- mezzotintkeep.made: its contract. -/
import Derived.Test.YthelblkpfkngmaaBestMade
namespace Go.Proofs.Ythelblkpfkngmaa
open Go.RowKit
set_option linter.unusedVariables false
set_option linter.unusedSimpArgs false

/-- n is what the counts take at least. -/
def LeastIs (zs : List Int) (n : Int) : Prop := errB zs = 0 → ∃ L, BestL zs L ∧ n = (costL zs L : Int)
def okB (zs : List Int) : Bool := decide (errB zs = 0)
set_option maxRecDepth 100000 in
set_option maxHeartbeats 4000000 in
theorem made_any (A2 : Option Addr) (c2 G : Nat) (zs : List Int) (w : World) (hz : Seen w G A2 (ints .i64 zs)) (hG : G ≤ w.heap.size) (hzl : zs.length ≤ maxLen) :
    Calls Try.prog 23 #[.slice A2 zs.length c2] w fun e w' => ∃ n : Int, e = .returned (.tuple #[.int .i64 n, .bool (okB zs)]) ∧ LeastIs zs n ∧ Below w.heap.size w w' := by
  obtain ⟨ob, hob⟩ : ∃ b, b = okB zs := ⟨_, rfl⟩
  rw [← hob]
  have Hob := veil hob; clear hob
  have HM := veil (make_any A2 c2 G zs w hz hG hzl)
  go_enter Try.func23, Try.ntmps23
  go_wp2_with fail
  refine HM.out.mono ?_
  rintro e w2 ⟨cs2, syms2, A', c', rfl, hM, HO, hbel2⟩
  have hsy := MadeT.seen (zs := zs) (cs := cs2) HO
  have Hl2 := veil (tabCells_length (A := A') (n := syms2.length) (c := c') hM.len)
  have hone := tabCells_one (cs := cs2) (A := A') (n := syms2.length) (c := c')
  have hz2 := hbel2.size
  have HK := veil (fun w3 G h1 h2 h3 => cost_any cs2 syms2 zs A' A2 c' c2 G w3 hM.len (by have := hM.short; unfold maxLen; omega) hM.bnd h1 h2 h3 hzl)
  have Hok := veil hM.ok
  unfold tabV at HK ⊢
  generalize tabCells cs2 A' syms2.length c' = ys at *
  clear HM HO hM
  have hzb := hz.below hbel2 hG
  by_cases he : errB zs = 0
  · obtain ⟨_, _, _, k4, L, k5, k6, _⟩ := Hok.out he
    have HLe : Hid (LeastIs zs (costV cs2 syms2 zs)) := fun _ => ⟨L, k5, k6⟩
    have hde : Hid (ob = true) := by rw [Hid, Hob.out]; simp [okB, he]
    rw [k4] at HK
    rw [he] at ⊢
    generalize costV cs2 syms2 zs = v2 at *
    clear k4 k5 k6 Hok he Hob
    go_wp2_with (first
      | (refine wpList_store_tab w2 rfl (.tmp 4) (.tmp 11) rfl ys Hl2.out hone rfl rfl ?_)
      | (refine wpList_load_mid rfl 25 (.tmp 4) rfl w2.heap.size 0 rfl ys _ (range_new w2 ys 25) Try.underlying25 rfl (by rw [Hl2.out]; exact info_tab) ?_)
      | fail)
    refine (HK.out _ w2.heap.size (hsy.alloc (Nat.le_refl _) _) ((hzb.up (by omega)).alloc (Nat.le_refl _) _) (by simp)).mono ?_
    rintro e w3 ⟨rfl, hb3⟩
    have hbel3 : Below w.heap.size w w3 := (hbel2.trans ((below1 w2 _).mono hz2)).trans (hb3.mono (by simp; omega))
    go_wp2
    go_ret2
    exact ⟨v2, ret_two rfl (by rw [hde.out]; rfl), HLe.out, hbel3⟩
  · have hne : (errB zs == 0) = false := by simpa using he
    have HLe : Hid (∀ n, LeastIs zs n) := fun n h => absurd h he
    have hde : Hid (ob = false) := by rw [Hid, Hob.out]; simp [okB, he]
    generalize costV cs2 syms2 zs = v2 at *
    generalize costE cs2 syms2 zs = e2 at *
    clear Hok he Hob
    generalize errB zs = E at *
    go_wp2_with (first
      | (refine wpList_store_tab w2 rfl (.tmp 4) (.tmp 11) rfl ys Hl2.out hone rfl rfl ?_)
      | (refine wpList_load_mid rfl 25 (.tmp 4) rfl w2.heap.size 0 rfl ys _ (range_new w2 ys 25) Try.underlying25 rfl (by rw [Hl2.out]; exact info_tab) ?_)
      | fail)
    refine (HK.out _ w2.heap.size (hsy.alloc (Nat.le_refl _) _) ((hzb.up (by omega)).alloc (Nat.le_refl _) _) (by simp)).mono ?_
    rintro e w3 ⟨rfl, hb3⟩
    have hbel3 : Below w.heap.size w w3 := (hbel2.trans ((below1 w2 _).mono hz2)).trans (hb3.mono (by simp; omega))
    go_wp2
    go_ret2
    exact ⟨v2, ret_two rfl (by rw [hde.out]; rfl), HLe.out _, hbel3⟩
end Go.Proofs.Ythelblkpfkngmaa
