/- The laws' own ones and coarse: their contracts. -/
import Derived.Test.YtpbeehalicmdjaaQLaw
namespace Go.Proofs.Ytpbeehalicmdjaa
open Go.RowKit
set_option linter.unusedVariables false
set_option linter.unusedSimpArgs false

def onesK (n : Int) (k : Nat) : List Int := mapK (fun _ _ => n) zero64 k
def onesL (n : Int) : List Int := List.replicate 64 n
theorem onesK_all (n : Int) : onesK n 64 = onesL n := by
  apply List.ext_getElem?
  intro i
  by_cases hi : i < 64
  · rw [onesK, mapK, List.getElem?_map, List.getElem?_range hi, onesL, List.getElem?_replicate, if_pos hi]; simp [hi]
  · rw [List.getElem?_eq_none (by rw [onesK, mapK_length]; omega), List.getElem?_eq_none (by simp [onesL]; omega)]
theorem onesL_length (n : Int) : (onesL n).length = 64 := by simp [onesL]
theorem onesL_at {n : Int} {i : Nat} (hi : i < 64) : (onesL n)[i]? = some n := by rw [onesL, List.getElem?_replicate, if_pos hi]
set_option maxHeartbeats 4000000 in
set_option maxRecDepth 100000 in
theorem ones_any (n : Int) (w : World) :
    Calls Try.prog 23 #[.int .i64 n] w fun e w' => e = .returned (blkV (onesL n)) ∧ Below w.heap.size w w' := by
  have HB0 := veil (Blk.new w zeroB 23)
  have hb0 := below1 w (.cells zeroB.toArray 23)
  have Hx : Hid (∀ k, k < 64 → (ints .i64 (onesK n k)).set k (.int .i64 n) = ints .i64 (onesK n (k + 1))) := by
    intro k hk
    rw [show onesK n (k + 1) = (onesK n k).set k n from mapK_next (x := 0) hk (by rw [zero64, List.getElem?_replicate, if_pos hk])]
    simp [ints, List.map_set]
  have H0 : Hid (ints .i64 (onesK n 0) = zeroB) := by show _ = _; rw [onesK, mapK_zero]; rfl
  unfold blkV
  rw [← onesK_all]
  go_enter Try.func23, Try.ntmps23
  go_wp2_with fail
  go_loopg [4] 64 (fun gk i wr => ∃ k : Nat, gk = 64 - k ∧ k ≤ 64 ∧ i = .int .i64 (k : Int) ∧ Hid (Blk wr w.heap.size (ints .i64 (onesK n k)) 23) ∧ Below w.heap.size w wr)
  case atStart => exact ⟨0, rfl, by omega, rfl, veil (by rw [H0.out]; exact HB0.out), hb0⟩
  case round =>
    clear HB0 hb0 H0
    obtain ⟨k, rfl, hk, rfl, HB, hbw⟩ := hrel
    by_cases hlt : k < 64
    · have hltz : (k : Int) < 64 := by omega
      obtain ⟨y, hy⟩ := some_at (xs := onesK n k) (j := k) (by rw [onesK, mapK_length]; omega)
      have hcx := HB.out.cell (ints_at hy)
      have hfx := HB.out.frozen k
      have HB5 : Hid (Blk (wr.setCell ⟨w.heap.size, k, none⟩ (.int .i64 n)) w.heap.size (ints .i64 (onesK n (k + 1))) 23) := by
        have := HB.out.set k (.int .i64 n)
        rw [Hx.out k hlt] at this
        exact this
      have hgr : wr.grownBy (wr.setCell ⟨w.heap.size, k, none⟩ (.int .i64 n)) (some w.heap.size) :=
        ⟨rfl, rfl, rfl, by simp [World.setCell], fun i _ hi => Below.heap_setCell _ _ _ _ (fun e => hi (by rw [e]))⟩
      have HG5 : Below w.heap.size w (wr.setCell ⟨w.heap.size, k, none⟩ (.int .i64 n)) := hbw.grown hgr hbw.size (fun j hj => by injection hj with hj; omega)
      clear HB hgr hbw hy Hx
      go_wp2_with fail
      go_roundg (64 - (k + 1))
      case rel => exact ⟨k + 1, rfl, by omega, by go_num, HB5, HG5⟩
      case measure => omega
    · obtain rfl : k = 64 := by omega
      have HBr := HB.out
      have Hlm : Hid ((ints .i64 (onesK n 64)).length = 64) := by show _ = _; rw [ints_length, onesK, mapK_length]
      have hone := ints_one (k := .i64) (l := onesK n 64)
      clear HB Hx
      obtain ⟨ms, hms⟩ : ∃ ms, ms = ints .i64 (onesK n 64) := ⟨_, rfl⟩
      rw [← hms] at HBr Hlm hone
      have HX := veil hms; clear hms
      go_wp2_with (first
        | (refine wpList_load_mid rfl 23 (.tmp 2) rfl w.heap.size 0 rfl ms _ HBr.range Try.underlying23 rfl (info_blkn Hlm.out) ?_)
        | (refine wpList_store_blk wr rfl 23 (.tmp 2) (.tmp 11) rfl w.heap.size ms ms 23 HBr rfl rfl (info_blkn Hlm.out) rfl hone ?_; intro w5 HB5 hg5)
        | fail)
      refine bodyPost_ret (v := .agg ms.toArray) (results_cell_row rfl _ _ w.heap.size 23 ms.toArray (0, 0) _ rfl HB5 Try.underlying23 rfl (by simp only [List.size_toArray]; exact info_blkn Hlm.out)) rfl ⟨by rw [HX.out], hbw.grown hg5 hbw.size (fun j hj => by injection hj with hj; omega)⟩
def seven : List Int := 7 :: -7 :: List.replicate 62 0
theorem seven_E : eBoth 40000 seven (onesL 2) = 0 := by decide +kernel
theorem seven_O : oDown seven (onesL 2) = 4 :: -4 :: List.replicate 62 0 := by decide +kernel
set_option maxHeartbeats 4000000 in
set_option maxRecDepth 100000 in
theorem coarse_any (w : World) :
    Calls Try.prog 21 #[] w fun e w' => e = .returned (.bool true) ∧ Below w.heap.size w w' := by
  have H1 := veil (ones_any 2)
  have H2 := veil (fun W => down_any seven (onesL 2) W (by simp [seven]) (onesL_length 2))
  have HC := veil (fun W => qcheck_any zero64 W zero64_length)
  rw [zero_bad] at HC
  rw [seven_E] at H2
  have Hlm : Hid ((ints .i64 (oDown seven (onesL 2))).length = 64) := by show _ = _; rw [ints_length, oDown_length]
  have hone := ints_one (k := .i64) (l := oDown seven (onesL 2))
  have c0 : (ints .i64 (oDown seven (onesL 2)))[0]? = some (.int .i64 4) := ints_at (by rw [seven_O]; rfl)
  have c1 : (ints .i64 (oDown seven (onesL 2)))[1]? = some (.int .i64 (-4)) := ints_at (by rw [seven_O]; rfl)
  unfold blkV at *
  rw [zero_blk] at HC
  generalize ints .i64 (oDown seven (onesL 2)) = ms at *
  generalize ints .i64 (onesL 2) = os at *
  go_enter Try.func21, Try.ntmps21
  go_wp2_with fail
  refine (H1.out _).mono ?_
  rintro e w1 ⟨rfl, hb1⟩
  clear H1
  go_wp2_with fail
  refine (H2.out _).mono ?_
  rintro e w2 ⟨rfl, hb2⟩
  clear H2
  have hbw := (hb1.trans (hb2.mono hb1.size)).trans ((below1 w2 (.cells ms.toArray 23)).mono (Nat.le_trans hb1.size hb2.size))
  have d0 := (Blk.new w2 ms 23).cell c0
  have d1 := (Blk.new w2 ms 23).cell c1
  clear hb1 hb2 c0 c1
  go_wp2_with (first
    | (refine wpList_store_new w2 rfl 23 (.tmp 1) (.tmp 7) rfl zeroB.toArray ms rfl rfl (info_blkn Hlm.out) (by rw [Hlm.out]; rfl) hone ?_)
    | fail)
  refine (HC.out _).mono ?_
  rintro e w3 ⟨rfl, hb3⟩
  have hf := hbw.trans (hb3.mono hbw.size)
  go_wp2
  go_ret
  exact ⟨rfl, hf⟩
end Go.Proofs.Ytpbeehalicmdjaa
