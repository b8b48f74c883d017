/- What the walks over the transform share: the zero block, a block and a code handed back, the laws' own ones. -/
import Derived.Test.YtgnpjejjnhdejaaDoorQBase
namespace Go.Proofs.YtgnpjejjnhdejaaDoor
open Go.RowKit
set_option linter.unusedVariables false
set_option linter.unusedSimpArgs false

def zeroB : List Value := ints .i64 (List.replicate 64 0)
theorem zeroB_length : zeroB.length = 64 := by simp [zeroB, ints_length]
theorem zero_blk : ints .i64 zero64 = zeroB := rfl
theorem drewN_grown (w : World) (q : Nat) (r : Option Nat) : w.grownBy (w.drewN q) r := ⟨rfl, rfl, rfl, Nat.le_refl _, fun _ _ _ => rfl⟩
theorem results_row_tmp {P : Program} {fn : Func} {p u : Tmp} {ty : TypeId} (h : fn.results = #[.cell p ty, .tmp u]) (tmps : Array Value) (w : World) (g : Nat) (t : TypeId) (cs : Array Value) (fr : Nat × Nat) (d : TypeDesc) (x : Value)
    (hp : tmps.getD p undef = .pointer (some ⟨g, 0, none⟩)) (hx : tmps.getD u undef = x) (hg : w.heap[g]? = some (.cells cs t fr))
    (hu : P.underlying ty = some d) (hd : (match d with | .struct _ | .array _ _ => true | _ => false) = true) (hi : (P.info? ty).map (·.size) = some cs.size) :
    (results fn tmps).run P w = .ok (.tuple #[.agg cs, x]) w := by
  rw [results_cell_tmp h, hp, hx]
  simp [asAddr, run_loadVar_row w g t ty cs fr d hg hu hd hi, Result.andThen]
def onesK (n : Int) (k : Nat) : List Int := mapK (fun _ _ => n) zero64 k
def onesL (n : Int) : List Int := List.replicate 64 n
theorem onesK_all (n : Int) : onesK n 64 = onesL n := by
  apply List.ext_getElem?
  intro i
  by_cases hi : i < 64
  · rw [onesK, mapK, List.getElem?_map, List.getElem?_range hi, onesL, List.getElem?_replicate, if_pos hi]; simp [hi]
  · rw [List.getElem?_eq_none (by rw [onesK, mapK_length]; omega), List.getElem?_eq_none (by simp [onesL]; omega)]
theorem onesL_length (n : Int) : (onesL n).length = 64 := by simp [onesL]
theorem onesL_at {n : Int} {i : Nat} (hi : i < 64) : (onesL n)[i]? = some n := by rw [onesL, List.getElem?_replicate, if_pos hi]
set_option maxHeartbeats 4000000 in
set_option maxRecDepth 100000 in
theorem ones_any (n : Int) (w : World) :
    Calls Tryd.prog 22 #[.int .i64 n] w fun e w' => e = .returned (blkV (onesL n)) ∧ Below w.heap.size w w' := by
  have HB0 := veil (Blk.new w zeroB 28)
  have hb0 := below1 w (.cells zeroB.toArray 28)
  have Hx : Hid (∀ k, k < 64 → (ints .i64 (onesK n k)).set k (.int .i64 n) = ints .i64 (onesK n (k + 1))) := by
    intro k hk
    rw [show onesK n (k + 1) = (onesK n k).set k n from mapK_next (x := 0) hk (by rw [zero64, List.getElem?_replicate, if_pos hk])]
    simp [ints, List.map_set]
  have H0 : Hid (ints .i64 (onesK n 0) = zeroB) := by show _ = _; rw [onesK, mapK_zero]; rfl
  unfold blkV
  rw [← onesK_all]
  go_enter Tryd.func22, Tryd.ntmps22
  go_wp2_with fail
  go_loopg [4] 64 (fun gk i wr => ∃ k : Nat, gk = 64 - k ∧ k ≤ 64 ∧ i = .int .i64 (k : Int) ∧ Hid (Blk wr w.heap.size (ints .i64 (onesK n k)) 28) ∧ Below w.heap.size w wr)
  case atStart => exact ⟨0, rfl, by omega, rfl, veil (by rw [H0.out]; exact HB0.out), hb0⟩
  case round =>
    clear HB0 hb0 H0
    obtain ⟨k, rfl, hk, rfl, HB, hbw⟩ := hrel
    by_cases hlt : k < 64
    · have hltz : (k : Int) < 64 := by omega
      obtain ⟨y, hy⟩ := some_at (xs := onesK n k) (j := k) (by rw [onesK, mapK_length]; omega)
      have hcx := HB.out.cell (ints_at hy)
      have hfx := HB.out.frozen k
      have HB5 : Hid (Blk (wr.setCell ⟨w.heap.size, k, none⟩ (.int .i64 n)) w.heap.size (ints .i64 (onesK n (k + 1))) 28) := by
        have := HB.out.set k (.int .i64 n)
        rw [Hx.out k hlt] at this
        exact this
      have hgr : wr.grownBy (wr.setCell ⟨w.heap.size, k, none⟩ (.int .i64 n)) (some w.heap.size) :=
        ⟨rfl, rfl, rfl, by simp [World.setCell], fun i _ hi => Below.heap_setCell _ _ _ _ (fun e => hi (by rw [e]))⟩
      have HG5 : Below w.heap.size w (wr.setCell ⟨w.heap.size, k, none⟩ (.int .i64 n)) := hbw.grown hgr hbw.size (fun j hj => by injection hj with hj; omega)
      clear HB hgr hbw hy Hx
      go_wp2_with fail
      go_roundg (64 - (k + 1))
      case rel => exact ⟨k + 1, rfl, by omega, by go_num, HB5, HG5⟩
      case measure => omega
    · obtain rfl : k = 64 := by omega
      have HBr := HB.out
      have Hlm : Hid ((ints .i64 (onesK n 64)).length = 64) := by show _ = _; rw [ints_length, onesK, mapK_length]
      have hone := ints_one (k := .i64) (l := onesK n 64)
      clear HB Hx
      obtain ⟨ms, hms⟩ : ∃ ms, ms = ints .i64 (onesK n 64) := ⟨_, rfl⟩
      rw [← hms] at HBr Hlm hone
      have HX := veil hms; clear hms
      go_wp2_with (first
        | (refine wpList_load_mid rfl 28 (.tmp 2) rfl w.heap.size 0 rfl ms _ HBr.range Tryd.underlying28 rfl (info_blkn Hlm.out) ?_)
        | (refine wpList_store_blk wr rfl 28 (.tmp 2) (.tmp 11) rfl w.heap.size ms ms 28 HBr rfl rfl (info_blkn Hlm.out) rfl hone ?_; intro w5 HB5 hg5)
        | fail)
      refine bodyPost_ret (v := .agg ms.toArray) (results_cell_row rfl _ _ w.heap.size 28 ms.toArray (0, 0) _ rfl HB5 Tryd.underlying28 rfl (by simp only [List.size_toArray]; exact info_blkn Hlm.out)) rfl ⟨by rw [HX.out], hbw.grown hg5 hbw.size (fun j hj => by injection hj with hj; omega)⟩
end Go.Proofs.YtgnpjejjnhdejaaDoor
