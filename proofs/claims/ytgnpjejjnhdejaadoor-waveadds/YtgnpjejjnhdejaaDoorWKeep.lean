/- The laws' own waved and across: their contracts. -/
import Derived.Test.YtgnpjejjnhdejaaDoorWTrans
import Derived.Deep.Cut
namespace Go.Proofs.YtgnpjejjnhdejaaDoor
open Go.RowKit
set_option linter.unusedVariables false
set_option linter.unusedSimpArgs false

theorem hundred_E : badB (-40000) 40000 (onesL 100) = 0 := by decide +kernel
theorem hundred_0 : (oTo (onesL 100))[0]? = some 800 := by decide +kernel
theorem hundred_1 : (oTo (onesL 100))[1]? = some 0 := by decide +kernel
theorem cW_17 : cW 1 7 = -4017 := by decide +kernel
set_option maxHeartbeats 4000000 in
set_option maxRecDepth 100000 in
theorem waved_any (w : World) (Q : Quart w) :
    Calls Tryd.prog 20 #[] w fun e w' => e = .returned (.bool true) ∧ Below w.heap.size w w' := by
  have H1 := veil (ones_any 100 w)
  have H2 := veil (fun W hQ => to_any (onesL 100) W (onesL_length 100) hQ)
  have H3 := veil (fun W hQ => basis_in 1 7 W (by omega) (by omega) hQ)
  rw [hundred_E] at H2
  rw [cW_17] at H3
  have Hlm : Hid ((ints .i64 (oTo (onesL 100))).length = 64) := by show _ = _; rw [ints_length, oTo_length]
  have hone := ints_one (k := .i64) (l := oTo (onesL 100))
  have c0 : (ints .i64 (oTo (onesL 100)))[0]? = some (.int .i64 800) := ints_at hundred_0
  have c1 : (ints .i64 (oTo (onesL 100)))[1]? = some (.int .i64 0) := ints_at hundred_1
  unfold blkV at *
  generalize ints .i64 (oTo (onesL 100)) = ms at *
  generalize ints .i64 (onesL 100) = os at *
  go_enter Tryd.func20, Tryd.ntmps20
  go_wp2_with fail
  refine H1.out.mono ?_
  rintro e w1 ⟨rfl, hb1⟩
  have H2' := veil (H2.out w1 (Q.after hb1))
  clear H1 H2
  go_wp2_with fail
  refine H2'.out.mono ?_
  rintro e w2 ⟨rfl, hb2⟩
  have hbw := hb1.trans (hb2.mono hb1.size)
  have hbw2 := hbw.trans ((below1 w2 (.cells ms.toArray 28)).mono hbw.size)
  have B := Blk.new w2 ms 28
  have d0 := B.cell c0
  have d1 := B.cell c1
  have H3' := veil (H3.out _ (Q.after hbw2))
  clear H2' H3 hb1 hb2 hbw B c0 c1
  go_upto_region 2 with (first
    | (refine wpList_store_new w2 rfl 28 (.tmp 1) (.tmp 8) rfl _ ms rfl rfl (info_blkn Hlm.out) (by rw [Hlm.out]; rfl) hone ?_)
    | fail)
  go_wp2_with fail
  refine H3'.out.mono ?_
  rintro e w3 ⟨rfl, rfl⟩
  go_wp2
  go_ret
  exact ⟨rfl, hbw2⟩

/-- Rows become columns, as far as place k. -/
def acK (cs : List Int) (k : Nat) : List Int := (List.range 64).map fun p => if p % 8 * 8 + p / 8 < k then cs.getD (p % 8 * 8 + p / 8) 0 else 0
def acL (cs : List Int) : List Int := acK cs 64
theorem acK_length (cs : List Int) (k : Nat) : (acK cs k).length = 64 := by simp [acK]
theorem acL_length (cs : List Int) : (acL cs).length = 64 := acK_length cs 64
theorem acK_zero (cs : List Int) : acK cs 0 = zero64 := by
  apply List.ext_getElem?
  intro i
  by_cases hi : i < 64
  · rw [acK, List.getElem?_map, List.getElem?_range hi, zero64, List.getElem?_replicate, if_pos hi]; simp
  · rw [List.getElem?_eq_none (by rw [acK_length]; omega), List.getElem?_eq_none (by rw [zero64_length]; omega)]
theorem acK_next {cs : List Int} {k : Nat} {x : Int} (hk : k < 64) (hx : cs[k]? = some x) : (acK cs k).set (k % 8 * 8 + k / 8) x = acK cs (k + 1) := by
  apply List.ext_getElem?
  intro i
  by_cases hi : i < 64
  · by_cases e : k % 8 * 8 + k / 8 = i
    · rw [e, List.getElem?_set_self (by rw [acK_length]; omega), acK, List.getElem?_map, List.getElem?_range hi]
      simp only [Option.map_some]
      rw [show i % 8 * 8 + i / 8 = k by omega, if_pos (by omega), List.getD_eq_getElem?_getD, hx]; rfl
    · rw [List.getElem?_set_ne e]
      unfold acK
      rw [List.getElem?_map, List.getElem?_map, List.getElem?_range hi]
      simp only [Option.map_some]
      by_cases h : i % 8 * 8 + i / 8 < k
      · rw [if_pos h, if_pos (by omega)]
      · rw [if_neg h, if_neg (by omega)]
  · rw [List.getElem?_eq_none (by rw [List.length_set, acK_length]; omega), List.getElem?_eq_none (by rw [acK_length]; omega)]
theorem acL_at {cs : List Int} {p : Nat} (hp : p < 64) : (acL cs)[p]? = some (cs.getD (p % 8 * 8 + p / 8) 0) := by
  rw [acL, acK, List.getElem?_map, List.getElem?_range hp]
  simp only [Option.map_some]
  rw [if_pos (by omega)]
theorem acL_getD (cs : List Int) {k : Nat} (hk : k < 64) : (acL cs).getD (k % 8 * 8 + k / 8) 0 = cs.getD k 0 := by
  rw [List.getD_eq_getElem?_getD, acL_at (by omega), show (k % 8 * 8 + k / 8) % 8 * 8 + (k % 8 * 8 + k / 8) / 8 = k by omega]; rfl
theorem wrapK {n : Int} (h1 : -4611686018427387904 ≤ n) (h2 : n ≤ 4611686018427387904) : IntKind.i64.wrap n = n := by
  rw [IntKind.wrap_i64]; omega
set_option maxHeartbeats 4000000 in
set_option maxRecDepth 100000 in
theorem across_any (cs : List Int) (w : World) (hl : cs.length = 64) :
    Calls Tryd.prog 23 #[blkV cs] w fun e w' => e = .returned (blkV (acL cs)) ∧ Below w.heap.size w w' := by
  have hb2 := below2 w (.cells (ints .i64 cs).toArray 28) (.cells zeroB.toArray 28)
  have B0 := (Blk.new w (ints .i64 cs) 28).below (below1 _ (.cells zeroB.toArray 28)) (by simp)
  have B1 := Blk.new (w.alloc (.cells (ints .i64 cs).toArray 28)) zeroB 28
  have Hl : Hid ((ints .i64 cs).length = 64) := by show _ = _; rw [ints_length, hl]
  have Hat : Hid (∀ (k : Nat) (x : Int), cs[k]? = some x → (ints .i64 cs)[k]? = some (.int .i64 x)) := fun _ _ h => ints_at h
  have Hn : Hid (∀ (k : Nat) (x : Int), k < 64 → cs[k]? = some x → (ints .i64 (acK cs k)).set (k % 8 * 8 + k / 8) (.int .i64 x) = ints .i64 (acK cs (k + 1))) := fun k x hk hx => by
    rw [← acK_next hk hx]; simp [ints, List.map_set]
  rw [show (w.alloc (.cells (ints .i64 cs).toArray 28)).heap.size = w.heap.size + 1 by simp] at B1
  have HB1 : Hid (Blk ((w.alloc (.cells (ints .i64 cs).toArray 28)).alloc (.cells zeroB.toArray 28)) (w.heap.size + 1) (ints .i64 (acK cs 0)) 28) := by rw [acK_zero]; exact B1
  have r0 := B0.range
  clear B0 B1
  unfold acL
  unfold blkV
  generalize ints .i64 cs = xs at *
  go_enter Tryd.func23, Tryd.ntmps23
  go_wp2_with (first
    | (refine wpList_load_mid rfl 28 (.tmp 1) rfl w.heap.size 0 rfl xs _ r0 Tryd.underlying28 rfl (info_blkn Hl.out) ?_)
    | fail)
  go_loopg [6] 64 (fun gk i wr => ∃ k : Nat, gk = 64 - k ∧ k ≤ 64 ∧ i = .int .i64 (k : Int) ∧ Hid (Blk wr (w.heap.size + 1) (ints .i64 (acK cs k)) 28) ∧ Below w.heap.size w wr)
  case atStart => exact ⟨0, rfl, by omega, rfl, HB1, hb2⟩
  case round =>
    clear HB1 hb2 r0
    obtain ⟨k, rfl, hk, rfl, HB, hbw⟩ := hrel
    by_cases hlt : k < 64
    · have hltz : (k : Int) < 64 := by omega
      obtain ⟨x, hx⟩ := some_at (xs := cs) (j := k) (by omega)
      have hxs := Hat.out _ _ hx
      have Hset := veil (Hn.out k x hlt hx)
      obtain ⟨y, hy⟩ := some_at (xs := acK cs k) (j := k % 8 * 8 + k / 8) (by rw [acK_length]; omega)
      have hcy := HB.out.cell (ints_at hy)
      have hfy := HB.out.frozen (k % 8 * 8 + k / 8)
      have HB5 : Hid (Blk (wr.setCell ⟨w.heap.size + 1, k % 8 * 8 + k / 8, none⟩ (.int .i64 x)) (w.heap.size + 1) (ints .i64 (acK cs (k + 1))) 28) := by
        rw [← Hset.out]; exact HB.out.set _ _
      have hgr : wr.grownBy (wr.setCell ⟨w.heap.size + 1, k % 8 * 8 + k / 8, none⟩ (.int .i64 x)) (some (w.heap.size + 1)) :=
        ⟨rfl, rfl, rfl, by simp [World.setCell], fun i _ hi => Below.heap_setCell _ _ _ _ (fun e => hi (by rw [e]))⟩
      have HG5 : Below w.heap.size w (wr.setCell ⟨w.heap.size + 1, k % 8 * 8 + k / 8, none⟩ (.int .i64 x)) := hbw.grown hgr hbw.size (fun j hj => by injection hj with hj; omega)
      have t1 : (k : Int).tmod 8 = ((k % 8 : Nat) : Int) := by rw [Int.tmod_eq_emod_of_nonneg (by omega)]; omega
      have t2 : (k : Int).tdiv 8 = ((k / 8 : Nat) : Int) := by rw [Int.tdiv_eq_ediv_of_nonneg (by omega)]; omega
      have s1 : (k : Int) % 8 = ((k % 8 : Nat) : Int) := by omega
      have s2 : (k : Int) / 8 = ((k / 8 : Nat) : Int) := by omega
      have v1 : k % 8 < 8 := by omega
      have v2 : k / 8 < 8 := by omega
      clear HB hgr hbw hy hx Hn Hat Hset
      generalize k % 8 = a at *
      generalize k / 8 = b at *
      have i1 : ((a : Int) * 8 + (b : Int)).toNat = a * 8 + b := by omega
      have v3 : (a : Int) * 8 + (b : Int) < 64 := by omega
      go_wp2_with (first
        | (refine wpList_index_arr rfl 28 (.tmp 5) (.tmp 6) rfl 64 3 .i64 Tryd.underlying28 Tryd.underlying3 (by kernel_rfl) xs rfl .i64 k rfl (.int .i64 x) hlt hxs ?_)
        | fail)
      go_roundg (64 - (k + 1))
      case rel => exact ⟨k + 1, rfl, by omega, by go_num, HB5, HG5⟩
      case measure => omega
    · obtain rfl : k = 64 := by omega
      have HBr := HB.out
      have Hlm : Hid ((ints .i64 (acK cs 64)).length = 64) := by show _ = _; rw [ints_length, acK_length]
      have hone := ints_one (k := .i64) (l := acK cs 64)
      clear HB Hn
      obtain ⟨ms, hms⟩ : ∃ ms, ms = ints .i64 (acK cs 64) := ⟨_, rfl⟩
      rw [← hms] at HBr Hlm hone
      have HX := veil hms; clear hms
      go_wp2_with (first
        | (refine wpList_load_mid rfl 28 (.tmp 2) rfl (w.heap.size + 1) 0 rfl ms _ HBr.range Tryd.underlying28 rfl (info_blkn Hlm.out) ?_)
        | (refine wpList_store_blk wr rfl 28 (.tmp 2) (.tmp 19) rfl (w.heap.size + 1) ms ms 28 HBr rfl rfl (info_blkn Hlm.out) rfl hone ?_; intro w5 HB5 hg5)
        | fail)
      refine bodyPost_ret (v := .agg ms.toArray) (results_cell_row rfl _ _ (w.heap.size + 1) 28 ms.toArray (0, 0) _ rfl HB5 Tryd.underlying28 rfl (by simp only [List.size_toArray]; exact info_blkn Hlm.out)) rfl ⟨by rw [HX.out], hbw.grown hg5 hbw.size (fun j hj => by injection hj with hj; omega)⟩
end Go.Proofs.YtgnpjejjnhdejaaDoor
