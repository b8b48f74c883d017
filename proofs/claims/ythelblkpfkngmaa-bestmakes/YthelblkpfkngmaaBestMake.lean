/- best.Make: its contract. -/
import Derived.Test.YthelblkpfkngmaaBestSingles
import Derived.Test.YthelblkpfkngmaaBestLengths
import Derived.Test.YthelblkpfkngmaaBestTable
namespace Go.Proofs.Ythelblkpfkngmaa
open Go.RowKit
set_option linter.unusedVariables false
set_option linter.unusedSimpArgs false

theorem sing_eq (zs : List Int) : sing (backTo zs 0) = singlesOf (cntZ zs) (idxB zs) := by
  unfold sing backTo singlesOf idxB used
  rw [List.drop_zero, List.filter_reverse, List.map_cons, ← List.map_reverse, List.map_map]
  congr 1
  refine List.map_congr_left fun p hp => ?_
  obtain ⟨k, h1, h2⟩ := enumI_get (List.mem_filter.1 (List.mem_reverse.1 hp)).1
  simp only [Function.comp_apply, single1, h1, cntZ_at h2]
theorem results_cell_row_tmp {P : Program} {fn : Func} {p u : Tmp} {ty : TypeId} (h : fn.results = #[.cell p ty, .tmp u]) (tmps : Array Value) (w : World) (g : Nat) (t : TypeId) (cs : Array Value) (fr : Nat × Nat) (d : TypeDesc) (x : Value)
    (hp : tmps.getD p undef = .pointer (some ⟨g, 0, none⟩)) (hx : tmps.getD u undef = x) (hg : w.heap[g]? = some (.cells cs t fr))
    (hu : P.underlying ty = some d) (hd : (match d with | .struct _ | .array _ _ => true | _ => false) = true) (hi : (P.info? ty).map (·.size) = some cs.size) :
    (results fn tmps).run P w = .ok (.tuple #[.agg cs, x]) w := by
  rw [results_cell_tmp h, hp, hx]
  simp [asAddr, run_loadVar_row w g t ty cs fr d hg hu hd hi, Result.andThen]

theorem zeros_len : (tabCells (List.replicate 16 0) none 0 0).length = 17 := tabCells_length (by simp)
set_option maxRecDepth 100000 in
set_option maxHeartbeats 4000000 in
theorem make_err (A : Option Addr) (c G : Nat) (zs : List Int) (w : World) (hs : Seen w G A (ints .i64 zs)) (hG : G ≤ w.heap.size) (hl : zs.length ≤ maxLen) (hz : errB zs ≠ 0) :
    Calls Try.prog 16 #[.slice A zs.length c] w fun e w' => e = .returned (.tuple #[tabV (List.replicate 16 0) none 0 0, .int .i64 (errB zs)]) ∧ Below w.heap.size w w' := by
  have HC := veil (fun o => bcheck_any A c G zs (w.alloc o) (hs.alloc hG o) hl)
  have hne : (errB zs != 0) = true := by simpa using hz
  clear hz
  generalize errB zs = E at *
  go_enter Try.func16, Try.ntmps16
  go_wp2_with fail
  refine (HC.out _).mono ?_
  rintro e w' ⟨rfl, rfl⟩
  go_wp2_with fail
  refine bodyPost_ret (v := .tuple #[tabV (List.replicate 16 0) none 0 0, .int .i64 E]) (results_cell_row_tmp rfl _ _ w.heap.size 25 (tabCells (List.replicate 16 0) none 0 0).toArray (0, 0) _ _ rfl rfl (Blk.new w (tabCells (List.replicate 16 0) none 0 0) 25) Try.underlying25 rfl info_tab) rfl ⟨rfl, below1 _ _⟩

set_option maxRecDepth 100000 in
set_option maxHeartbeats 4000000 in
theorem make_ok (A : Option Addr) (c G : Nat) (zs : List Int) (w : World) (hs : Seen w G A (ints .i64 zs)) (hG : G ≤ w.heap.size) (hz : errB zs = 0) :
    Calls Try.prog 16 #[.slice A zs.length c] w fun e w' => ∃ L A' c', e = .returned (.tuple #[tabV (ordC L zs.length 16 0) A' (ordS L zs.length 16 0).length c', .int .i64 0]) ∧ BestL zs L ∧ Owns w.heap.size [intRow 3 .i64 (.slice A' (ordS L zs.length 16 0).length c') (ordS L zs.length 16 0)] w' ∧ Below w.heap.size w w' := by
  obtain ⟨h256, hzb⟩ := errB_ok hz
  have Hzb := veil hzb; clear hzb
  have hst := hs.alloc hG (.cells (tabCells (List.replicate 16 0) none 0 0).toArray 25)
  have HC := veil (bcheck_any A c G zs (tab0 w) hst (by unfold maxLen; omega))
  rw [hz] at HC
  clear hz
  have hb0 : Below w.heap.size w (tab0 w) := below1 _ _
  have hz0 := tab0_size w
  have HB0 := veil (Blk.new w (tabCells (List.replicate 16 0) none 0 0) 25)
  have HS := veil (singles_any A c G zs (tab0 w) hst (by rw [hz0]; omega) (by omega))
  have Hz0 := veil hz0
  clear hz0 hst
  go_enter Try.func16, Try.ntmps16
  go_wp2_with fail
  refine HC.out.mono ?_
  rintro e w' ⟨rfl, rfl⟩
  clear HC
  go_wp2_with fail
  refine HS.out.mono ?_
  rintro e w1 ⟨ys, rs, v, rfl, HO, hR, hb1⟩
  clear HS
  rw [sing_eq] at hR
  obtain ⟨A1, c1, e1, hs1, _, _⟩ := HO.seen List.mem_cons_self
  simp only [hRow] at e1 hs1
  subst e1
  have hyl : (idxB zs).length = ys.length := by have := hR.1; simp only [singlesOf, List.length_map] at this; exact this
  have HL := veil (lengths_any A1 c1 w1.heap.size (cntZ zs) (idxB zs) ys w1 hs1 (hR.buns HO.tail) (Nat.le_refl _) (by simp [idxB]) (by have := used_len zs; simp [idxB]; omega) (fun i _ => cntZ_max Hzb.out i) (fun i hi => by
    simp only [idxB, List.mem_cons, List.mem_reverse] at hi
    rcases hi with rfl | hi
    · exact wf_of (by omega)
    · have := used_pos hi; exact wf_of (by omega)))
  rw [hyl] at HL
  clear HO hR hs1
  have Hyl := veil hyl; clear hyl
  go_wp2_with fail
  refine HL.out.mono ?_
  rintro e w2 ⟨l, N, mb, rfl, hch, hmb, HM, hb2⟩
  rw [← Hyl.out] at HM
  have HO2 := veil (ordered_any mb zs.length N _ (lensB zs l) w2 HM (fun s hs => lensB_map hch s) h256)
  have HBest := veil (lensB_best h256 hch)
  clear HL HM hch
  generalize lensB zs l = L at *
  go_wp2_with fail
  refine HO2.out.mono ?_
  rintro e w3 ⟨A3, c3, rfl, HO3, hb3⟩
  clear HO2
  have hzz := Hz0.out
  have hz1 := hb1.size
  have hz2 := hb2.size
  have hB3 : Below (w.heap.size + 1) (tab0 w) w3 := by
    rw [← hzz]
    exact (hb1.trans (hb2.mono hz1)).trans (hb3.mono (by omega))
  have HB3 : Blk w3 w.heap.size (tabCells (List.replicate 16 0) none 0 0) 25 := HB0.out.below hB3 (Nat.lt_succ_self _)
  have hbw : Below w.heap.size w w3 := hb0.trans (hB3.mono (by omega))
  have HO4 := HO3.down (B' := w.heap.size + 1) (by omega)
  have hl17 := tabCells_length (A := A3) (n := (ordS L zs.length 16 0).length) (c := c3) (ordC_length L zs.length 16 0)
  have hone := tabCells_one (cs := ordC L zs.length 16 0) (A := A3) (n := (ordS L zs.length 16 0).length) (c := c3)
  have Hl := veil hl17
  have Hl0 := veil zeros_len
  obtain ⟨xs, hxs⟩ : ∃ xs, xs = tabCells (ordC L zs.length 16 0) A3 (ordS L zs.length 16 0).length c3 := ⟨_, rfl⟩
  obtain ⟨x0, hx0⟩ : ∃ xs, xs = tabCells (List.replicate 16 0) none 0 0 := ⟨_, rfl⟩
  unfold tabV
  rw [← hxs] at hl17 Hl hone ⊢
  rw [← hx0] at HB3 Hl0
  have HX := veil hxs
  clear hxs hx0 hl17 hb1 hb2 hb3 HO3 hB3 HB0 hz1 hz2 hzz
  go_wp2_with (first
    | (refine wpList_store_blk w3 rfl 25 (.tmp 2) (.tmp 16) rfl w.heap.size x0 xs 25 HB3 rfl rfl (by rw [Hl.out]; exact info_tab) (by rw [Hl.out, Hl0.out]) hone ?_; intro w5 HB5 hg5)
    | fail)
  refine bodyPost_ret (v := .tuple #[.agg xs.toArray, .int .i64 0]) (results_cell_row_tmp rfl _ _ w.heap.size 25 xs.toArray (0, 0) _ _ rfl rfl HB5 Try.underlying25 rfl (by simp only [List.size_toArray]; rw [Hl.out]; exact info_tab)) rfl ⟨L, A3, c3, by rw [HX.out], HBest.out, (HO4.kept hg5 (by omega)).down (by omega), hbw.grown hg5 hbw.size (fun j hj => by injection hj with hj; omega)⟩
end Go.Proofs.Ythelblkpfkngmaa
