/- quant.each, whatever function it is handed; the three functions that it is handed. -/
import Derived.Test.YtpbeehalicmdjaaQBase
namespace Go.Proofs.Ytpbeehalicmdjaa
open Go.RowKit
set_option linter.unusedVariables false
set_option linter.unusedSimpArgs false

theorem downF_any (i : Nat) (n d : Int) (b : Nat) (w : World) (hi : i < 64) (hc : w.cell? ⟨b, i, none⟩ = some (.int .i64 d)) (h1 : -40000 ≤ n) (h2 : n ≤ 40000) (hd1 : 1 ≤ d) (hd2 : d ≤ 255) :
    Calls Try.prog 26 #[.int .i64 i, .int .i64 n, .pointer (some ⟨b, 0, none⟩)] w fun e w' => e = .returned (.int .i64 (clampZ (rnd n d) (-2047) 2047)) ∧ ∃ q, w' = w.drewN q := by
  have HR := veil (round_any n d w (by omega) (by omega) hd1 (by omega))
  have HC := veil (fun W => clamp_any (rnd n d) (-2047) 2047 W (by omega))
  have hiz : (i : Int) < 64 := by omega
  generalize rnd n d = r at *
  generalize clampZ r (-2047) 2047 = R at *
  go_enter Try.func26, Try.ntmps26
  go_wp2_with fail
  refine HR.out.mono ?_
  rintro e w1 ⟨rfl, q, rfl⟩
  go_wp2_with fail
  refine (HC.out _).mono ?_
  rintro e w2 ⟨rfl, rfl⟩
  go_wp2
  go_ret
  exact ⟨rfl, _, rfl⟩
theorem upF_any (i : Nat) (n d : Int) (b : Nat) (w : World) (hi : i < 64) (hc : w.cell? ⟨b, i, none⟩ = some (.int .i64 d)) (hw : wrap64 (n * d) = n * d) :
    Calls Try.prog 33 #[.int .i64 i, .int .i64 n, .pointer (some ⟨b, 0, none⟩)] w fun e w' => e = .returned (.int .i64 (clampZ (n * d) (-40000) 40000)) ∧ ∃ q, w' = w.drewN q := by
  have HC := veil (fun W => clamp_any (n * d) (-40000) 40000 W (by omega))
  have hiz : (i : Int) < 64 := by omega
  generalize clampZ (n * d) (-40000) 40000 = R at *
  go_enter Try.func33, Try.ntmps33
  go_wp2_with fail
  try rw [hw]
  refine (HC.out _).mono ?_
  rintro e w2 ⟨rfl, rfl⟩
  go_wp2
  go_ret
  exact ⟨rfl, 0, rfl⟩
theorem scaleF_any (i : Nat) (n p : Int) (b : Nat) (w : World) (hc : w.cell? ⟨b, 0, none⟩ = some (.int .i64 p)) (hw : wrap64 (n * p) = n * p) (h1 : -1000000000 ≤ n * p) (h2 : n * p ≤ 1000000000) :
    Calls Try.prog 34 #[.int .i64 i, .int .i64 n, .pointer (some ⟨b, 0, none⟩)] w fun e w' => e = .returned (.int .i64 (clampZ (rnd (n * p) 100) 1 255)) ∧ ∃ q, w' = w.drewN q := by
  have HR := veil (round_any (n * p) 100 w h1 h2 (by omega) (by omega))
  have HC := veil (fun W => clamp_any (rnd (n * p) 100) 1 255 W (by omega))
  generalize rnd (n * p) 100 = r at *
  generalize clampZ r 1 255 = R at *
  go_enter Try.func34, Try.ntmps34
  go_wp2_with fail
  try rw [hw]
  refine HR.out.mono ?_
  rintro e w1 ⟨rfl, q, rfl⟩
  go_wp2_with fail
  refine (HC.out _).mono ?_
  rintro e w2 ⟨rfl, rfl⟩
  go_wp2
  go_ret
  exact ⟨rfl, _, rfl⟩

def zeroB : List Value := ints .i64 (List.replicate 64 0)
theorem zeroB_length : zeroB.length = 64 := by simp [zeroB, ints_length]
/-- The three blocks that these functions lay. -/
def box3 (cs : List Int) (w : World) : World := ((w.alloc (.cells (ints .i64 cs).toArray 23)).alloc (.cells zeroB.toArray 23)).alloc (.cells zeroB.toArray 23)
theorem box3_is (cs : List Int) (w : World) : Below w.heap.size w (box3 cs w) ∧ Blk (box3 cs w) w.heap.size (ints .i64 cs) 23 ∧ Blk (box3 cs w) (w.heap.size + 1) zeroB 23 ∧ Blk (box3 cs w) (w.heap.size + 1 + 1) zeroB 23 ∧ (box3 cs w).heap.size = w.heap.size + 3 := by
  have e1 := World.size_alloc w (.cells (ints .i64 cs).toArray 23)
  have e2 := World.size_alloc (w.alloc (.cells (ints .i64 cs).toArray 23)) (.cells zeroB.toArray 23)
  have h0 := Blk.new w (ints .i64 cs) 23
  have h1 := Blk.new (w.alloc (.cells (ints .i64 cs).toArray 23)) zeroB 23
  have h2 := Blk.new ((w.alloc (.cells (ints .i64 cs).toArray 23)).alloc (.cells zeroB.toArray 23)) zeroB 23
  have b1 := below1 ((w.alloc (.cells (ints .i64 cs).toArray 23)).alloc (.cells zeroB.toArray 23)) (.cells zeroB.toArray 23)
  have b2 := below2 (w.alloc (.cells (ints .i64 cs).toArray 23)) (.cells zeroB.toArray 23) (.cells zeroB.toArray 23)
  refine ⟨below3 _ _ _ _, h0.below b2 (by omega), ?_, ?_, by simp [box3]⟩
  · have := h1.below b1 (by omega)
    rw [e1] at this; exact this
  · rw [e2, e1] at h2; exact h2
theorem drewN_grown (w : World) (q : Nat) (r : Option Nat) : w.grownBy (w.drewN q) r := ⟨rfl, rfl, rfl, Nat.le_refl _, fun _ _ _ => rfl⟩
set_option maxHeartbeats 4000000 in
set_option maxRecDepth 100000 in
theorem eachDown_any (cap : Value) (f : Nat → Int → Int) (cs : List Int) (w : World) (hc : cs.length = 64)
    (hf : ∀ (i : Nat) (x : Int) (W : World), i < 64 → cs[i]? = some x → Below w.heap.size w W → Calls Try.prog 26 #[.int .i64 (i : Int), .int .i64 x, cap] W fun e w' => e = .returned (.int .i64 (f i x)) ∧ ∃ q, w' = W.drewN q) :
    Calls Try.prog 25 #[blkV cs, .func (.func 26) #[] #[cap]] w fun e w' => e = .returned (blkV (mapL f cs)) ∧ Below w.heap.size w w' := by
  obtain ⟨hb3, HB0, HB1, HB2, hz3⟩ := box3_is cs w
  have Hf := veil hf; clear hf
  have Hl : Hid ((ints .i64 cs).length = 64) := by show _ = _; rw [ints_length, hc]
  have r0 := HB0.range
  have HX0 : Hid (∀ (k : Nat) (x : Int), cs[k]? = some x → (ints .i64 cs)[k]? = some (.int .i64 x)) := fun _ _ h => ints_at h
  have HB2' := veil HB2
  have HB1' := veil HB1
  clear HB2 HB0 HB1
  unfold blkV
  unfold box3 at *
  generalize ints .i64 cs = xs at *
  go_enter Try.func25, Try.ntmps25
  go_wp2_with (first
    | (refine wpList_load_mid rfl 23 (.tmp 2) rfl w.heap.size 0 rfl xs _ r0 Try.underlying23 rfl (info_blkn Hl.out) ?_)
    | fail)
  go_loopg [9] 64 (fun gk i wr => ∃ k : Nat, gk = 64 - k ∧ k ≤ 64 ∧ i = .int .i64 (k : Int) ∧ Hid (Blk wr (w.heap.size + 1 + 1) (ints .i64 (mapK f cs k)) 23) ∧ Hid (Blk wr (w.heap.size + 1) zeroB 23) ∧ Below w.heap.size w wr)
  case atStart => exact ⟨0, rfl, by omega, rfl, veil (by rw [mapK_zero]; exact HB2'.out), HB1', hb3⟩
  case round =>
    clear HB2' HB1' r0
    obtain ⟨k, rfl, hk, rfl, HB, HZ, hbw⟩ := hrel
    by_cases hlt : k < 64
    · have hltz : (k : Int) < 64 := by omega
      obtain ⟨x, hx⟩ := some_at (xs := cs) (j := k) (by omega)
      have hxs := HX0.out _ _ hx
      have HC := veil (Hf.out k x wr hlt hx hbw)
      obtain ⟨y, hy⟩ := some_at (xs := mapK f cs k) (j := k) (by rw [mapK_length]; omega)
      have hcy := HB.out.cell (ints_at hy)
      have hfy := HB.out.frozen k
      have HB5 : Hid (∀ q, Blk ((wr.drewN q).setCell ⟨w.heap.size + 1 + 1, k, none⟩ (.int .i64 (f k x))) (w.heap.size + 1 + 1) (ints .i64 (mapK f cs (k + 1))) 23) := fun q => by
        rw [mapK_next hlt hx]
        have := (HB.out.drewN q).set k (.int .i64 (f k x))
        rw [show (ints .i64 (mapK f cs k)).set k (.int .i64 (f k x)) = ints .i64 ((mapK f cs k).set k (f k x)) by simp [ints, List.map_set]] at this
        exact this
      have hgr : ∀ q, wr.grownBy ((wr.drewN q).setCell ⟨w.heap.size + 1 + 1, k, none⟩ (.int .i64 (f k x))) (some (w.heap.size + 1 + 1)) := fun q =>
        (drewN_grown wr q _).trans ⟨rfl, rfl, rfl, by simp [World.setCell], fun i _ hi => Below.heap_setCell _ _ _ _ (fun e => hi (by rw [e]))⟩
      have HZ5 : Hid (∀ q, Blk ((wr.drewN q).setCell ⟨w.heap.size + 1 + 1, k, none⟩ (.int .i64 (f k x))) (w.heap.size + 1) zeroB 23) := fun q => HZ.out.kept (hgr q) (by simp)
      have HG5 : Hid (∀ q, Below w.heap.size w ((wr.drewN q).setCell ⟨w.heap.size + 1 + 1, k, none⟩ (.int .i64 (f k x)))) := fun q => hbw.grown (hgr q) hbw.size (fun j hj => by injection hj with hj; omega)
      clear HB HZ hgr hx hy hbw
      generalize f k x = R at *
      go_wp2_with (first
        | (refine wpList_index_arr rfl 23 (.tmp 8) (.tmp 9) rfl 64 3 .i64 Try.underlying23 Try.underlying3 (by kernel_rfl) xs rfl .i64 k rfl (.int .i64 x) hlt hxs ?_)
        | fail)
      refine HC.out.mono ?_
      rintro e w1 ⟨rfl, q, rfl⟩
      have hcy' : (wr.drewN q).cell? ⟨w.heap.size + 1 + 1, k, none⟩ = some (.int .i64 y) := hcy
      have hfy' : (wr.drewN q).frozen? ⟨w.heap.size + 1 + 1, k, none⟩ = false := hfy
      have HB6 := veil (HB5.out q)
      have HZ6 := veil (HZ5.out q)
      have HG6 := HG5.out q
      clear HB5 HZ5 HG5 HC hcy hfy
      go_wp2_with fail
      go_roundg (64 - (k + 1))
      case rel => exact ⟨k + 1, rfl, by omega, by go_num, HB6, HZ6, HG6⟩
      case measure => omega
    · obtain rfl : k = 64 := by omega
      have HBr := HB.out
      have HR := HZ.out
      have Hlen : Hid ((ints .i64 (mapK f cs 64)).length = 64) := by show _ = _; rw [ints_length, mapK_length]
      have hone := ints_one (k := .i64) (l := mapK f cs 64)
      have Hz := veil zeroB_length
      obtain ⟨ys, hys⟩ : ∃ ys, ys = ints .i64 (mapK f cs 64) := ⟨_, rfl⟩
      rw [← hys] at Hlen hone HBr
      have HX := veil hys
      generalize zeroB = x0 at *
      clear HB HZ hys hb3 hz3
      go_wp2_with (first
        | (refine wpList_load_mid rfl 23 (.tmp 5) rfl (w.heap.size + 1 + 1) 0 rfl ys _ HBr.range Try.underlying23 rfl (info_blkn Hlen.out) ?_)
        | (refine wpList_store_blk wr rfl 23 (.tmp 4) (.tmp 20) rfl (w.heap.size + 1) x0 ys 23 HR rfl rfl (info_blkn Hlen.out) (by rw [Hlen.out, Hz.out]) hone ?_; intro w5 HB5 hg5)
        | fail)
      refine bodyPost_ret (v := .agg ys.toArray) (results_cell_row rfl _ _ (w.heap.size + 1) 23 ys.toArray (0, 0) _ rfl HB5 Try.underlying23 rfl (by simp only [List.size_toArray]; exact info_blkn Hlen.out)) rfl ⟨by rw [HX.out]; rfl, hbw.grown hg5 hbw.size (fun j hj => by injection hj with hj; omega)⟩
set_option maxHeartbeats 4000000 in
set_option maxRecDepth 100000 in
theorem eachUp_any (cap : Value) (f : Nat → Int → Int) (cs : List Int) (w : World) (hc : cs.length = 64)
    (hf : ∀ (i : Nat) (x : Int) (W : World), i < 64 → cs[i]? = some x → Below w.heap.size w W → Calls Try.prog 33 #[.int .i64 (i : Int), .int .i64 x, cap] W fun e w' => e = .returned (.int .i64 (f i x)) ∧ ∃ q, w' = W.drewN q) :
    Calls Try.prog 25 #[blkV cs, .func (.func 33) #[] #[cap]] w fun e w' => e = .returned (blkV (mapL f cs)) ∧ Below w.heap.size w w' := by
  obtain ⟨hb3, HB0, HB1, HB2, hz3⟩ := box3_is cs w
  have Hf := veil hf; clear hf
  have Hl : Hid ((ints .i64 cs).length = 64) := by show _ = _; rw [ints_length, hc]
  have r0 := HB0.range
  have HX0 : Hid (∀ (k : Nat) (x : Int), cs[k]? = some x → (ints .i64 cs)[k]? = some (.int .i64 x)) := fun _ _ h => ints_at h
  have HB2' := veil HB2
  have HB1' := veil HB1
  clear HB2 HB0 HB1
  unfold blkV
  unfold box3 at *
  generalize ints .i64 cs = xs at *
  go_enter Try.func25, Try.ntmps25
  go_wp2_with (first
    | (refine wpList_load_mid rfl 23 (.tmp 2) rfl w.heap.size 0 rfl xs _ r0 Try.underlying23 rfl (info_blkn Hl.out) ?_)
    | fail)
  go_loopg [9] 64 (fun gk i wr => ∃ k : Nat, gk = 64 - k ∧ k ≤ 64 ∧ i = .int .i64 (k : Int) ∧ Hid (Blk wr (w.heap.size + 1 + 1) (ints .i64 (mapK f cs k)) 23) ∧ Hid (Blk wr (w.heap.size + 1) zeroB 23) ∧ Below w.heap.size w wr)
  case atStart => exact ⟨0, rfl, by omega, rfl, veil (by rw [mapK_zero]; exact HB2'.out), HB1', hb3⟩
  case round =>
    clear HB2' HB1' r0
    obtain ⟨k, rfl, hk, rfl, HB, HZ, hbw⟩ := hrel
    by_cases hlt : k < 64
    · have hltz : (k : Int) < 64 := by omega
      obtain ⟨x, hx⟩ := some_at (xs := cs) (j := k) (by omega)
      have hxs := HX0.out _ _ hx
      have HC := veil (Hf.out k x wr hlt hx hbw)
      obtain ⟨y, hy⟩ := some_at (xs := mapK f cs k) (j := k) (by rw [mapK_length]; omega)
      have hcy := HB.out.cell (ints_at hy)
      have hfy := HB.out.frozen k
      have HB5 : Hid (∀ q, Blk ((wr.drewN q).setCell ⟨w.heap.size + 1 + 1, k, none⟩ (.int .i64 (f k x))) (w.heap.size + 1 + 1) (ints .i64 (mapK f cs (k + 1))) 23) := fun q => by
        rw [mapK_next hlt hx]
        have := (HB.out.drewN q).set k (.int .i64 (f k x))
        rw [show (ints .i64 (mapK f cs k)).set k (.int .i64 (f k x)) = ints .i64 ((mapK f cs k).set k (f k x)) by simp [ints, List.map_set]] at this
        exact this
      have hgr : ∀ q, wr.grownBy ((wr.drewN q).setCell ⟨w.heap.size + 1 + 1, k, none⟩ (.int .i64 (f k x))) (some (w.heap.size + 1 + 1)) := fun q =>
        (drewN_grown wr q _).trans ⟨rfl, rfl, rfl, by simp [World.setCell], fun i _ hi => Below.heap_setCell _ _ _ _ (fun e => hi (by rw [e]))⟩
      have HZ5 : Hid (∀ q, Blk ((wr.drewN q).setCell ⟨w.heap.size + 1 + 1, k, none⟩ (.int .i64 (f k x))) (w.heap.size + 1) zeroB 23) := fun q => HZ.out.kept (hgr q) (by simp)
      have HG5 : Hid (∀ q, Below w.heap.size w ((wr.drewN q).setCell ⟨w.heap.size + 1 + 1, k, none⟩ (.int .i64 (f k x)))) := fun q => hbw.grown (hgr q) hbw.size (fun j hj => by injection hj with hj; omega)
      clear HB HZ hgr hx hy hbw
      generalize f k x = R at *
      go_wp2_with (first
        | (refine wpList_index_arr rfl 23 (.tmp 8) (.tmp 9) rfl 64 3 .i64 Try.underlying23 Try.underlying3 (by kernel_rfl) xs rfl .i64 k rfl (.int .i64 x) hlt hxs ?_)
        | fail)
      refine HC.out.mono ?_
      rintro e w1 ⟨rfl, q, rfl⟩
      have hcy' : (wr.drewN q).cell? ⟨w.heap.size + 1 + 1, k, none⟩ = some (.int .i64 y) := hcy
      have hfy' : (wr.drewN q).frozen? ⟨w.heap.size + 1 + 1, k, none⟩ = false := hfy
      have HB6 := veil (HB5.out q)
      have HZ6 := veil (HZ5.out q)
      have HG6 := HG5.out q
      clear HB5 HZ5 HG5 HC hcy hfy
      go_wp2_with fail
      go_roundg (64 - (k + 1))
      case rel => exact ⟨k + 1, rfl, by omega, by go_num, HB6, HZ6, HG6⟩
      case measure => omega
    · obtain rfl : k = 64 := by omega
      have HBr := HB.out
      have HR := HZ.out
      have Hlen : Hid ((ints .i64 (mapK f cs 64)).length = 64) := by show _ = _; rw [ints_length, mapK_length]
      have hone := ints_one (k := .i64) (l := mapK f cs 64)
      have Hz := veil zeroB_length
      obtain ⟨ys, hys⟩ : ∃ ys, ys = ints .i64 (mapK f cs 64) := ⟨_, rfl⟩
      rw [← hys] at Hlen hone HBr
      have HX := veil hys
      generalize zeroB = x0 at *
      clear HB HZ hys hb3 hz3
      go_wp2_with (first
        | (refine wpList_load_mid rfl 23 (.tmp 5) rfl (w.heap.size + 1 + 1) 0 rfl ys _ HBr.range Try.underlying23 rfl (info_blkn Hlen.out) ?_)
        | (refine wpList_store_blk wr rfl 23 (.tmp 4) (.tmp 20) rfl (w.heap.size + 1) x0 ys 23 HR rfl rfl (info_blkn Hlen.out) (by rw [Hlen.out, Hz.out]) hone ?_; intro w5 HB5 hg5)
        | fail)
      refine bodyPost_ret (v := .agg ys.toArray) (results_cell_row rfl _ _ (w.heap.size + 1) 23 ys.toArray (0, 0) _ rfl HB5 Try.underlying23 rfl (by simp only [List.size_toArray]; exact info_blkn Hlen.out)) rfl ⟨by rw [HX.out]; rfl, hbw.grown hg5 hbw.size (fun j hj => by injection hj with hj; omega)⟩
set_option maxHeartbeats 4000000 in
set_option maxRecDepth 100000 in
theorem eachScale_any (cap : Value) (f : Nat → Int → Int) (cs : List Int) (w : World) (hc : cs.length = 64)
    (hf : ∀ (i : Nat) (x : Int) (W : World), i < 64 → cs[i]? = some x → Below w.heap.size w W → Calls Try.prog 34 #[.int .i64 (i : Int), .int .i64 x, cap] W fun e w' => e = .returned (.int .i64 (f i x)) ∧ ∃ q, w' = W.drewN q) :
    Calls Try.prog 25 #[blkV cs, .func (.func 34) #[] #[cap]] w fun e w' => e = .returned (blkV (mapL f cs)) ∧ Below w.heap.size w w' := by
  obtain ⟨hb3, HB0, HB1, HB2, hz3⟩ := box3_is cs w
  have Hf := veil hf; clear hf
  have Hl : Hid ((ints .i64 cs).length = 64) := by show _ = _; rw [ints_length, hc]
  have r0 := HB0.range
  have HX0 : Hid (∀ (k : Nat) (x : Int), cs[k]? = some x → (ints .i64 cs)[k]? = some (.int .i64 x)) := fun _ _ h => ints_at h
  have HB2' := veil HB2
  have HB1' := veil HB1
  clear HB2 HB0 HB1
  unfold blkV
  unfold box3 at *
  generalize ints .i64 cs = xs at *
  go_enter Try.func25, Try.ntmps25
  go_wp2_with (first
    | (refine wpList_load_mid rfl 23 (.tmp 2) rfl w.heap.size 0 rfl xs _ r0 Try.underlying23 rfl (info_blkn Hl.out) ?_)
    | fail)
  go_loopg [9] 64 (fun gk i wr => ∃ k : Nat, gk = 64 - k ∧ k ≤ 64 ∧ i = .int .i64 (k : Int) ∧ Hid (Blk wr (w.heap.size + 1 + 1) (ints .i64 (mapK f cs k)) 23) ∧ Hid (Blk wr (w.heap.size + 1) zeroB 23) ∧ Below w.heap.size w wr)
  case atStart => exact ⟨0, rfl, by omega, rfl, veil (by rw [mapK_zero]; exact HB2'.out), HB1', hb3⟩
  case round =>
    clear HB2' HB1' r0
    obtain ⟨k, rfl, hk, rfl, HB, HZ, hbw⟩ := hrel
    by_cases hlt : k < 64
    · have hltz : (k : Int) < 64 := by omega
      obtain ⟨x, hx⟩ := some_at (xs := cs) (j := k) (by omega)
      have hxs := HX0.out _ _ hx
      have HC := veil (Hf.out k x wr hlt hx hbw)
      obtain ⟨y, hy⟩ := some_at (xs := mapK f cs k) (j := k) (by rw [mapK_length]; omega)
      have hcy := HB.out.cell (ints_at hy)
      have hfy := HB.out.frozen k
      have HB5 : Hid (∀ q, Blk ((wr.drewN q).setCell ⟨w.heap.size + 1 + 1, k, none⟩ (.int .i64 (f k x))) (w.heap.size + 1 + 1) (ints .i64 (mapK f cs (k + 1))) 23) := fun q => by
        rw [mapK_next hlt hx]
        have := (HB.out.drewN q).set k (.int .i64 (f k x))
        rw [show (ints .i64 (mapK f cs k)).set k (.int .i64 (f k x)) = ints .i64 ((mapK f cs k).set k (f k x)) by simp [ints, List.map_set]] at this
        exact this
      have hgr : ∀ q, wr.grownBy ((wr.drewN q).setCell ⟨w.heap.size + 1 + 1, k, none⟩ (.int .i64 (f k x))) (some (w.heap.size + 1 + 1)) := fun q =>
        (drewN_grown wr q _).trans ⟨rfl, rfl, rfl, by simp [World.setCell], fun i _ hi => Below.heap_setCell _ _ _ _ (fun e => hi (by rw [e]))⟩
      have HZ5 : Hid (∀ q, Blk ((wr.drewN q).setCell ⟨w.heap.size + 1 + 1, k, none⟩ (.int .i64 (f k x))) (w.heap.size + 1) zeroB 23) := fun q => HZ.out.kept (hgr q) (by simp)
      have HG5 : Hid (∀ q, Below w.heap.size w ((wr.drewN q).setCell ⟨w.heap.size + 1 + 1, k, none⟩ (.int .i64 (f k x)))) := fun q => hbw.grown (hgr q) hbw.size (fun j hj => by injection hj with hj; omega)
      clear HB HZ hgr hx hy hbw
      generalize f k x = R at *
      go_wp2_with (first
        | (refine wpList_index_arr rfl 23 (.tmp 8) (.tmp 9) rfl 64 3 .i64 Try.underlying23 Try.underlying3 (by kernel_rfl) xs rfl .i64 k rfl (.int .i64 x) hlt hxs ?_)
        | fail)
      refine HC.out.mono ?_
      rintro e w1 ⟨rfl, q, rfl⟩
      have hcy' : (wr.drewN q).cell? ⟨w.heap.size + 1 + 1, k, none⟩ = some (.int .i64 y) := hcy
      have hfy' : (wr.drewN q).frozen? ⟨w.heap.size + 1 + 1, k, none⟩ = false := hfy
      have HB6 := veil (HB5.out q)
      have HZ6 := veil (HZ5.out q)
      have HG6 := HG5.out q
      clear HB5 HZ5 HG5 HC hcy hfy
      go_wp2_with fail
      go_roundg (64 - (k + 1))
      case rel => exact ⟨k + 1, rfl, by omega, by go_num, HB6, HZ6, HG6⟩
      case measure => omega
    · obtain rfl : k = 64 := by omega
      have HBr := HB.out
      have HR := HZ.out
      have Hlen : Hid ((ints .i64 (mapK f cs 64)).length = 64) := by show _ = _; rw [ints_length, mapK_length]
      have hone := ints_one (k := .i64) (l := mapK f cs 64)
      have Hz := veil zeroB_length
      obtain ⟨ys, hys⟩ : ∃ ys, ys = ints .i64 (mapK f cs 64) := ⟨_, rfl⟩
      rw [← hys] at Hlen hone HBr
      have HX := veil hys
      generalize zeroB = x0 at *
      clear HB HZ hys hb3 hz3
      go_wp2_with (first
        | (refine wpList_load_mid rfl 23 (.tmp 5) rfl (w.heap.size + 1 + 1) 0 rfl ys _ HBr.range Try.underlying23 rfl (info_blkn Hlen.out) ?_)
        | (refine wpList_store_blk wr rfl 23 (.tmp 4) (.tmp 20) rfl (w.heap.size + 1) x0 ys 23 HR rfl rfl (info_blkn Hlen.out) (by rw [Hlen.out, Hz.out]) hone ?_; intro w5 HB5 hg5)
        | fail)
      refine bodyPost_ret (v := .agg ys.toArray) (results_cell_row rfl _ _ (w.heap.size + 1) 23 ys.toArray (0, 0) _ rfl HB5 Try.underlying23 rfl (by simp only [List.size_toArray]; exact info_blkn Hlen.out)) rfl ⟨by rw [HX.out]; rfl, hbw.grown hg5 hbw.size (fun j hj => by injection hj with hj; omega)⟩
end Go.Proofs.Ytpbeehalicmdjaa
