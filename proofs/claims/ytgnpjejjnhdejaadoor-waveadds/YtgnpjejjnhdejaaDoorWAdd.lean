/- wave.addUp, with each of the two functions that it is handed: its contract. -/
import Derived.Test.YtgnpjejjnhdejaaDoorWAddMath
import Derived.Test.YtgnpjejjnhdejaaDoorWVal
import Derived.Test.YtgnpjejjnhdejaaDoorWBase
import Derived.StillTailTactics
namespace Go.Proofs.YtgnpjejjnhdejaaDoor
open Go.RowKit
set_option linter.unusedVariables false
set_option linter.unusedSimpArgs false

theorem wrap_mid {n : Int} (h1 : -4611686018427387904 ≤ n) (h2 : n ≤ 4611686018427387904) : IntKind.i64.wrap n = n := by
  rw [IntKind.wrap_i64]; omega
/-- The three blocks of addUp. -/
def boxA (xs : List Value) (w : World) : World := ((w.alloc (.cells xs.toArray 28)).alloc (.cells zeroB.toArray 28)).alloc (.cells zeroB.toArray 28)
theorem boxA_is (xs : List Value) (w : World) : Below w.heap.size w (boxA xs w) ∧ Blk (boxA xs w) w.heap.size xs 28 ∧ Blk (boxA xs w) (w.heap.size + 1) zeroB 28 ∧ Blk (boxA xs w) (w.heap.size + 1 + 1) zeroB 28 ∧ (boxA xs w).heap.size = w.heap.size + 3 := by
  have e1 := World.size_alloc w (.cells xs.toArray 28)
  have e2 := World.size_alloc (w.alloc (.cells xs.toArray 28)) (.cells zeroB.toArray 28)
  have h0 := Blk.new w xs 28
  have h1 := Blk.new (w.alloc (.cells xs.toArray 28)) zeroB 28
  have h2 := Blk.new ((w.alloc (.cells xs.toArray 28)).alloc (.cells zeroB.toArray 28)) zeroB 28
  have b1 := below1 ((w.alloc (.cells xs.toArray 28)).alloc (.cells zeroB.toArray 28)) (.cells zeroB.toArray 28)
  have b2 := below2 (w.alloc (.cells xs.toArray 28)) (.cells zeroB.toArray 28) (.cells zeroB.toArray 28)
  refine ⟨below3 _ _ _ _, h0.below b2 (by omega), ?_, ?_, by simp [boxA]⟩
  · have := h1.below b1 (by omega)
    rw [e1] at this; exact this
  · rw [e2, e1] at h2; exact h2
set_option maxHeartbeats 4000000 in
set_option maxRecDepth 100000 in
theorem addTo_any (cs : List Int) (w : World) (hl : cs.length = 64) (hc : ∀ k, absZ (cs.getD k 0) ≤ 2147483648) (Q : Quart w) :
    Calls Tryd.prog 33 #[blkV cs, .func (.func 25) #[] #[]] w fun e w' => e = .returned (blkV (adL (cW) cs)) ∧ Below w.heap.size w w' := by
  obtain ⟨hb3, HB0, HB1, HB2, hz3⟩ := boxA_is (ints .i64 cs) w
  have Hl : Hid ((ints .i64 cs).length = 64) := by show _ = _; rw [ints_length, hl]
  have HX0 : Hid (∀ (k : Nat) (x : Int), cs[k]? = some x → (ints .i64 cs)[k]? = some (.int .i64 x)) := fun _ _ h => ints_at h
  have HV : Hid (∀ (r i : Nat) (W : World), r < 8 → i < 8 → Below w.heap.size w W → Calls Tryd.prog 25 #[.int .i64 (r : Int), .int .i64 (i : Int)] W fun e w' => e = .returned (.int .i64 ((cW) r i)) ∧ w' = W) := fun r i W hr hi hb => value_any r i W hr hi (Q.after hb)
  have HK : Hid (∀ r c i : Nat, r < 8 → c < 8 → i < 8 → ∃ x s f T : Int, cs[8 * c + i]? = some x ∧ (cW) r i = f ∧ (adK (cW) cs (8 * (8 * r + c) + i))[8 * r + c]? = some s ∧ IntKind.i64.wrap (x * f) = x * f ∧ IntKind.i64.wrap (s + x * f) = T ∧ (ints .i64 (adK (cW) cs (8 * (8 * r + c) + i))).set (8 * r + c) (.int .i64 T) = ints .i64 (adK (cW) cs (8 * (8 * r + c) + (i + 1)))) := by
    intro r c i hr h8 hi
    obtain ⟨x, hx⟩ := some_at (xs := cs) (j := 8 * c + i) (by omega)
    have hF : ∀ a b, -4096 ≤ (cW) a b ∧ (cW) a b ≤ 4096 := cW_abs
    have h1 := adT_small hF (by omega) hc (8 * r + c) i
    have h2 := adS_small hF (by omega) hc (8 * r + c) i
    have h3 : (i : Int) * (2147483648 * 4096) ≤ 8 * (2147483648 * 4096) := Int.mul_le_mul_of_nonneg_right (by omega) (by omega)
    have e : adT (cW) cs (8 * r + c) i = x * (cW) r i := by
      unfold adT
      rw [show (8 * r + c) % 8 = c by omega, show (8 * r + c) / 8 = r by omega, List.getD_eq_getElem?_getD, hx]; rfl
    have hn := adK_next (cW) cs (p := 8 * r + c) (i := i) (by omega) hi
    rw [e] at h1 hn
    refine ⟨x, sumN i (adT (cW) cs (8 * r + c)), (cW) r i, _, hx, rfl, adK_at _ _ (by omega) (by omega), wrap_mid (by omega) (by omega), wrap_mid (by omega) (by omega), ?_⟩
    rw [← hn]; simp [ints, List.map_set]
  have HB2' : Hid (Blk (boxA (ints .i64 cs) w) (w.heap.size + 1 + 1) (ints .i64 (adK (cW) cs 0)) 28) := by rw [adK_zero]; exact HB2
  have HB1' := veil HB1
  have HB0' := veil HB0
  have HA : Hid (adL (cW) cs = adK (cW) cs 512) := (adK_all _ _).symm
  clear HB2 HB0 HB1 Q hc
  generalize (cW) = F at *
  unfold blkV
  rw [HA.out]; clear HA
  unfold boxA at *
  generalize ints .i64 cs = xs at *
  go_enter Tryd.func33, Tryd.ntmps33
  go_wp2_with fail
  go_loopg [9] 8 (fun gk i wr => ∃ r : Nat, gk = 8 - r ∧ r ≤ 8 ∧ i = .int .i64 (r : Int) ∧ Hid (Blk wr w.heap.size xs 28) ∧ Hid (Blk wr (w.heap.size + 1) zeroB 28) ∧ Hid (Blk wr (w.heap.size + 1 + 1) (ints .i64 (adK F cs (8 * (8 * r)))) 28) ∧ Below w.heap.size w wr)
  case atStart => exact ⟨0, rfl, by omega, rfl, HB0', HB1', HB2', hb3⟩
  case round =>
    clear HB0' HB1' HB2' hb3 hz3
    obtain ⟨r, rfl, hr, rfl, H0, H1, H2, hbw⟩ := hrel
    by_cases hlt : r < 8
    · have hltz : (r : Int) < 8 := by omega
      go_wp2_with fail
      rename World => W1
      go_loopg [12] 8 (fun gk i wr => ∃ c : Nat, gk = 8 - c ∧ c ≤ 8 ∧ i = .int .i64 (c : Int) ∧ Hid (Blk wr w.heap.size xs 28) ∧ Hid (Blk wr (w.heap.size + 1) zeroB 28) ∧ Hid (Blk wr (w.heap.size + 1 + 1) (ints .i64 (adK F cs (8 * (8 * r + c)))) 28) ∧ Below w.heap.size w wr)
      case atStart => exact ⟨0, rfl, by omega, rfl, H0, H1, H2, hbw⟩
      case round =>
        clear H0 H1 H2 hbw
        obtain ⟨c, rfl, hc, rfl, H0, H1, H2, hbw⟩ := hrel
        by_cases hltc : c < 8
        · have hltcz : (c : Int) < 8 := by omega
          go_wp2_with fail
          rename World => W2
          go_loopg [15] 8 (fun gk i wr => ∃ i' : Nat, gk = 8 - i' ∧ i' ≤ 8 ∧ i = .int .i64 (i' : Int) ∧ Hid (Blk wr w.heap.size xs 28) ∧ Hid (Blk wr (w.heap.size + 1) zeroB 28) ∧ Hid (Blk wr (w.heap.size + 1 + 1) (ints .i64 (adK F cs (8 * (8 * r + c) + i'))) 28) ∧ Below w.heap.size w wr)
          case atStart => exact ⟨0, rfl, by omega, rfl, H0, H1, H2, hbw⟩
          case round =>
            clear H0 H1 H2 hbw
            obtain ⟨i, rfl, hi, rfl, H0, H1, H2, hbw⟩ := hrel
            by_cases hlti : i < 8
            · have hltiz : (i : Int) < 8 := by omega
              obtain ⟨x, s, f, T, hx, hf, hs, hw1, hw2, hset⟩ := HK.out r c i hlt hltc hlti
              have HC := veil (HV.out r i wr.drew hlt hlti hbw.drew)
              rw [hf] at HC
              have hcx := H0.out.cell (HX0.out _ _ hx)
              have hcs := H2.out.cell (ints_at hs)
              have hfs := H2.out.frozen (8 * r + c)
              have hgr : wr.grownBy (wr.drew.setCell ⟨w.heap.size + 1 + 1, 8 * r + c, none⟩ (.int .i64 T)) (some (w.heap.size + 1 + 1)) :=
                World.grownBy.trans (drewN_grown wr 1 _) ⟨rfl, rfl, rfl, by simp [World.setCell], fun i _ hi => Below.heap_setCell _ _ _ _ (fun e => hi (by rw [e]))⟩
              have HB5 : Hid (Blk (wr.drew.setCell ⟨w.heap.size + 1 + 1, 8 * r + c, none⟩ (.int .i64 T)) (w.heap.size + 1 + 1) (ints .i64 (adK F cs (8 * (8 * r + c) + (i + 1)))) 28) := by
                have := (H2.out.drewN 1).set (8 * r + c) (.int .i64 T)
                rw [hset] at this
                exact this
              have HQ5 := veil (H0.out.kept hgr (by simp; omega))
              have HZ5 := veil (H1.out.kept hgr (by simp))
              have HG5 : Below w.heap.size w (wr.drew.setCell ⟨w.heap.size + 1 + 1, 8 * r + c, none⟩ (.int .i64 T)) := hbw.grown hgr hbw.size (fun j hj => by injection hj with hj; omega)
              have hcs' : wr.drew.cell? ⟨w.heap.size + 1 + 1, 8 * r + c, none⟩ = some (.int .i64 s) := hcs
              have hfs' : wr.drew.frozen? ⟨w.heap.size + 1 + 1, 8 * r + c, none⟩ = false := hfs
              have hcx' : wr.drew.cell? ⟨w.heap.size, 8 * c + i, none⟩ = some (.int .i64 x) := hcx
              have a1 : IntKind.i64.wrap (8 * (r : Int)) = 8 * (r : Int) := wrap_mid (by omega) (by omega)
              have a2 : IntKind.i64.wrap (8 * (r : Int) + (c : Int)) = 8 * (r : Int) + (c : Int) := wrap_mid (by omega) (by omega)
              have a3 : IntKind.i64.wrap (8 * (c : Int)) = 8 * (c : Int) := wrap_mid (by omega) (by omega)
              have a4 : IntKind.i64.wrap (8 * (c : Int) + (i : Int)) = 8 * (c : Int) + (i : Int) := wrap_mid (by omega) (by omega)
              have b1 : 0 ≤ 8 * (r : Int) + (c : Int) := by omega
              have b2 : 8 * (r : Int) + (c : Int) < 64 := by omega
              have b3 : 0 ≤ 8 * (c : Int) + (i : Int) := by omega
              have b4 : 8 * (c : Int) + (i : Int) < 64 := by omega
              have i1 : ((8 * (r : Int) + (c : Int)).toNat) = 8 * r + c := by omega
              have i2 : ((8 * (c : Int) + (i : Int)).toNat) = 8 * c + i := by omega
              clear H0 H1 H2 hgr hx hf hs hset hbw HK HV HX0
              go_wp2_with fail
              go_still_tail 19, (by kernel_rfl)
              repeat still_step
              still_call HC.out
              repeat still_step
              refine wpStill_nil ?_
              change wpList _ _ _ _ _ wr.drew
              go_wp2_with fail
              go_roundg (8 - (i + 1))
              case rel => exact ⟨i + 1, rfl, by omega, by go_num, HQ5, HZ5, HB5, HG5⟩
              case measure => omega
            · obtain rfl : i = 8 := by omega
              go_wp2_with fail
              go_roundg (8 - (c + 1))
              case rel => exact ⟨c + 1, rfl, by omega, by go_num, H0, H1, H2, hbw⟩
              case measure => omega
        · obtain rfl : c = 8 := by omega
          go_wp2_with fail
          go_roundg (8 - (r + 1))
          case rel => exact ⟨r + 1, rfl, by omega, by go_num, H0, H1, H2, hbw⟩
          case measure => omega
    · obtain rfl : r = 8 := by omega
      have HBr := H2.out
      have HR := H1.out
      have Hlen : Hid ((ints .i64 (adK F cs (8 * (8 * 8)))).length = 64) := by show _ = _; rw [ints_length, adK_length]
      have hone := ints_one (k := .i64) (l := adK F cs (8 * (8 * 8)))
      have Hz := veil zeroB_length
      obtain ⟨ys, hys⟩ : ∃ ys, ys = ints .i64 (adK F cs (8 * (8 * 8))) := ⟨_, rfl⟩
      rw [← hys] at Hlen hone HBr
      have HX := veil hys
      generalize zeroB = x0 at *
      clear H0 H1 H2 hys HK HV
      go_wp2_with (first
        | (refine wpList_load_mid rfl 28 (.tmp 5) rfl (w.heap.size + 1 + 1) 0 rfl ys _ HBr.range Tryd.underlying28 rfl (info_blkn Hlen.out) ?_)
        | (refine wpList_store_blk wr rfl 28 (.tmp 4) (.tmp 40) rfl (w.heap.size + 1) x0 ys 28 HR rfl rfl (info_blkn Hlen.out) (by rw [Hlen.out, Hz.out]) hone ?_; intro w5 HB5 hg5)
        | fail)
      refine bodyPost_ret (v := .agg ys.toArray) (results_cell_row rfl _ _ (w.heap.size + 1) 28 ys.toArray (0, 0) _ rfl HB5 Tryd.underlying28 rfl (by simp only [List.size_toArray]; exact info_blkn Hlen.out)) rfl ⟨by rw [HX.out], hbw.grown hg5 hbw.size (fun j hj => by injection hj with hj; omega)⟩
set_option maxHeartbeats 4000000 in
set_option maxRecDepth 100000 in
theorem addFr_any (cs : List Int) (w : World) (hl : cs.length = 64) (hc : ∀ k, absZ (cs.getD k 0) ≤ 2147483648) (Q : Quart w) :
    Calls Tryd.prog 33 #[blkV cs, .func (.func 30) #[] #[]] w fun e w' => e = .returned (blkV (adL (fun a b => cW b a) cs)) ∧ Below w.heap.size w w' := by
  obtain ⟨hb3, HB0, HB1, HB2, hz3⟩ := boxA_is (ints .i64 cs) w
  have Hl : Hid ((ints .i64 cs).length = 64) := by show _ = _; rw [ints_length, hl]
  have HX0 : Hid (∀ (k : Nat) (x : Int), cs[k]? = some x → (ints .i64 cs)[k]? = some (.int .i64 x)) := fun _ _ h => ints_at h
  have HV : Hid (∀ (r i : Nat) (W : World), r < 8 → i < 8 → Below w.heap.size w W → Calls Tryd.prog 30 #[.int .i64 (r : Int), .int .i64 (i : Int)] W fun e w' => e = .returned (.int .i64 ((fun a b => cW b a) r i)) ∧ w' = W) := fun r i W hr hi hb => turned_any r i W hr hi (Q.after hb)
  have HK : Hid (∀ r c i : Nat, r < 8 → c < 8 → i < 8 → ∃ x s f T : Int, cs[8 * c + i]? = some x ∧ (fun a b => cW b a) r i = f ∧ (adK (fun a b => cW b a) cs (8 * (8 * r + c) + i))[8 * r + c]? = some s ∧ IntKind.i64.wrap (x * f) = x * f ∧ IntKind.i64.wrap (s + x * f) = T ∧ (ints .i64 (adK (fun a b => cW b a) cs (8 * (8 * r + c) + i))).set (8 * r + c) (.int .i64 T) = ints .i64 (adK (fun a b => cW b a) cs (8 * (8 * r + c) + (i + 1)))) := by
    intro r c i hr h8 hi
    obtain ⟨x, hx⟩ := some_at (xs := cs) (j := 8 * c + i) (by omega)
    have hF : ∀ a b, -4096 ≤ (fun a b => cW b a) a b ∧ (fun a b => cW b a) a b ≤ 4096 := fun a b => cW_abs b a
    have h1 := adT_small hF (by omega) hc (8 * r + c) i
    have h2 := adS_small hF (by omega) hc (8 * r + c) i
    have h3 : (i : Int) * (2147483648 * 4096) ≤ 8 * (2147483648 * 4096) := Int.mul_le_mul_of_nonneg_right (by omega) (by omega)
    have e : adT (fun a b => cW b a) cs (8 * r + c) i = x * (fun a b => cW b a) r i := by
      unfold adT
      rw [show (8 * r + c) % 8 = c by omega, show (8 * r + c) / 8 = r by omega, List.getD_eq_getElem?_getD, hx]; rfl
    have hn := adK_next (fun a b => cW b a) cs (p := 8 * r + c) (i := i) (by omega) hi
    rw [e] at h1 hn
    refine ⟨x, sumN i (adT (fun a b => cW b a) cs (8 * r + c)), (fun a b => cW b a) r i, _, hx, rfl, adK_at _ _ (by omega) (by omega), wrap_mid (by omega) (by omega), wrap_mid (by omega) (by omega), ?_⟩
    rw [← hn]; simp [ints, List.map_set]
  have HB2' : Hid (Blk (boxA (ints .i64 cs) w) (w.heap.size + 1 + 1) (ints .i64 (adK (fun a b => cW b a) cs 0)) 28) := by rw [adK_zero]; exact HB2
  have HB1' := veil HB1
  have HB0' := veil HB0
  have HA : Hid (adL (fun a b => cW b a) cs = adK (fun a b => cW b a) cs 512) := (adK_all _ _).symm
  clear HB2 HB0 HB1 Q hc
  generalize (fun a b => cW b a) = F at *
  unfold blkV
  rw [HA.out]; clear HA
  unfold boxA at *
  generalize ints .i64 cs = xs at *
  go_enter Tryd.func33, Tryd.ntmps33
  go_wp2_with fail
  go_loopg [9] 8 (fun gk i wr => ∃ r : Nat, gk = 8 - r ∧ r ≤ 8 ∧ i = .int .i64 (r : Int) ∧ Hid (Blk wr w.heap.size xs 28) ∧ Hid (Blk wr (w.heap.size + 1) zeroB 28) ∧ Hid (Blk wr (w.heap.size + 1 + 1) (ints .i64 (adK F cs (8 * (8 * r)))) 28) ∧ Below w.heap.size w wr)
  case atStart => exact ⟨0, rfl, by omega, rfl, HB0', HB1', HB2', hb3⟩
  case round =>
    clear HB0' HB1' HB2' hb3 hz3
    obtain ⟨r, rfl, hr, rfl, H0, H1, H2, hbw⟩ := hrel
    by_cases hlt : r < 8
    · have hltz : (r : Int) < 8 := by omega
      go_wp2_with fail
      rename World => W1
      go_loopg [12] 8 (fun gk i wr => ∃ c : Nat, gk = 8 - c ∧ c ≤ 8 ∧ i = .int .i64 (c : Int) ∧ Hid (Blk wr w.heap.size xs 28) ∧ Hid (Blk wr (w.heap.size + 1) zeroB 28) ∧ Hid (Blk wr (w.heap.size + 1 + 1) (ints .i64 (adK F cs (8 * (8 * r + c)))) 28) ∧ Below w.heap.size w wr)
      case atStart => exact ⟨0, rfl, by omega, rfl, H0, H1, H2, hbw⟩
      case round =>
        clear H0 H1 H2 hbw
        obtain ⟨c, rfl, hc, rfl, H0, H1, H2, hbw⟩ := hrel
        by_cases hltc : c < 8
        · have hltcz : (c : Int) < 8 := by omega
          go_wp2_with fail
          rename World => W2
          go_loopg [15] 8 (fun gk i wr => ∃ i' : Nat, gk = 8 - i' ∧ i' ≤ 8 ∧ i = .int .i64 (i' : Int) ∧ Hid (Blk wr w.heap.size xs 28) ∧ Hid (Blk wr (w.heap.size + 1) zeroB 28) ∧ Hid (Blk wr (w.heap.size + 1 + 1) (ints .i64 (adK F cs (8 * (8 * r + c) + i'))) 28) ∧ Below w.heap.size w wr)
          case atStart => exact ⟨0, rfl, by omega, rfl, H0, H1, H2, hbw⟩
          case round =>
            clear H0 H1 H2 hbw
            obtain ⟨i, rfl, hi, rfl, H0, H1, H2, hbw⟩ := hrel
            by_cases hlti : i < 8
            · have hltiz : (i : Int) < 8 := by omega
              obtain ⟨x, s, f, T, hx, hf, hs, hw1, hw2, hset⟩ := HK.out r c i hlt hltc hlti
              have HC := veil (HV.out r i wr.drew hlt hlti hbw.drew)
              rw [hf] at HC
              have hcx := H0.out.cell (HX0.out _ _ hx)
              have hcs := H2.out.cell (ints_at hs)
              have hfs := H2.out.frozen (8 * r + c)
              have hgr : wr.grownBy (wr.drew.setCell ⟨w.heap.size + 1 + 1, 8 * r + c, none⟩ (.int .i64 T)) (some (w.heap.size + 1 + 1)) :=
                World.grownBy.trans (drewN_grown wr 1 _) ⟨rfl, rfl, rfl, by simp [World.setCell], fun i _ hi => Below.heap_setCell _ _ _ _ (fun e => hi (by rw [e]))⟩
              have HB5 : Hid (Blk (wr.drew.setCell ⟨w.heap.size + 1 + 1, 8 * r + c, none⟩ (.int .i64 T)) (w.heap.size + 1 + 1) (ints .i64 (adK F cs (8 * (8 * r + c) + (i + 1)))) 28) := by
                have := (H2.out.drewN 1).set (8 * r + c) (.int .i64 T)
                rw [hset] at this
                exact this
              have HQ5 := veil (H0.out.kept hgr (by simp; omega))
              have HZ5 := veil (H1.out.kept hgr (by simp))
              have HG5 : Below w.heap.size w (wr.drew.setCell ⟨w.heap.size + 1 + 1, 8 * r + c, none⟩ (.int .i64 T)) := hbw.grown hgr hbw.size (fun j hj => by injection hj with hj; omega)
              have hcs' : wr.drew.cell? ⟨w.heap.size + 1 + 1, 8 * r + c, none⟩ = some (.int .i64 s) := hcs
              have hfs' : wr.drew.frozen? ⟨w.heap.size + 1 + 1, 8 * r + c, none⟩ = false := hfs
              have hcx' : wr.drew.cell? ⟨w.heap.size, 8 * c + i, none⟩ = some (.int .i64 x) := hcx
              have a1 : IntKind.i64.wrap (8 * (r : Int)) = 8 * (r : Int) := wrap_mid (by omega) (by omega)
              have a2 : IntKind.i64.wrap (8 * (r : Int) + (c : Int)) = 8 * (r : Int) + (c : Int) := wrap_mid (by omega) (by omega)
              have a3 : IntKind.i64.wrap (8 * (c : Int)) = 8 * (c : Int) := wrap_mid (by omega) (by omega)
              have a4 : IntKind.i64.wrap (8 * (c : Int) + (i : Int)) = 8 * (c : Int) + (i : Int) := wrap_mid (by omega) (by omega)
              have b1 : 0 ≤ 8 * (r : Int) + (c : Int) := by omega
              have b2 : 8 * (r : Int) + (c : Int) < 64 := by omega
              have b3 : 0 ≤ 8 * (c : Int) + (i : Int) := by omega
              have b4 : 8 * (c : Int) + (i : Int) < 64 := by omega
              have i1 : ((8 * (r : Int) + (c : Int)).toNat) = 8 * r + c := by omega
              have i2 : ((8 * (c : Int) + (i : Int)).toNat) = 8 * c + i := by omega
              clear H0 H1 H2 hgr hx hf hs hset hbw HK HV HX0
              go_wp2_with fail
              go_still_tail 19, (by kernel_rfl)
              repeat still_step
              still_call HC.out
              repeat still_step
              refine wpStill_nil ?_
              change wpList _ _ _ _ _ wr.drew
              go_wp2_with fail
              go_roundg (8 - (i + 1))
              case rel => exact ⟨i + 1, rfl, by omega, by go_num, HQ5, HZ5, HB5, HG5⟩
              case measure => omega
            · obtain rfl : i = 8 := by omega
              go_wp2_with fail
              go_roundg (8 - (c + 1))
              case rel => exact ⟨c + 1, rfl, by omega, by go_num, H0, H1, H2, hbw⟩
              case measure => omega
        · obtain rfl : c = 8 := by omega
          go_wp2_with fail
          go_roundg (8 - (r + 1))
          case rel => exact ⟨r + 1, rfl, by omega, by go_num, H0, H1, H2, hbw⟩
          case measure => omega
    · obtain rfl : r = 8 := by omega
      have HBr := H2.out
      have HR := H1.out
      have Hlen : Hid ((ints .i64 (adK F cs (8 * (8 * 8)))).length = 64) := by show _ = _; rw [ints_length, adK_length]
      have hone := ints_one (k := .i64) (l := adK F cs (8 * (8 * 8)))
      have Hz := veil zeroB_length
      obtain ⟨ys, hys⟩ : ∃ ys, ys = ints .i64 (adK F cs (8 * (8 * 8))) := ⟨_, rfl⟩
      rw [← hys] at Hlen hone HBr
      have HX := veil hys
      generalize zeroB = x0 at *
      clear H0 H1 H2 hys HK HV
      go_wp2_with (first
        | (refine wpList_load_mid rfl 28 (.tmp 5) rfl (w.heap.size + 1 + 1) 0 rfl ys _ HBr.range Tryd.underlying28 rfl (info_blkn Hlen.out) ?_)
        | (refine wpList_store_blk wr rfl 28 (.tmp 4) (.tmp 40) rfl (w.heap.size + 1) x0 ys 28 HR rfl rfl (info_blkn Hlen.out) (by rw [Hlen.out, Hz.out]) hone ?_; intro w5 HB5 hg5)
        | fail)
      refine bodyPost_ret (v := .agg ys.toArray) (results_cell_row rfl _ _ (w.heap.size + 1) 28 ys.toArray (0, 0) _ rfl HB5 Tryd.underlying28 rfl (by simp only [List.size_toArray]; exact info_blkn Hlen.out)) rfl ⟨by rw [HX.out], hbw.grown hg5 hbw.size (fun j hj => by injection hj with hj; omega)⟩
end Go.Proofs.YtgnpjejjnhdejaaDoor
