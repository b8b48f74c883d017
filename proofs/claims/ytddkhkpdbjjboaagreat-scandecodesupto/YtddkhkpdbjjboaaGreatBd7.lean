/- Texts shared by the claims of this seat, in one. -/
import Derived.Test.YtddkhkpdbjjboaaGreatBd1
import Derived.Test.YtddkhkpdbjjboaaGreatBd6
import Derived.Test.YtddkhkpdbjjboaaGreatBd2
import Derived.Test.YtddkhkpdbjjboaaGreatBd5
import Derived.Handy
/- The reference's ZigOrder: the same order. -/
namespace Go.Proofs.YtddkhkpdbjjboaaGreat
open Go.RowKit
set_option linter.unusedVariables false
set_option linter.unusedSimpArgs false
set_option maxRecDepth 100000

/-- What place j of diagonal s adds. -/
def rowR (s j : Nat) : Int := if s % 2 = 0 then 7 - (j : Int) else (j : Int)
def oneR (s j : Nat) : List Int := if 0 ≤ (s : Int) - rowR s j ∧ (s : Int) - rowR s j ≤ 7 then [8 * rowR s j + ((s : Int) - rowR s j)] else []
def innR (s k : Nat) : List Int := (List.range k).flatMap (oneR s)
def outR (s k : Nat) : List Int := (List.range s).flatMap (fun t => innR t 8) ++ innR s k
theorem outR_all : outR 15 0 = zz := by decide +kernel
theorem outR_next (s : Nat) : outR (s + 1) 0 = outR s 8 := by simp [outR, List.range_succ, innR]
theorem outR_yes {s k : Nat} (h : 0 ≤ (s : Int) - rowR s k ∧ (s : Int) - rowR s k ≤ 7) : outR s (k + 1) = outR s k ++ [8 * rowR s k + ((s : Int) - rowR s k)] := by
  have : oneR s k = [8 * rowR s k + ((s : Int) - rowR s k)] := if_pos h
  simp [outR, innR, List.range_succ, this]
theorem outR_no {s k : Nat} (h : ¬ (0 ≤ (s : Int) - rowR s k ∧ (s : Int) - rowR s k ≤ 7)) : outR s (k + 1) = outR s k := by
  have : oneR s k = [] := if_neg h
  simp [outR, innR, List.range_succ, this]
theorem oneR_length (s k : Nat) : (oneR s k).length ≤ 1 := by unfold oneR; split <;> simp
theorem innR_length (s k : Nat) : (innR s k).length ≤ k := by
  induction k with
  | zero => simp [innR]
  | succ k ih => have := oneR_length s k; simp [innR, List.range_succ] at ih ⊢; omega
theorem outR_length (s k : Nat) : (outR s k).length ≤ 8 * s + k := by
  have h1 := innR_length s k
  have h2 : ((List.range s).flatMap (fun t => innR t 8)).length ≤ 8 * s := by
    clear h1
    induction s with
    | zero => simp
    | succ s ih => have := innR_length s 8; simp [List.range_succ] at ih ⊢; omega
  unfold outR; rw [List.length_append]; omega
set_option maxHeartbeats 4000000 in
set_option maxRecDepth 100000 in
theorem refOrder_any (w : World) :
    Calls Tryz.prog 80 #[] w fun e w' => ∃ g c, e = .returned (.slice (some ⟨g, 0, none⟩) 64 c) ∧ Owns w.heap.size [intRow 3 .i64 (.slice (some ⟨g, 0, none⟩) 64 c) zz] w' ∧ Below w.heap.size w w' := by
  go_enter Tryz.func80, Tryz.ntmps80
  go_wp2
  go_loopg [1, 6] 15 (fun gk v i wr => ∃ s : Nat, gk = 15 - s ∧ s ≤ 15 ∧ i = .int .i64 (s : Int) ∧ Hid (Owns w.heap.size [intRow 3 .i64 v (outR s 0)] wr) ∧ Hid (Below w.heap.size w wr))
  case atStart => exact ⟨0, rfl, by omega, rfl, veil ((Owns.start w).fresh _ _), veil (Below.refl _ _)⟩
  case round =>
    obtain ⟨s, rfl, hs, rfl, HO, HB⟩ := hrel
    by_cases hlt : s < 15
    · have hltz : (s : Int) < 15 := by omega
      go_wp2_with fail
      rename World => W0
      go_loopg [1, 9] 8 (fun gk v i wr => ∃ k : Nat, gk = 8 - k ∧ k ≤ 8 ∧ i = .int .i64 (k : Int) ∧ Hid (Owns w.heap.size [intRow 3 .i64 v (outR s k)] wr) ∧ Hid (Below w.heap.size w wr))
      case atStart => exact ⟨0, rfl, by omega, rfl, HO, HB⟩
      case round =>
        clear HO HB
        obtain ⟨k, rfl, hk, rfl, HO, HB⟩ := hrel
        by_cases hkt : k < 8
        · have hktz : (k : Int) < 8 := by omega
          have hrow : Hid (rowR s k = if s % 2 = 0 then 7 - (k : Int) else (k : Int)) := rfl
          have hrb : 0 ≤ rowR s k ∧ rowR s k ≤ 7 := by unfold rowR; split <;> omega
          have hol := outR_length s k
          have HY := veil (outR_yes (s := s) (k := k))
          have HNo := veil (outR_no (s := s) (k := k))
          generalize outR s k = l at *
          generalize rowR s k = r at *
          by_cases he : s % 2 = 0
          · have het : ((s : Int) % 2 == 0) = true := by simp; omega
            have hez : (s : Int).tmod 2 = 0 := by rw [Int.tmod_eq_emod_of_nonneg (by omega)]; omega
            have hr : r = 7 - (k : Int) := by rw [hrow.out, if_pos he]
            subst hr
            clear hrow
            by_cases hin : 0 ≤ (s : Int) - (7 - (k : Int)) ∧ (s : Int) - (7 - (k : Int)) ≤ 7
            · have HC := veil (out_no ((s : Int) - (7 - (k : Int))) 0 7 hin)
              go_wp2_with fail
              refine (HC.out _).mono ?_
              rintro e w2 ⟨rfl, rfl⟩
              go_wp2_with (first
                | (at_builtin; go_loud (refine wpList_ownI _ rfl (.tmp 24) (.tmp 29) _ rfl w.heap.size 3 .i64 8 elemZ u1 l [] rfl HO.out [_] rfl (by unfold maxLen; simp; omega) (by simp; omega) ?_); intro v4 w4 HO4 hb4 hz4)
                | fail)
              go_roundg (8 - (k + 1))
              case rel => exact ⟨k + 1, rfl, by omega, by go_num, veil (by rw [HY.out hin]; exact HO4), veil (HB.out.trans hb4)⟩
              case measure => omega
            · have HC := veil (out_yes ((s : Int) - (7 - (k : Int))) 0 7 (by omega))
              go_wp2_with fail
              refine (HC.out _).mono ?_
              rintro e w2 ⟨rfl, rfl⟩
              go_wp2_with fail
              go_roundg (8 - (k + 1))
              case rel => exact ⟨k + 1, rfl, by omega, by go_num, veil (by rw [HNo.out hin]; exact HO.out), HB⟩
              case measure => omega
          · have het : ((s : Int) % 2 == 0) = false := by simp; omega
            have hez : ¬ (s : Int).tmod 2 = 0 := by rw [Int.tmod_eq_emod_of_nonneg (by omega)]; omega
            have hr : r = (k : Int) := by rw [hrow.out, if_neg he]
            subst hr
            clear hrow
            by_cases hin : 0 ≤ (s : Int) - (k : Int) ∧ (s : Int) - (k : Int) ≤ 7
            · have HC := veil (out_no ((s : Int) - (k : Int)) 0 7 hin)
              go_wp2_with fail
              refine (HC.out _).mono ?_
              rintro e w2 ⟨rfl, rfl⟩
              go_wp2_with (first
                | (at_builtin; go_loud (refine wpList_ownI _ rfl (.tmp 24) (.tmp 29) _ rfl w.heap.size 3 .i64 8 elemZ u1 l [] rfl HO.out [_] rfl (by unfold maxLen; simp; omega) (by simp; omega) ?_); intro v4 w4 HO4 hb4 hz4)
                | fail)
              go_roundg (8 - (k + 1))
              case rel => exact ⟨k + 1, rfl, by omega, by go_num, veil (by rw [HY.out hin]; exact HO4), veil (HB.out.trans hb4)⟩
              case measure => omega
            · have HC := veil (out_yes ((s : Int) - (k : Int)) 0 7 (by omega))
              go_wp2_with fail
              refine (HC.out _).mono ?_
              rintro e w2 ⟨rfl, rfl⟩
              go_wp2_with fail
              go_roundg (8 - (k + 1))
              case rel => exact ⟨k + 1, rfl, by omega, by go_num, veil (by rw [HNo.out hin]; exact HO.out), HB⟩
              case measure => omega
        · obtain rfl : k = 8 := by omega
          rw [← outR_next] at HO
          go_wp2_with fail
          go_roundg (15 - (s + 1))
          case rel => exact ⟨s + 1, rfl, by omega, by go_num, HO, HB⟩
          case measure => omega
    · obtain rfl : s = 15 := by omega
      rw [outR_all] at HO
      obtain ⟨g, c, rfl⟩ := own_some HO.out (by rw [zz_length]; omega)
      rw [zz_length] at HO
      go_wp2
      go_ret
      exact ⟨g, c, rfl, HO.out, HB.out⟩
end Go.Proofs.YtddkhkpdbjjboaaGreat

/- The reference's ZigTo and ZigFrom: their contracts. -/
namespace Go.Proofs.YtddkhkpdbjjboaaGreat
open Go.RowKit
set_option linter.unusedVariables false
set_option linter.unusedSimpArgs false
set_option maxRecDepth 100000

set_option maxHeartbeats 4000000 in
set_option maxRecDepth 100000 in
theorem refTo_any (cs : List Int) (w : World) (hc : cs.length = 64) :
    Calls Tryz.prog 82 #[blkV cs] w fun e w' => e = .returned (blkV (toL cs)) ∧ Below w.heap.size w w' := by
  have HA := veil (refOrder_any (box3 cs w))
  obtain ⟨hb3, HB0, HB1, HB2, hz3⟩ := box3_is cs w
  go_enter Tryz.func82, Tryz.ntmps82
  go_wp2_with fail
  refine HA.out.mono ?_
  rintro e w2 ⟨g, c, rfl, HO, hb2⟩
  have h1 := (zz_form HO).1
  rw [hz3] at HO hb2
  have HB0' := HB0.below hb2 (by omega)
  have HB1' := HB1.below hb2 (by omega)
  have HB2' := veil (HB2.below hb2 (by omega))
  have hz2 := hb2.size
  have hbw := hb3.trans (hb2.mono (by omega))
  clear HA HB0 HB1 HB2 hb2 h1 hb3
  go_wp2_with fail
  go_loopg [8] 64 (fun gk i wr => ∃ k : Nat, gk = 64 - k ∧ k ≤ 64 ∧ i = .int .i64 (k : Int) ∧ Hid (Blk wr (w.heap.size + 1 + 1) (ints .i64 (toK cs k)) 37) ∧ Hid (w2.grownBy wr (some (w.heap.size + 1 + 1))))
  case atStart => exact ⟨0, rfl, by omega, rfl, veil (by rw [toK_zero]; exact HB2'.out), veil (World.grownBy.refl _ _)⟩
  case round =>
    clear HB2'
    obtain ⟨k, rfl, hk, rfl, HB, HG⟩ := hrel
    have HBX := HB0'.kept HG.out (by simp; omega)
    have HO2 := HO.kept HG.out (by omega)
    have h1 := (zz_form HO2).1
    by_cases hlt : k < 64
    · have hltz : (k : Int) < 64 := by omega
      obtain ⟨⟨n, hn64⟩, hn, _⟩ := zz_at ⟨k, hlt⟩
      simp only at hn
      have hnz : (n : Int) < 64 := by omega
      obtain ⟨x, hx⟩ := some_at (xs := cs) (j := n) (by omega)
      have hcn := zz_cellK h1 hn
      have hcx := HBX.cell (ints_at hx)
      obtain ⟨y, hy⟩ := some_at (xs := toK cs k) (j := k) (by rw [toK_length]; omega)
      have hcy := HB.out.cell (ints_at hy)
      have hfy := HB.out.frozen k
      have HB5 : Hid (Blk (wr.setCell ⟨w.heap.size + 1 + 1, k, none⟩ (.int .i64 x)) (w.heap.size + 1 + 1) (ints .i64 (toK cs (k + 1))) 37) := by
        rw [toK_next hlt hn hx]
        have := HB.out.set k (.int .i64 x)
        rw [show (ints .i64 (toK cs k)).set k (.int .i64 x) = ints .i64 ((toK cs k).set k x) by simp [ints, List.map_set]] at this
        exact this
      have HG5 : Hid (w2.grownBy (wr.setCell ⟨w.heap.size + 1 + 1, k, none⟩ (.int .i64 x)) (some (w.heap.size + 1 + 1))) :=
        HG.out.trans ⟨rfl, rfl, rfl, by simp [World.setCell], fun i _ hi => Below.heap_setCell _ _ _ _ (fun e => hi (by rw [e]))⟩
      clear HB HG HBX HO2 h1 hn hx hy
      go_wp2_with fail
      go_roundg (64 - (k + 1))
      case rel => exact ⟨k + 1, rfl, by omega, by go_num, HB5, HG5⟩
      case measure => omega
    · obtain rfl : k = 64 := by omega
      have HR := HB1'.kept HG.out (by simp)
      have HBr := HB.out
      have Hlen : Hid ((ints .i64 (toK cs 64)).length = 64) := by show _ = _; rw [ints_length, toK_length]
      have hone := ints_one (k := .i64) (l := toK cs 64)
      have hbg : Below w.heap.size w wr := hbw.grown HG.out hbw.size (fun j hj => by injection hj with hj; omega)
      have Hz := veil zeroB_length
      obtain ⟨xs, hxs⟩ : ∃ xs, xs = ints .i64 (toK cs 64) := ⟨_, rfl⟩
      rw [← hxs] at Hlen hone HBr
      have HX := veil hxs
      generalize zeroB = x0 at *
      clear HB HG HBX HO2 h1 hxs
      go_wp2_with (first
        | (refine wpList_load_mid rfl 37 (.tmp 3) rfl (w.heap.size + 1 + 1) 0 rfl xs _ HBr.range Tryz.underlying37 rfl (info_blkn Hlen.out) ?_)
        | (refine wpList_store_blk wr rfl 37 (.tmp 2) (.tmp 19) rfl (w.heap.size + 1) x0 xs 37 HR rfl rfl (info_blkn Hlen.out) (by rw [Hlen.out, Hz.out]) hone ?_; intro w5 HB5 hg5)
        | fail)
      refine bodyPost_ret (v := .agg xs.toArray) (results_cell_row rfl _ _ (w.heap.size + 1) 37 xs.toArray (0, 0) _ rfl HB5 Tryz.underlying37 rfl (by simp only [List.size_toArray]; exact info_blkn Hlen.out)) rfl ⟨by rw [HX.out]; rfl, hbg.grown hg5 hbg.size (fun j hj => by injection hj with hj; omega)⟩
set_option maxHeartbeats 4000000 in
set_option maxRecDepth 100000 in
theorem refFrom_any (cs : List Int) (w : World) (hc : cs.length = 64) :
    Calls Tryz.prog 58 #[blkV cs] w fun e w' => e = .returned (blkV (fromL cs)) ∧ Below w.heap.size w w' := by
  have HA := veil (refOrder_any (box3 cs w))
  obtain ⟨hb3, HB0, HB1, HB2, hz3⟩ := box3_is cs w
  go_enter Tryz.func58, Tryz.ntmps58
  go_wp2_with fail
  refine HA.out.mono ?_
  rintro e w2 ⟨g, c, rfl, HO, hb2⟩
  have h1 := (zz_form HO).1
  rw [hz3] at HO hb2
  have HB0' := HB0.below hb2 (by omega)
  have HB1' := HB1.below hb2 (by omega)
  have HB2' := veil (HB2.below hb2 (by omega))
  have hz2 := hb2.size
  have hbw := hb3.trans (hb2.mono (by omega))
  clear HA HB0 HB1 HB2 hb2 h1 hb3
  go_wp2_with fail
  go_loopg [8] 64 (fun gk i wr => ∃ k : Nat, gk = 64 - k ∧ k ≤ 64 ∧ i = .int .i64 (k : Int) ∧ Hid (Blk wr (w.heap.size + 1 + 1) (ints .i64 (fromK cs k)) 37) ∧ Hid (w2.grownBy wr (some (w.heap.size + 1 + 1))))
  case atStart => exact ⟨0, rfl, by omega, rfl, veil (by rw [fromK_zero]; exact HB2'.out), veil (World.grownBy.refl _ _)⟩
  case round =>
    clear HB2'
    obtain ⟨k, rfl, hk, rfl, HB, HG⟩ := hrel
    have HBX := HB0'.kept HG.out (by simp; omega)
    have HO2 := HO.kept HG.out (by omega)
    have h1 := (zz_form HO2).1
    by_cases hlt : k < 64
    · have hltz : (k : Int) < 64 := by omega
      obtain ⟨⟨n, hn64⟩, hn, _⟩ := zz_at ⟨k, hlt⟩
      simp only at hn
      have hnz : (n : Int) < 64 := by omega
      obtain ⟨x, hx⟩ := some_at (xs := cs) (j := k) (by omega)
      have hcn := zz_cellK h1 hn
      have hcx := HBX.cell (ints_at hx)
      obtain ⟨y, hy⟩ := some_at (xs := fromK cs k) (j := n) (by rw [fromK_length]; omega)
      have hcy := HB.out.cell (ints_at hy)
      have hfy := HB.out.frozen n
      have HB5 : Hid (Blk (wr.setCell ⟨w.heap.size + 1 + 1, n, none⟩ (.int .i64 x)) (w.heap.size + 1 + 1) (ints .i64 (fromK cs (k + 1))) 37) := by
        rw [fromK_next hlt hn hx]
        have := HB.out.set n (.int .i64 x)
        rw [show (ints .i64 (fromK cs k)).set n (.int .i64 x) = ints .i64 ((fromK cs k).set n x) by simp [ints, List.map_set]] at this
        exact this
      have HG5 : Hid (w2.grownBy (wr.setCell ⟨w.heap.size + 1 + 1, n, none⟩ (.int .i64 x)) (some (w.heap.size + 1 + 1))) :=
        HG.out.trans ⟨rfl, rfl, rfl, by simp [World.setCell], fun i _ hi => Below.heap_setCell _ _ _ _ (fun e => hi (by rw [e]))⟩
      clear HB HG HBX HO2 h1 hn hx hy
      go_wp2_with fail
      go_roundg (64 - (k + 1))
      case rel => exact ⟨k + 1, rfl, by omega, by go_num, HB5, HG5⟩
      case measure => omega
    · obtain rfl : k = 64 := by omega
      have HR := HB1'.kept HG.out (by simp)
      have HBr := HB.out
      have Hlen : Hid ((ints .i64 (fromK cs 64)).length = 64) := by show _ = _; rw [ints_length, fromK_length]
      have hone := ints_one (k := .i64) (l := fromK cs 64)
      have hbg : Below w.heap.size w wr := hbw.grown HG.out hbw.size (fun j hj => by injection hj with hj; omega)
      have Hz := veil zeroB_length
      obtain ⟨xs, hxs⟩ : ∃ xs, xs = ints .i64 (fromK cs 64) := ⟨_, rfl⟩
      rw [← hxs] at Hlen hone HBr
      have HX := veil hxs
      generalize zeroB = x0 at *
      clear HB HG HBX HO2 h1 hxs
      go_wp2_with (first
        | (refine wpList_load_mid rfl 37 (.tmp 3) rfl (w.heap.size + 1 + 1) 0 rfl xs _ HBr.range Tryz.underlying37 rfl (info_blkn Hlen.out) ?_)
        | (refine wpList_store_blk wr rfl 37 (.tmp 2) (.tmp 19) rfl (w.heap.size + 1) x0 xs 37 HR rfl rfl (info_blkn Hlen.out) (by rw [Hlen.out, Hz.out]) hone ?_; intro w5 HB5 hg5)
        | fail)
      refine bodyPost_ret (v := .agg xs.toArray) (results_cell_row rfl _ _ (w.heap.size + 1) 37 xs.toArray (0, 0) _ rfl HB5 Tryz.underlying37 rfl (by simp only [List.size_toArray]; exact info_blkn Hlen.out)) rfl ⟨by rw [HX.out]; rfl, hbg.grown hg5 hbg.size (fun j hj => by injection hj with hj; omega)⟩
end Go.Proofs.YtddkhkpdbjjboaaGreat

/- The reference's token and Tokens: their contracts. -/
namespace Go.Proofs.YtddkhkpdbjjboaaGreat
open Go.RowKit
set_option linter.unusedVariables false
set_option linter.unusedSimpArgs false
set_option maxRecDepth 100000

set_option maxHeartbeats 1000000 in
theorem token_any (r : Nat) (n : Int) (w : World) (hr : r ≤ 15) (h1 : -4095 ≤ n) (h2 : n ≤ 4095) :
    Calls Tryz.prog 83 #[.int .i64 (r : Int), .int .i64 n] w fun e w' => e = .returned (tokV (tkN r n)) ∧ Below w.heap.size w w' := by
  have H1 := veil (fun W => refBits_ok n W h1 h2)
  have hs := sz_12 h1 h2
  unfold tkN tokV
  generalize szZ n = s at *
  generalize vbZ n = v at *
  go_enter Tryz.func83, Tryz.ntmps83
  go_wp2_with fail
  refine (H1.out _).mono ?_
  rintro e w1 ⟨rfl, rfl⟩
  go_wp2_with fail
  exact bodyPost_ret (v := .agg #[.int .i64 (16 * (r : Int) + (s : Int)), .int .i64 (s : Int), .int .i64 v]) (results_cell_row rfl _ _ w.heap.size 73 #[.int .i64 (16 * (r : Int) + (s : Int)), .int .i64 (s : Int), .int .i64 v] (0, 0) _ rfl (Blk.new w [.int .i64 (16 * (r : Int) + (s : Int)), .int .i64 (s : Int), .int .i64 v] 73) Tryz.underlying73 rfl (by kernel_rfl)) rfl ⟨rfl, below1 _ _⟩
/-- The list of one token just laid. -/
theorem own_lit {w : World} {B : Nat} (hB : B ≤ w.heap.size) (f0 f1 f2 : Int) : Owns B [tokRow (.slice (some ⟨w.heap.size, 0, none⟩) 1 1) [(f0, f1, f2)]] (w.alloc (.cells #[.int .i64 f0, .int .i64 f1, .int .i64 f2] 73)) :=
  .one (by simp; omega) (World.ownsRow_lit w #[.int .i64 f0, .int .i64 f1, .int .i64 f2] 1 hB (by unfold maxLen; omega) rfl)
theorem refTokens_bad1 (b : Int) (cs : List Int) (w : World) (hc : cs.length = 64) (hb : b < -2047 ∨ 2047 < b) :
    Calls Tryz.prog 59 #[.int .i64 b, blkV cs] w fun e w' => ∃ v, e = .returned (.tuple #[v, .int .i64 1]) ∧ Owns w.heap.size [tokRow v []] w' ∧ Below w.heap.size w w' := by
  have HO := veil (fun W => out_yes b (-2047) 2047 hb W)
  unfold blkV
  generalize ints .i64 cs = xs at *
  clear hb
  go_enter Tryz.func59, Tryz.ntmps59
  go_wp2_with fail
  refine (HO.out _).mono ?_
  rintro e w1 ⟨rfl, rfl⟩
  go_wp2
  go_ret2
  exact ⟨_, rfl, (Owns.nil (by simp)).fresh _ _, below1 _ _⟩
theorem refTokens_bad2 (b : Int) (cs : List Int) (w : World) (hc : cs.length = 64) (hb : -2047 ≤ b ∧ b ≤ 2047) (hin : inB (-2047) 2047 cs = false) :
    Calls Tryz.prog 59 #[.int .i64 b, blkV cs] w fun e w' => ∃ v, e = .returned (.tuple #[v, .int .i64 1]) ∧ Owns w.heap.size [tokRow v []] w' ∧ Below w.heap.size w w' := by
  have HO := veil (fun W => out_no b (-2047) 2047 hb W)
  have HI := veil (fun W => bwithin_any cs (-2047) 2047 W hc)
  rw [hin] at HI
  have Hl : Hid ((ints .i64 cs).length = 64) := by show _ = _; rw [ints_length, hc]
  have hr := range_new w (ints .i64 cs) 37
  have hb0 := below1 w (.cells (ints .i64 cs).toArray 37)
  unfold blkV at *
  generalize ints .i64 cs = xs at *
  clear hin
  go_enter Tryz.func59, Tryz.ntmps59
  go_wp2_with fail
  refine (HO.out _).mono ?_
  rintro e w1 ⟨rfl, rfl⟩
  go_wp2_with (first
    | (refine wpList_load_long rfl 37 (.tmp 3) rfl w.heap.size 0 rfl xs _ hr Tryz.underlying37 rfl (info_blkn Hl.out) ?_)
    | fail)
  refine (HI.out _).mono ?_
  rintro e w2 ⟨rfl, hb2⟩
  have hf := hb0.trans (hb2.mono (by simp))
  clear hr hb0 hb2
  go_wp2
  go_ret2
  exact ⟨_, rfl, (Owns.nil hf.size).fresh _ _, hf⟩
set_option maxHeartbeats 4000000 in
set_option maxRecDepth 100000 in
theorem refTokens_ok (b : Int) (cs : List Int) (w : World) (hc : cs.length = 64) (hb : -2047 ≤ b ∧ b ≤ 2047) (hin : inB (-2047) 2047 cs = true) :
    Calls Tryz.prog 59 #[.int .i64 b, blkV cs] w fun e w' => ∃ v, e = .returned (.tuple #[v, .int .i64 0]) ∧ Owns w.heap.size [tokRow v (toksZ b (toL cs))] w' ∧ Below w.heap.size w w' := by
  have HO := veil (fun W => out_no b (-2047) 2047 hb W)
  have HI := veil (fun W => bwithin_any cs (-2047) 2047 W hc)
  rw [hin] at HI
  have HZ := veil (fun W => refTo_any cs W hc)
  have hZl := toL_length cs
  have HZin := veil (toL_in hc hin)
  have Hlen := veil (toks_len b hZl)
  generalize toL cs = Z at *
  have Hl : Hid ((ints .i64 cs).length = 64) := by show _ = _; rw [ints_length, hc]
  have HlZ : Hid ((ints .i64 Z).length = 64) := by show _ = _; rw [ints_length, hZl]
  have honeZ := ints_one (k := .i64) (l := Z)
  have hr := range_new w (ints .i64 cs) 37
  have hb0 := below1 w (.cells (ints .i64 cs).toArray 37)
  obtain ⟨z0, hz0⟩ := some_at (xs := Z) (j := 0) (by omega)
  have hz0b := HZin.out z0 (List.mem_of_getElem? hz0)
  have HT0 := veil (fun W => token_any 0 (z0 - b) W (by omega) (by omega) (by omega))
  have HS : Hid (toksZ b Z = [tkN 0 (z0 - b)] ++ restT 0 (Z.drop 1)) := by
    show _ = _
    match Z, hz0 with
    | z :: zs, h => simp at h; subst h; rfl
  unfold blkV at *
  generalize ints .i64 cs = xs at *
  clear hin hc
  generalize toksZ b Z = T at *
  go_enter Tryz.func59, Tryz.ntmps59
  go_wp2_with fail
  refine (HO.out _).mono ?_
  rintro e w1 ⟨rfl, rfl⟩
  go_wp2_with (first
    | (refine wpList_load_long rfl 37 (.tmp 3) rfl w.heap.size 0 rfl xs _ hr Tryz.underlying37 rfl (info_blkn Hl.out) ?_)
    | fail)
  refine (HI.out _).mono ?_
  rintro e w2 ⟨rfl, hb2⟩
  have hf := hb0.trans (hb2.mono (by simp))
  have hr2 := range_below hr hb2 (by simp)
  clear hr hb0 hb2 HO HI
  go_wp2_with (first
    | (refine wpList_load_mid rfl 37 (.tmp 3) rfl w.heap.size 0 rfl xs _ hr2 Tryz.underlying37 rfl (info_blkn Hl.out) ?_)
    | fail)
  refine (HZ.out _).mono ?_
  rintro e w3 ⟨rfl, hb3⟩
  have hf3 := hf.trans (hb3.mono hf.size)
  clear hr2 hf hb3 HZ
  have HBz := Blk.new w3 (ints .i64 Z) 37
  have hb4 := hf3.alloc hf3.size (.cells (ints .i64 Z).toArray 37)
  have hc0 := HBz.cell (ints_at hz0)
  have hsz4 : (w3.alloc (.cells (ints .i64 Z).toArray 37)).heap.size = w3.heap.size + 1 := by simp
  obtain ⟨ys, hys⟩ : ∃ ys, ys = ints .i64 Z := ⟨_, rfl⟩
  rw [← hys] at HBz hb4 hc0 hsz4 HlZ honeZ ⊢
  have HY := veil hys; clear hys
  go_wp2_with (first
    | (refine wpList_store_new w3 rfl 37 (.tmp 6) (.tmp 19) rfl zeroB.toArray ys rfl rfl (info_blkn HlZ.out) (by rw [HlZ.out]; rfl) honeZ ?_)
    | fail)
  refine (HT0.out _).mono ?_
  rintro e w5 ⟨rfl, hb5⟩
  have HBz5 := HBz.below hb5 (by rw [hsz4]; omega)
  rw [hsz4] at hb5
  have hz5 := hb5.size
  rw [hsz4] at hz5
  have hf5 : Below w.heap.size w w5 := hb4.trans (hb5.mono (by have := hf3.size; omega))
  clear hc0 HBz hb4 hb5 hsz4 HT0
  have HTK : Hid (∀ (r : Nat) (x : Int) (W : World), r ≤ 15 → -2047 ≤ x → x ≤ 2047 → _) := fun r x W h1 h2 h3 => token_any r x W h1 (by omega) (by omega)
  obtain ⟨⟨p0, p1, p2⟩, hp⟩ : ∃ t, t = tkN 0 (z0 - b) := ⟨_, rfl⟩
  rw [← hp] at HS ⊢
  clear hp
  simp only [tokV]
  have HO5 := own_lit (w := w5) (B := w5.heap.size) (Nat.le_refl _) p0 p1 p2
  have hb6 := below1 w5 (.cells #[.int .i64 p0, .int .i64 p1, .int .i64 p2] 73)
  go_wp2_with fail
  go_loopg [7, 8, 9] 63 (fun gk v lv iv wr => ∃ (i last : Nat) (D : List (Int × Int × Int)), gk = 64 - i ∧ i ≤ 64 ∧ last < i ∧ lv = .int .i64 (last : Int) ∧ iv = .int .i64 (i : Int) ∧ Hid (T = D ++ restT (i - last - 1) (Z.drop i)) ∧ Owns w5.heap.size [tokRow v D] wr ∧ Below w5.heap.size w5 wr)
  case atStart => exact ⟨1, 0, [(p0, p1, p2)], rfl, by omega, by omega, rfl, rfl, HS, HO5, hb6⟩
  case round =>
    clear HO5 hb6 HS
    obtain ⟨i, last, D, rfl, hi, hlast, rfl, rfl, HD, HW, hbw⟩ := hrel
    by_cases hlt : i < 64
    · have hltz : (i : Int) < 64 := by omega
      obtain ⟨x, hx⟩ := some_at (xs := Z) (j := i) (by omega)
      have hxb := HZin.out x (List.mem_of_getElem? hx)
      have hcx : wr.cell? ⟨w3.heap.size, i, none⟩ = some (.int .i64 x) := (HBz5.below hbw (by omega)).cell (by rw [HY.out]; exact ints_at hx)
      have HN := veil (toks_next (i - last - 1) hx)
      by_cases h0 : x = 0
      · subst h0
        have HD2 : Hid (T = D ++ restT (i + 1 - last - 1) (Z.drop (i + 1))) := by
          show _ = _
          rw [HD.out, HN.out, if_pos rfl]; congr 2; omega
        clear HD HN hx
        go_wp2_with fail
        go_roundg (64 - (i + 1))
        case rel => exact ⟨i + 1, last, D, rfl, by omega, by omega, rfl, by go_num, HD2, HW, hbw⟩
        case measure => omega
      · obtain ⟨r, hr⟩ : ∃ r : Nat, i - last - 1 = r := ⟨_, rfl⟩
        rw [hr] at HD HN
        have hrz : (i : Int) - (last : Int) - 1 = (r : Int) := by omega
        have HD2 : Hid (T = D ++ List.replicate (r / 16) tkLong ++ tkN (r % 16) x :: restT 0 (Z.drop (i + 1))) := by
          show _ = _
          rw [HD.out, HN.out, if_neg h0, List.append_assoc]
        have HDl : Hid (D.length + r / 16 + 1 ≤ 64) := by
          have h1 := Hlen.out
          rw [HD2.out] at h1
          simp only [List.length_append, List.length_replicate, List.length_cons] at h1
          show _ ≤ _; omega
        have hx0 : (x == 0) = false := by simpa using h0
        clear HD HN hx hr h0
        go_wp2_with fail
        rename World => W0
        go_loopg [7, 40] (r / 16) (fun gk v jv wr => ∃ j : Nat, gk = r / 16 - j ∧ j ≤ r / 16 ∧ jv = .int .i64 (j : Int) ∧ Owns w5.heap.size [tokRow v (D ++ List.replicate j tkLong)] wr ∧ Below w5.heap.size w5 wr)
        case atStart => exact ⟨0, rfl, by omega, rfl, by rw [List.replicate_zero, List.append_nil]; exact HW, hbw⟩
        case round =>
          obtain ⟨j, rfl, hj, rfl, HW2, hbw2⟩ := hrel
          by_cases hjl : j < r / 16
          · have hjz : (j : Int) < (r : Int) / 16 := by omega
            go_wp2_with (first
              | (refine wpList_ownK wr rfl (.tmp 42) (.tmp 44) rfl w5.heap.size u7 (D ++ List.replicate j tkLong) [] rfl HW2 240 0 0 rfl (by have := HDl.out; simp only [List.length_append, List.length_replicate]; omega) ?_; intro v' w' HO' hb' hs')
              | fail)
            go_roundg (r / 16 - (j + 1))
            case rel => exact ⟨j + 1, rfl, by omega, by go_num, by rw [List.replicate_succ', ← List.append_assoc]; exact HO', hbw2.trans (hb'.mono (Nat.le_refl _))⟩
            case measure => omega
          · obtain rfl : j = r / 16 := by omega
            have hcx2 : wr.cell? ⟨w3.heap.size, i, none⟩ = some (.int .i64 x) := by
              rw [hbw2.cell (by simp; omega), ← hbw.cell (by simp; omega)]; exact hcx
            have HT1 := veil (HTK.out (r % 16) x wr (by omega) hxb.1 hxb.2)
            rw [show ((r % 16 : Nat) : Int) = (r : Int) % 16 by omega] at HT1
            obtain ⟨⟨q0, q1, q2⟩, hq⟩ : ∃ t, t = tkN (r % 16) x := ⟨_, rfl⟩
            rw [← hq] at HD2 HT1
            clear hq hcx
            go_wp2_with fail
            refine HT1.out.mono ?_
            rintro e w7 ⟨rfl, hb7⟩
            have HW7 := HW2.below hb7
            have hb7' := hbw2.trans (hb7.mono hbw2.size)
            have HD3 : Hid (T = (D ++ List.replicate (r / 16) tkLong ++ [(q0, q1, q2)]) ++ restT (i + 1 - i - 1) (Z.drop (i + 1))) := by
              show _ = _
              rw [HD2.out, show i + 1 - i - 1 = 0 by omega, List.append_assoc _ [(q0, q1, q2)]]; rfl
            clear HD2 HT1 hb7 HW2 hbw2
            simp only [tokV]
            go_wp2_with (first
              | (refine wpList_ownK w7 rfl (.tmp 47) (.tmp 54) rfl w5.heap.size u7 (D ++ List.replicate (r / 16) tkLong) [] rfl HW7 q0 q1 q2 rfl (by have := HDl.out; simp only [List.length_append, List.length_replicate]; omega) ?_; intro v' w' HO' hb' hs')
              | fail)
            go_roundg (64 - (i + 1))
            case rel => exact ⟨i + 1, i, _, rfl, by omega, by omega, rfl, by go_num, HD3, HO', hb7'.trans hb'⟩
            case measure => omega
    · obtain rfl : i = 64 := by omega
      by_cases hl63 : last < 63
      · have HD2 : Hid (T = D ++ [(0, 0, 0)]) := by
          show _ = _
          rw [HD.out, List.drop_of_length_le (by omega), restT_nil, if_neg (by omega)]; rfl
        have hDl : D.length + 1 ≤ 64 := by
          have h1 := Hlen.out
          rw [HD2.out, List.length_append, List.length_singleton] at h1
          exact h1
        have HDl := veil hDl
        clear HD hDl
        go_wp2_with (first
          | (refine wpList_ownK wr rfl (.tmp 59) (.tmp 61) rfl w5.heap.size u7 D [] rfl HW 0 0 0 rfl (by have := HDl.out; omega) ?_; intro v' w' HO' hb' hs')
          | fail)
        go_ret2
        refine ⟨_, rfl, ?_, hf5.trans ((hbw.trans hb').mono hf5.size)⟩
        rw [HD2.out]
        exact HO'.down hf5.size
      · have HD2 : Hid (T = D) := by
          show _ = _
          rw [HD.out, List.drop_of_length_le (by omega), restT_nil, if_pos (by omega), List.append_nil]
        clear HD
        go_wp2
        go_ret2
        refine ⟨_, rfl, ?_, hf5.trans (hbw.mono hf5.size)⟩
        rw [HD2.out]
        exact HW.down hf5.size
theorem refTokens_any (b : Int) (cs : List Int) (w : World) (hc : cs.length = 64) :
    Calls Tryz.prog 59 #[.int .i64 b, blkV cs] w fun e w' => ∃ v, e = .returned (.tuple #[v, .int .i64 (eT b cs)]) ∧ Owns w.heap.size [tokRow v (oT b cs)] w' ∧ Below w.heap.size w w' := by
  by_cases hb : -2047 ≤ b ∧ b ≤ 2047
  · cases hin : inB (-2047) 2047 cs with
    | true =>
      rw [oT_ok (eT_ok hb.1 hb.2 hin), eT_ok hb.1 hb.2 hin]
      exact refTokens_ok b cs w hc hb hin
    | false =>
      have e := eT_bad (b := b) (cs := cs) (by rw [hin]; simp)
      rw [oT_bad (by rw [e]; decide), e]
      exact refTokens_bad2 b cs w hc hb hin
  · have e := eT_bad (b := b) (cs := cs) (fun h => hb ⟨h.1, h.2.1⟩)
    rw [oT_bad (by rw [e]; decide), e]
    exact refTokens_bad1 b cs w hc (by omega)
end Go.Proofs.YtddkhkpdbjjboaaGreat

/- run.isCoef, run.token and run.Tokens: their contracts. -/
namespace Go.Proofs.YtddkhkpdbjjboaaGreat
open Go.RowKit
set_option linter.unusedVariables false
set_option linter.unusedSimpArgs false
set_option maxRecDepth 100000

theorem coef_yes (n : Int) (h : -2047 ≤ n ∧ n ≤ 2047) (w : World) :
    Calls Tryz.prog 72 #[.int .i64 n] w fun e w' => e = .returned (.bool true) ∧ w' = w := by
  obtain ⟨h1, h2⟩ := h
  go_enter Tryz.func72, Tryz.ntmps72
  go_wp2
  go_ret
  exact ⟨rfl, rfl⟩
theorem coef_no (n : Int) (h : n < -2047 ∨ 2047 < n) (w : World) :
    Calls Tryz.prog 72 #[.int .i64 n] w fun e w' => e = .returned (.bool false) ∧ w' = w := by
  rcases h with h | h
  · have h1 : ¬ -2047 ≤ n := by omega
    go_enter Tryz.func72, Tryz.ntmps72
    go_wp2
    go_ret
    exact ⟨rfl, rfl⟩
  · have h1 : -2047 ≤ n := by omega
    have h2 : ¬ n ≤ 2047 := by omega
    go_enter Tryz.func72, Tryz.ntmps72
    go_wp2
    go_ret
    exact ⟨rfl, rfl⟩
theorem info_tok : (Tryz.prog.info? 73).map (·.size) = some 3 := by kernel_rfl
set_option maxHeartbeats 1000000 in
theorem ptoken_any (r : Nat) (n : Int) (w : World) (hr : r ≤ 15) (h1 : -4095 ≤ n) (h2 : n ≤ 4095) :
    Calls Tryz.prog 87 #[.int .i64 (r : Int), .int .i64 n] w fun e w' => e = .returned (tokV (tkN r n)) ∧ Below w.heap.size w w' := by
  have H1 := veil (fun W => bits_any n W)
  rw [oS_ok h1 h2, oV_ok h1 h2, eS_ok h1 h2] at H1
  have hs := sz_12 h1 h2
  have HB := Blk.new w [.int .i64 0, .int .i64 0, .int .i64 0] 73
  have hb := below1 w (.cells [.int .i64 0, .int .i64 0, .int .i64 0].toArray 73)
  unfold tkN tokV
  generalize szZ n = s at *
  generalize vbZ n = v at *
  go_enter Tryz.func87, Tryz.ntmps87
  go_wp2_with fail
  refine (H1.out _).mono ?_
  rintro e w1 ⟨rfl, q, hq⟩
  have HB1 : Blk w1 w.heap.size [.int .i64 0, .int .i64 0, .int .i64 0] 73 := by rw [hq]; exact HB.drewN q
  have hb1 : Below w.heap.size w w1 := by rw [hq]; exact hb.drewN q
  clear hq HB hb
  go_wp2_with (first
    | (refine wpList_store_blk w1 rfl 73 (.tmp 4) (.tmp 20) rfl w.heap.size [.int .i64 0, .int .i64 0, .int .i64 0] [.int .i64 (16 * (r : Int) + (s : Int)), .int .i64 (s : Int), .int .i64 v] 73 HB1 rfl rfl info_tok rfl (by intro u hu; simp at hu; rcases hu with rfl | rfl | rfl <;> rfl) ?_; intro w5 HB7 hg7)
    | fail)
  exact bodyPost_ret (v := .agg #[.int .i64 (16 * (r : Int) + (s : Int)), .int .i64 (s : Int), .int .i64 v]) (results_cell_row rfl _ _ w.heap.size 73 #[.int .i64 (16 * (r : Int) + (s : Int)), .int .i64 (s : Int), .int .i64 v] (0, 0) _ rfl HB7 Tryz.underlying73 rfl (by kernel_rfl)) rfl ⟨rfl, hb1.grown hg7 hb1.size (fun j hj => by injection hj with hj; omega)⟩
theorem tokens_bad1 (b : Int) (cs : List Int) (w : World) (hc : cs.length = 64) (hb : b < -2047 ∨ 2047 < b) :
    Calls Tryz.prog 67 #[.int .i64 b, blkV cs] w fun e w' => ∃ v, e = .returned (.tuple #[v, .int .i64 1]) ∧ Owns w.heap.size [tokRow v []] w' ∧ Below w.heap.size w w' := by
  have HO := veil (fun W => coef_no b hb W)
  unfold blkV
  generalize ints .i64 cs = xs at *
  clear hb
  go_enter Tryz.func67, Tryz.ntmps67
  go_wp2_with fail
  refine (HO.out _).mono ?_
  rintro e w1 ⟨rfl, rfl⟩
  go_wp2
  go_ret2
  exact ⟨_, rfl, (Owns.nil (by simp)).fresh _ _, below1 _ _⟩
set_option maxHeartbeats 4000000 in
set_option maxRecDepth 100000 in
theorem tokens_in (b : Int) (cs : List Int) (w : World) (hc : cs.length = 64) (hb : -2047 ≤ b ∧ b ≤ 2047) :
    Calls Tryz.prog 67 #[.int .i64 b, blkV cs] w fun e w' => ∃ v, e = .returned (.tuple #[v, .int .i64 (eT b cs)]) ∧ Owns w.heap.size [tokRow v (oT b cs)] w' ∧ Below w.heap.size w w' := by
  have HC0 := veil (fun W => coef_yes b hb W)
  have HCy := veil (fun n h W => coef_yes n h W)
  have HCn := veil (fun n h W => coef_no n h W)
  have HEbad : Hid (inB (-2047) 2047 cs = false → eT b cs = 1 ∧ oT b cs = []) := fun h => by
    have e := eT_bad (b := b) (cs := cs) (by rw [h]; simp)
    exact ⟨e, oT_bad (by rw [e]; decide)⟩
  have HEok : Hid (inB (-2047) 2047 cs = true → eT b cs = 0 ∧ oT b cs = toksZ b (toL cs) ∧ ∀ z ∈ toL cs, -2047 ≤ z ∧ z ≤ 2047) := fun h => by
    have e := eT_ok hb.1 hb.2 h
    exact ⟨e, oT_ok e, toL_in hc h⟩
  have HZ := veil (fun W => to_any cs W hc)
  have hZl := toL_length cs
  have Hlen := veil (toks_len b hZl)
  generalize toL cs = Z at *
  generalize eT b cs = er at *
  generalize oT b cs = O at *
  have Hl : Hid ((ints .i64 cs).length = 64) := by show _ = _; rw [ints_length, hc]
  have Hat : Hid (∀ (k : Nat) (x : Int), cs[k]? = some x → (ints .i64 cs)[k]? = some (.int .i64 x)) := fun _ _ h => ints_at h
  have HlZ : Hid ((ints .i64 Z).length = 64) := by show _ = _; rw [ints_length, hZl]
  have honeZ := ints_one (k := .i64) (l := Z)
  have hr := range_new w (ints .i64 cs) 37
  have hb0 := below1 w (.cells (ints .i64 cs).toArray 37)
  unfold blkV at *
  generalize ints .i64 cs = xs at *
  go_enter Tryz.func67, Tryz.ntmps67
  go_wp2_with fail
  refine (HC0.out _).mono ?_
  rintro e w1 ⟨rfl, rfl⟩
  go_wp2_with (first
    | (refine wpList_load_mid rfl 37 (.tmp 3) rfl w.heap.size 0 rfl xs _ hr Tryz.underlying37 rfl (info_blkn Hl.out) ?_)
    | fail)
  obtain ⟨W, hW⟩ : ∃ W, W = w.alloc (.cells xs.toArray 37) := ⟨_, rfl⟩
  rw [← hW] at hr hb0 ⊢
  have hzW : W.heap.size = w.heap.size + 1 := by rw [hW]; simp
  clear hW
  go_loopg [17] 64 (fun gk i wr => ∃ k : Nat, gk = 64 - k ∧ k ≤ 64 ∧ i = .int .i64 (k : Int) ∧ Hid (inB (-2047) 2047 (cs.take k) = true) ∧ wr = W)
  case atStart => exact ⟨0, rfl, by omega, rfl, by simp [inB, Hid], rfl⟩
  case round =>
    obtain ⟨k, rfl, hk, rfl, HI, hwW⟩ := hrel
    subst wr
    by_cases hlt : k < 64
    · have hltz : (k : Int) < 64 := by omega
      obtain ⟨x, hx⟩ := some_at (xs := cs) (j := k) (by omega)
      have hxs := Hat.out _ _ hx
      by_cases h1 : -2047 ≤ x ∧ x ≤ 2047
      · have HI2 := veil (inB_take hx HI.out h1.1 h1.2)
        have HO := veil (HCy.out x h1 W)
        clear HI hx
        go_wp2_with (first
          | (refine wpList_index_arr rfl 37 (.tmp 16) (.tmp 17) rfl 64 3 .i64 Tryz.underlying37 Tryz.underlying3 (by kernel_rfl) xs rfl .i64 k rfl (.int .i64 x) hlt hxs ?_)
          | fail)
        refine HO.out.mono ?_
        rintro e w1 ⟨rfl, rfl⟩
        go_wp2_with fail
        go_roundg (64 - (k + 1))
        case rel => exact ⟨k + 1, rfl, by omega, by go_num, HI2, rfl⟩
        case measure => omega
      · have h2 := HEbad.out (inB_bad hx h1)
        have HO := veil (HCn.out x (by omega) W)
        obtain ⟨rfl, rfl⟩ := h2
        clear HI hx HEok HEbad Hlen
        go_wp2_with (first
          | (refine wpList_index_arr rfl 37 (.tmp 16) (.tmp 17) rfl 64 3 .i64 Tryz.underlying37 Tryz.underlying3 (by kernel_rfl) xs rfl .i64 k rfl (.int .i64 x) hlt hxs ?_)
          | fail)
        refine HO.out.mono ?_
        rintro e w1 ⟨rfl, rfl⟩
        go_wp2
        go_ret2
        exact ⟨_, rfl, (Owns.nil hb0.size).fresh _ _, hb0⟩
    · obtain rfl : k = 64 := by omega
      have h2 : inB (-2047) 2047 cs = true := by have := HI.out; rw [List.take_of_length_le (by omega)] at this; exact this
      obtain ⟨rfl, hOe, hZin⟩ := HEok.out h2
      have HOe := veil hOe
      clear hOe
      have HZin := veil hZin
      clear h2 hZin HEok HEbad HI HC0 HCn HCy
      obtain ⟨z0, hz0⟩ := some_at (xs := Z) (j := 0) (by omega)
      have hz0b := HZin.out z0 (List.mem_of_getElem? hz0)
      have HT0 := veil (fun W => ptoken_any 0 (z0 - b) W (by omega) (by omega) (by omega))
      have HS : Hid (toksZ b Z = [tkN 0 (z0 - b)] ++ restT 0 (Z.drop 1)) := by
        show _ = _
        match Z, hz0 with
        | z :: zs, h => simp at h; subst h; rfl
      generalize toksZ b Z = T at *
      go_wp2_with (first
        | (refine wpList_load_mid rfl 37 (.tmp 3) rfl w.heap.size 0 rfl xs _ hr Tryz.underlying37 rfl (info_blkn Hl.out) ?_)
        | fail)
      refine (HZ.out _).mono ?_
      rintro e w3 ⟨rfl, hb3⟩
      have hf3 := hb0.trans (hb3.mono hb0.size)
      clear hr hb0 hb3 HZ
      have HBz := Blk.new w3 (ints .i64 Z) 37
      have hb4 := hf3.alloc hf3.size (.cells (ints .i64 Z).toArray 37)
      have hc0 := HBz.cell (ints_at hz0)
      have hsz4 : (w3.alloc (.cells (ints .i64 Z).toArray 37)).heap.size = w3.heap.size + 1 := by simp
      obtain ⟨ys, hys⟩ : ∃ ys, ys = ints .i64 Z := ⟨_, rfl⟩
      rw [← hys] at HBz hb4 hc0 hsz4 HlZ honeZ ⊢
      have HY := veil hys; clear hys
      go_wp2_with (first
        | (refine wpList_store_new w3 rfl 37 (.tmp 8) (.tmp 25) rfl zeroB.toArray ys rfl rfl (info_blkn HlZ.out) (by rw [HlZ.out]; rfl) honeZ ?_)
        | fail)
      refine (HT0.out _).mono ?_
      rintro e w5 ⟨rfl, hb5⟩
      have HBz5 := HBz.below hb5 (by rw [hsz4]; omega)
      rw [hsz4] at hb5
      have hz5 := hb5.size
      rw [hsz4] at hz5
      have hf5 : Below w.heap.size w w5 := hb4.trans (hb5.mono (by have := hf3.size; omega))
      clear hc0 HBz hb4 hb5 hsz4 HT0
      have HTK : Hid (∀ (r : Nat) (x : Int) (W : World), r ≤ 15 → -2047 ≤ x → x ≤ 2047 → _) := fun r x W h1 h2 h3 => ptoken_any r x W h1 (by omega) (by omega)
      obtain ⟨⟨p0, p1, p2⟩, hp⟩ : ∃ t, t = tkN 0 (z0 - b) := ⟨_, rfl⟩
      rw [← hp] at HS ⊢
      clear hp
      simp only [tokV]
      have HO5 := own_lit (w := w5) (B := w5.heap.size) (Nat.le_refl _) p0 p1 p2
      have hb6 := below1 w5 (.cells #[.int .i64 p0, .int .i64 p1, .int .i64 p2] 73)
      go_wp2_with fail
      go_loopg [9, 10, 34] 63 (fun gk v zv iv wr => ∃ (i r : Nat) (D : List (Int × Int × Int)), gk = 63 - i ∧ i ≤ 63 ∧ r ≤ i ∧ zv = .int .i64 (r : Int) ∧ iv = .int .i64 (i : Int) ∧ Hid (T = D ++ restT r (Z.drop (i + 1))) ∧ Owns w5.heap.size [tokRow v D] wr ∧ Below w5.heap.size w5 wr)
      case atStart => exact ⟨0, 0, [(p0, p1, p2)], rfl, by omega, by omega, rfl, rfl, HS, HO5, hb6⟩
      case round =>
        clear HO5 hb6 HS
        obtain ⟨i, r, D, rfl, hi, hri, rfl, rfl, HD, HW, hbw⟩ := hrel
        by_cases hlt : i < 63
        · have hltz : (i : Int) < 63 := by omega
          obtain ⟨x, hx⟩ := some_at (xs := Z) (j := i + 1) (by omega)
          have hxb := HZin.out x (List.mem_of_getElem? hx)
          have hcx : wr.cell? ⟨w3.heap.size, 1 + i, none⟩ = some (.int .i64 x) := (HBz5.below hbw (by omega)).cell (by rw [HY.out, Nat.add_comm]; exact ints_at hx)
          have HN := veil (toks_next r hx)
          by_cases h0 : x = 0
          · subst h0
            have HD2 : Hid (T = D ++ restT (r + 1) (Z.drop (i + 1 + 1))) := by
              show _ = _
              rw [HD.out, HN.out, if_pos rfl]
            clear HD HN hx
            go_wp2_with fail
            go_roundg (63 - (i + 1))
            case rel => exact ⟨i + 1, r + 1, D, rfl, by omega, by omega, by go_num, by go_num, HD2, HW, hbw⟩
            case measure => omega
          · have HD2 : Hid (T = D ++ List.replicate (r / 16) tkLong ++ tkN (r % 16) x :: restT 0 (Z.drop (i + 1 + 1))) := by
              show _ = _
              rw [HD.out, HN.out, if_neg h0, List.append_assoc]
            have HDl : Hid (D.length + r / 16 + 1 ≤ 64) := by
              have h1 := Hlen.out
              rw [HD2.out] at h1
              simp only [List.length_append, List.length_replicate, List.length_cons] at h1
              show _ ≤ _; omega
            have hx0 : (x == 0) = false := by simpa using h0
            clear HD HN hx h0
            go_wp2_with fail
            rename World => W1
            go_loopg [9, 10] (r / 16) (fun gk v rv wr => ∃ j : Nat, gk = r / 16 - j ∧ j ≤ r / 16 ∧ rv = .int .i64 ((r - 16 * j : Nat) : Int) ∧ Owns w5.heap.size [tokRow v (D ++ List.replicate j tkLong)] wr ∧ Below w5.heap.size w5 wr)
            case atStart => exact ⟨0, rfl, by omega, rfl, by rw [List.replicate_zero, List.append_nil]; exact HW, hbw⟩
            case round =>
              obtain ⟨j, rfl, hj, rfl, HW2, hbw2⟩ := hrel
              by_cases hjl : j < r / 16
              · obtain ⟨m, hm⟩ : ∃ m : Nat, r - 16 * j = m + 16 := ⟨r - 16 * j - 16, by omega⟩
                rw [hm]
                have hmz : (16 : Int) ≤ ((m + 16 : Nat) : Int) := by omega
                have hm2 : m + 16 ≤ 63 := by omega
                go_wp2_with (first
                  | (refine wpList_ownK wr rfl (.tmp 46) (.tmp 48) rfl w5.heap.size u9 (D ++ List.replicate j tkLong) [] rfl HW2 240 0 0 rfl (by have := HDl.out; simp only [List.length_append, List.length_replicate]; omega) ?_; intro v' w' HO' hb' hs')
                  | fail)
                go_roundg (r / 16 - (j + 1))
                case rel => exact ⟨j + 1, rfl, by omega, by go_num, by rw [List.replicate_succ', ← List.append_assoc]; exact HO', hbw2.trans (hb'.mono (Nat.le_refl _))⟩
                case measure => omega
              · obtain rfl : j = r / 16 := by omega
                have hm : r - 16 * (r / 16) = r % 16 := by omega
                rw [hm]
                have hrl : r % 16 ≤ 15 := by omega
                have hcx2 : wr.cell? ⟨w3.heap.size, 1 + i, none⟩ = some (.int .i64 x) := by
                  rw [hbw2.cell (by simp; omega), ← hbw.cell (by simp; omega)]; exact hcx
                have HT1 := veil (HTK.out (r % 16) x wr hrl hxb.1 hxb.2)
                obtain ⟨⟨q0, q1, q2⟩, hq⟩ : ∃ t, t = tkN (r % 16) x := ⟨_, rfl⟩
                rw [← hq] at HD2 HT1
                clear hq hcx hm
                generalize r % 16 = r2 at *
                have hrn : ¬ (16 : Int) ≤ (r2 : Int) := by omega
                go_wp2_with fail
                refine HT1.out.mono ?_
                rintro e w7 ⟨rfl, hb7⟩
                have HW7 := HW2.below hb7
                have hb7' := hbw2.trans (hb7.mono hbw2.size)
                have HD3 : Hid (T = (D ++ List.replicate (r / 16) tkLong ++ [(q0, q1, q2)]) ++ restT 0 (Z.drop (i + 1 + 1))) := by
                  show _ = _
                  rw [HD2.out, List.append_assoc _ [(q0, q1, q2)]]; rfl
                clear HD2 HT1 hb7 HW2 hbw2
                simp only [tokV]
                go_wp2_with (first
                  | (refine wpList_ownK w7 rfl (.tmp 50) (.tmp 54) rfl w5.heap.size u9 (D ++ List.replicate (r / 16) tkLong) [] rfl HW7 q0 q1 q2 rfl (by have := HDl.out; simp only [List.length_append, List.length_replicate]; omega) ?_; intro v' w' HO' hb' hs')
                  | fail)
                go_roundg (63 - (i + 1))
                case rel => exact ⟨i + 1, 0, _, rfl, by omega, by omega, rfl, by go_num, HD3, HO', hb7'.trans hb'⟩
                case measure => omega
        · obtain rfl : i = 63 := by omega
          by_cases hl63 : 0 < r
          · have HD2 : Hid (T = D ++ [(0, 0, 0)]) := by
              show _ = _
              rw [HD.out, List.drop_of_length_le (by omega), restT_nil, if_neg (by omega)]; rfl
            have hDl : D.length + 1 ≤ 64 := by
              have h1 := Hlen.out
              rw [HD2.out, List.length_append, List.length_singleton] at h1
              exact h1
            have HDl := veil hDl
            have hrz : (0 : Int) < (r : Int) := by omega
            clear HD hDl
            go_wp2_with (first
              | (refine wpList_ownK wr rfl (.tmp 59) (.tmp 61) rfl w5.heap.size u9 D [] rfl HW 0 0 0 rfl (by have := HDl.out; omega) ?_; intro v' w' HO' hb' hs')
              | fail)
            go_ret2
            refine ⟨_, rfl, ?_, hf5.trans ((hbw.trans hb').mono hf5.size)⟩
            rw [HOe.out, HD2.out]
            exact HO'.down hf5.size
          · obtain rfl : r = 0 := by omega
            have HD2 : Hid (T = D) := by
              show _ = _
              rw [HD.out, List.drop_of_length_le (by omega), restT_nil, if_pos rfl, List.append_nil]
            clear HD
            go_wp2
            go_ret2
            refine ⟨_, rfl, ?_, hf5.trans (hbw.mono hf5.size)⟩
            rw [HOe.out, HD2.out]
            exact HW.down hf5.size
theorem tokens_any (b : Int) (cs : List Int) (w : World) (hc : cs.length = 64) :
    Calls Tryz.prog 67 #[.int .i64 b, blkV cs] w fun e w' => ∃ v, e = .returned (.tuple #[v, .int .i64 (eT b cs)]) ∧ Owns w.heap.size [tokRow v (oT b cs)] w' ∧ Below w.heap.size w w' := by
  by_cases hb : -2047 ≤ b ∧ b ≤ 2047
  · exact tokens_in b cs w hc hb
  · have e := eT_bad (b := b) (cs := cs) (fun h => hb ⟨h.1, h.2.1⟩)
    rw [oT_bad (by rw [e]; decide), e]
    exact tokens_bad1 b cs w hc (by omega)
end Go.Proofs.YtddkhkpdbjjboaaGreat

/- Parts of a slice of tokens. -/
namespace Go.Proofs.YtddkhkpdbjjboaaGreat
open Go.RowKit
set_option linter.unusedVariables false
set_option linter.unusedSimpArgs false
set_option maxRecDepth 100000

theorem run_cutT_to (A : Option Addr) (n c h : Nat) (h2 : h ≤ c) (u : World) : (Instr.sliceAt 102 (.slice A n c) none (some (.int .i64 (h : Int))) none).run Tryz.prog u = .ok (.slice A h c) u := by
  have he : Tryz.prog.underlying 102 = some (.slice (Tryz.prog.elem 102)) := by kernel_rfl
  have hz : (sizeOf (Tryz.prog.elem 102)).run Tryz.prog u = .ok 3 u := by kernel_rfl
  rw [run_sliceAt_slice _ _ _ _ _ _ he, run_slice_h _ _ _ _ _ he _ _ (by omega) (by omega), hz]
  simp [Result.andThen, sliced]
  intro _
  cases A with
  | none => rfl
  | some a => simp [Addr.add]
theorem cutT_take {w : World} {G k : Nat} {A : Option Addr} {l : List (Int × Int × Int)} (hs : Seen w G A (tokCells l)) : Seen w G A (tokCells (l.take k)) := by
  rcases hs with hs | ⟨g, o, rfl, hg, hcell⟩
  · left; rw [tokCells_take, hs, List.take_nil]
  · refine .inr ⟨g, o, rfl, hg, fun j u hu => hcell j u ?_⟩
    rw [tokCells_take, List.getElem?_take] at hu
    split at hu
    · exact hu
    · cases hu
end Go.Proofs.YtddkhkpdbjjboaaGreat

/- run's list of tokens as a source: the contract of its method next. -/
namespace Go.Proofs.YtddkhkpdbjjboaaGreat
open Go.RowKit
set_option linter.unusedVariables false
set_option linter.unusedSimpArgs false
set_option maxRecDepth 100000

/-- The source stands before token u of these: block g holds the slice, which lies below block G, and the number. -/
def PSrc (G g : Nat) (A : Option Addr) (c : Nat) (l : List (Int × Int × Int)) (w : World) (u : Nat) : Prop :=
  Blk w g [.slice A l.length c, .int .i64 (u : Int)] 135 ∧ Seen w G A (tokCells l) ∧ u ≤ l.length
theorem PSrc.below {G g B c u : Nat} {A : Option Addr} {w w' : World} {l : List (Int × Int × Int)} (h : PSrc G g A c l w u) (hb : Below B w w') (hg : g < B) (hG : G ≤ B) : PSrc G g A c l w' u :=
  ⟨h.1.below hb hg, h.2.1.below hb hG, h.2.2⟩
theorem PSrc.kept {G g b c u : Nat} {A : Option Addr} {w w' : World} {l : List (Int × Int × Int)} (h : PSrc G g A c l w u) (hg : w.grownBy w' (some b)) (hne : g ≠ b) (hG : G ≤ b) (hz : G ≤ w.heap.size) : PSrc G g A c l w' u :=
  ⟨h.1.kept hg (fun e => hne (by injection e)), h.2.1.grown hg hG hz, h.2.2⟩
def tok0 : List Value := [.int .i64 0, .int .i64 0, .int .i64 0]
theorem tok0_one : ∀ u ∈ tok0, u.oneCell' = true := by intro u hu; simp [tok0] at hu; subst hu; rfl
theorem tokv_one (a b c : Int) : ∀ u ∈ [Value.int .i64 a, .int .i64 b, .int .i64 c], u.oneCell' = true := by intro u hu; simp at hu; rcases hu with rfl | rfl | rfl <;> rfl
set_option maxHeartbeats 1000000 in
theorem pnext_none (G g c : Nat) (A : Option Addr) (l : List (Int × Int × Int)) (w : World) (hs : PSrc G g A c l w l.length) (hl : l.length ≤ maxLen) :
    Calls Tryz.prog 126 #[.pointer (some ⟨g, 0, none⟩)] w fun e w' => e = .returned (.tuple #[tokV (0, 0, 0), .bool false]) ∧ Below w.heap.size w w' := by
  obtain ⟨hB, hS, _⟩ := hs
  have hgz := hB.lt
  have hb := below1 w (.cells tok0.toArray 73)
  have hB1 := hB.below hb hgz
  have hBt := Blk.new w tok0 73
  have c0 := hB1.cell (i := 0) (v := .slice A l.length c) rfl
  have c1 := hB1.cell (i := 1) (v := .int .i64 (l.length : Int)) rfl
  obtain ⟨W, hW⟩ : ∃ W, W = w.alloc (.cells tok0.toArray 73) := ⟨_, rfl⟩
  have HW := veil hW
  rw [← hW] at c0 c1 hBt hb
  clear hB hB1 hS hW
  unfold tokV
  go_enter Tryz.func126, Tryz.ntmps126
  go_wp2_with fail
  rw [show w.alloc (.cells #[Value.int IntKind.i64 0, Value.int IntKind.i64 0, Value.int IntKind.i64 0] 73) = W from HW.out.symm]
  go_quiet (fail)
  go_wp2_with (first
    | (refine wpList_store_blk _ rfl 73 (.tmp 2) (.tmp 15) rfl w.heap.size tok0 tok0 73 (hBt.drewN _) rfl rfl info_tok rfl tok0_one ?_; intro w5 HB7 hg7)
    | fail)
  exact bodyPost_ret (results_row_tmp rfl _ _ w.heap.size 73 tok0.toArray (0, 0) _ (.bool false) rfl rfl HB7 Tryz.underlying73 rfl info_tok) rfl ⟨rfl, (hb.drewN _).grown hg7 hb.size (fun j hj => by injection hj with hj; omega)⟩
set_option maxHeartbeats 2000000 in
theorem pnext_some (G g c u : Nat) (A : Option Addr) (l : List (Int × Int × Int)) (t : Int × Int × Int) (w : World) (hs : PSrc G g A c l w u) (hG : G ≤ g) (hl : l.length ≤ maxLen) (ht : l[u]? = some t) :
    Calls Tryz.prog 126 #[.pointer (some ⟨g, 0, none⟩)] w fun e w' => e = .returned (.tuple #[tokV t, .bool true]) ∧ w.grownBy w' (some g) ∧ PSrc G g A c l w' (u + 1) := by
  obtain ⟨hB, hS, hu⟩ := hs
  have hul : u < l.length := (List.getElem?_eq_some_iff.1 ht).1
  have hgz := hB.lt
  obtain ⟨g2, o, p0, p1, p2, rfl, hg2, ht2, d0, d1, d2⟩ := hS.tok (k := u) hul
  obtain rfl : t = (p0, p1, p2) := by rw [ht] at ht2; injection ht2
  have hb := below1 w (.cells tok0.toArray 73)
  have hB1 := hB.below hb hgz
  have hBt := Blk.new w tok0 73
  have c0 := hB1.cell (i := 0) (v := .slice (some ⟨g2, o, none⟩) l.length c) rfl
  have c1 := hB1.cell (i := 1) (v := .int .i64 (u : Int)) rfl
  rw [← hb.cell (by simp; omega)] at d0 d1 d2
  obtain ⟨W, hW⟩ : ∃ W, W = w.alloc (.cells tok0.toArray 73) := ⟨_, rfl⟩
  have HW := veil hW
  rw [← hW] at c0 c1 hBt hb hB1 d0 d1 d2
  have hulz : (u : Int) < (l.length : Int) := by omega
  have hune : ((u : Int) == (l.length : Int)) = false := by simp; omega
  clear hB hW ht ht2
  unfold tokV
  go_enter Tryz.func126, Tryz.ntmps126
  go_wp2_with fail
  rw [show w.alloc (.cells #[Value.int IntKind.i64 0, Value.int IntKind.i64 0, Value.int IntKind.i64 0] 73) = W from HW.out.symm]
  go_quiet (fail)
  have hgW : g < W.heap.size := hB1.lt
  have hb2 := below1 (W.drewN (nq + 1)) (.cells tok0.toArray 73)
  have e0 := (hb2.cell (p := ⟨g, 0, none⟩) hgW).trans c0
  have e1 := (hb2.cell (p := ⟨g, 1, none⟩) hgW).trans c1
  have hg2W : g2 < W.heap.size := by omega
  have f0 := (hb2.cell (p := ⟨g2, o + u * 3, none⟩) hg2W).trans d0
  have f1 := (hb2.cell (p := ⟨g2, o + u * 3 + 1, none⟩) hg2W).trans d1
  have f2 := (hb2.cell (p := ⟨g2, o + u * 3 + 2, none⟩) hg2W).trans d2
  have hBn : Blk ((W.drewN (nq + 1)).alloc (.cells tok0.toArray 73)) W.heap.size tok0 73 := Blk.new (W.drewN (nq + 1)) tok0 73
  have n0 := hBn.cell (i := 0) (v := .int .i64 0) rfl
  have z0 := hBn.frozen 0
  have hBn1 := hBn.set 0 (.int .i64 p0)
  have n1 := hBn1.cell (i := 1) (v := .int .i64 0) rfl
  have z1 := hBn1.frozen 1
  have hBn2 := hBn1.set 1 (.int .i64 p1)
  have n2 := hBn2.cell (i := 2) (v := .int .i64 0) rfl
  have z2 := hBn2.frozen 2
  simp only [tok0] at e0 e1 f0 f1 f2 n0 n1 n2 z0 z1 z2
  clear hb2
  go_wp2_with fail
  go_big_region
  have hBn3 := hBn2.set 2 (.int .i64 p2)
  have hbV : Below W.heap.size W ((((((W.drewN (nq + 1)).alloc (.cells tok0.toArray 73)).setCell ⟨W.heap.size, 0, none⟩ (.int .i64 p0)).setCell ⟨W.heap.size, 1, none⟩ (.int .i64 p1)).setCell ⟨W.heap.size, 2, none⟩ (.int .i64 p2))) :=
    ((((((Below.refl W.heap.size W).drewN (nq + 1)).alloc (Nat.le_refl _) _).grown (grown_setCell _ _ _ _) (by simp) (fun j hj => by injection hj with hj; omega)).grown (grown_setCell _ _ _ _) (by simp [World.setCell]) (fun j hj => by injection hj with hj; omega)).grown (grown_setCell _ _ _ _) (by simp [World.setCell]) (fun j hj => by injection hj with hj; omega))
  simp only [tok0] at hBn3 hbV
  obtain ⟨V, hV⟩ : ∃ V, V = (((((W.drewN (nq + 1)).alloc (.cells #[.int .i64 0, .int .i64 0, .int .i64 0] 73)).setCell ⟨W.heap.size, 0, none⟩ (.int .i64 p0)).setCell ⟨W.heap.size, 1, none⟩ (.int .i64 p1)).setCell ⟨W.heap.size, 2, none⟩ (.int .i64 p2)) := ⟨_, rfl⟩
  rw [← hV] at hBn3 hbV ⊢
  have hBg := hB1.below hbV hgW
  have hwW : w.heap.size < W.heap.size := by rw [HW.out]; simp
  have hBtV := hBt.below hbV hwW
  have k1 := hBg.cell (i := 1) (v := .int .i64 (u : Int)) rfl
  have y1 := hBg.frozen 1
  have hBg2 := hBg.set 1 (.int .i64 ((u : Int) + 1))
  have hg4 := grown_setCell V g 1 (.int .i64 ((u : Int) + 1))
  have hBn4 := hBn3.kept hg4 (by simp; omega)
  have hBt4 := hBtV.kept hg4 (by simp; omega)
  have m0 := hBn4.cell (i := 0) (v := .int .i64 p0) rfl
  have m1 := hBn4.cell (i := 1) (v := .int .i64 p1) rfl
  have m2 := hBn4.cell (i := 2) (v := .int .i64 p2) rfl
  have hgV : w.grownBy V (some g) := grown_below (grown_below (World.grownBy.refl _ _) hb (Nat.le_refl _)) hbV (by omega)
  have hgV4 : w.grownBy (V.setCell ⟨g, 1, none⟩ (.int .i64 ((u : Int) + 1))) (some g) := by
    refine ⟨hgV.os, hgV.tape, hgV.output, by have := hgV.size; simpa [World.setCell] using this, fun i hi hr => ?_⟩
    rw [Below.heap_setCell _ _ _ _ (fun e => hr (by rw [e]))]
    exact hgV.block i hi hr
  have hum : (u : Int) + 1 ≤ 9223372036854775807 := by unfold maxLen at hl; omega
  clear hV n0 n1 n2 z0 z1 z2 e0 e1 f0 f1 f2 hBn hBn1 hBn2 hBn3 c0 c1 d0 d1 d2 HW
  go_wp2_with (first
    | (refine wpList_store_blk (V.setCell ⟨g, 1, none⟩ (.int .i64 ((u : Int) + 1))) rfl 73 (.tmp 2) (.tmp 33) rfl w.heap.size tok0 [.int .i64 p0, .int .i64 p1, .int .i64 p2] 73 hBt4 rfl rfl info_tok rfl (tokv_one _ _ _) ?_; intro w5 HB7 hg7)
    | fail)
  refine bodyPost_ret (results_row_tmp rfl _ _ w.heap.size 73 #[.int .i64 p0, .int .i64 p1, .int .i64 p2] (0, 0) _ (.bool true) rfl rfl HB7 Tryz.underlying73 rfl info_tok) rfl ⟨rfl, grown_grown hgV4 hg7 (Nat.le_refl _), ?_⟩
  have hg8 := grown_grown hgV4 hg7 (Nat.le_refl _)
  refine ⟨?_, hS.grown hg8 hG (by omega), by omega⟩
  have := hBg2.kept hg7 (by simp; omega)
  exact this
end Go.Proofs.YtddkhkpdbjjboaaGreat

/- run.readFirst and run.readRest over a list of tokens: their contracts. -/
namespace Go.Proofs.YtddkhkpdbjjboaaGreat
open Go.RowKit
set_option linter.unusedVariables false
set_option linter.unusedSimpArgs false
set_option maxRecDepth 100000

abbrev srcV (g : Nat) : Value := .iface 133 (.pointer (some ⟨g, 0, none⟩))
set_option maxHeartbeats 1000000 in
theorem first_none (b : Int) (G g c : Nat) (A : Option Addr) (l : List (Int × Int × Int)) (w : World) (hs : PSrc G g A c l w l.length) (hl : l.length ≤ maxLen) :
    Calls Tryz.prog 89 #[.int .i64 b, srcV g] w fun e w' => e = .returned (.tuple #[.int .i64 0, .int .i64 3]) ∧ w.grownBy w' (some g) := by
  have HN := veil (pnext_none G g c A l w hs hl)
  clear hs
  unfold tokV at HN
  go_enter Tryz.func89, Tryz.ntmps89
  go_wp2_with fail
  refine HN.out.mono ?_
  rintro e w1 ⟨rfl, hb1⟩
  go_wp2
  go_ret2
  exact ⟨rfl, grown_below (grown_below (World.grownBy.refl _ _) hb1 (Nat.le_refl _)) (below1 _ _) hb1.size⟩
/-- A token of the source, and a box for it. -/
theorem boxed_tok {G g c u : Nat} {A : Option Addr} {l : List (Int × Int × Int)} {w w1 : World} (hg1 : w.grownBy w1 (some g)) (hs1 : PSrc G g A c l w1 u) (hG : G ≤ g) (hgw : g < w.heap.size) (xs : List Value) (t : TypeId) :
    w.grownBy (w1.alloc (.cells xs.toArray t)) (some g) ∧ PSrc G g A c l (w1.alloc (.cells xs.toArray t)) u := by
  have h := hg1.size
  exact ⟨grown_below hg1 (below1 w1 _) h, hs1.below (below1 w1 _) (by omega) (by omega)⟩
set_option maxHeartbeats 2000000 in
theorem first_bad (b : Int) (G g c u : Nat) (A : Option Addr) (l : List (Int × Int × Int)) (t : Int × Int × Int) (w : World) (hb : -2047 ≤ b ∧ b ≤ 2047) (hs : PSrc G g A c l w u) (hG : G ≤ g) (hl : l.length ≤ maxLen) (ht : l[u]? = some t) (hf : ¬ firstT b t) :
    Calls Tryz.prog 89 #[.int .i64 b, srcV g] w fun e w' => e = .returned (.tuple #[.int .i64 0, .int .i64 4]) ∧ w.grownBy w' (some g) := by
  have HN := veil (pnext_some G g c u A l t w hs hG hl ht)
  have hgw := hs.1.lt
  obtain ⟨p0, p1, p2⟩ := t
  have HBk := veil (fun W => back_any p1 p2 W)
  clear hs ht
  unfold tokV at HN
  by_cases h1 : p1 = p0
  · subst h1
    by_cases h2 : 12 < p1
    · go_enter Tryz.func89, Tryz.ntmps89
      go_wp2_with fail
      refine HN.out.mono ?_
      rintro e w1 ⟨rfl, hg1, hs1⟩
      obtain ⟨hg2, hs2⟩ := boxed_tok hg1 hs1 hG hgw [.int .i64 p1, .int .i64 p1, .int .i64 p2] 73
      go_wp2
      go_ret2
      exact ⟨rfl, hg2⟩
    · by_cases h3 : 0 ≤ p1 ∧ p1 ≤ 12 ∧ 0 ≤ p2 ∧ p2 < pw p1.toNat
      · have hq : ¬ (-2047 ≤ b + numT (p1, p1, p2) ∧ b + numT (p1, p1, p2) ≤ 2047) := fun h => hf ⟨by unfold fitT; exact decide_eq_true h3, rfl, h⟩
        have e1 : eB p1 p2 = 0 := if_pos h3
        have e2 : oB p1 p2 = numT (p1, p1, p2) := if_pos h3
        have hn : -4095 ≤ numT (p1, p1, p2) ∧ numT (p1, p1, p2) ≤ 4095 := by
          have h7 := bk_in h3.2.2.1 h3.2.2.2
          have h8 := pw_mono (a := p1.toNat) (b := 12) (by omega)
          have h9 : pw 12 = 4096 := by decide
          unfold numT; simp only []; omega
        rw [e1, e2] at HBk
        generalize numT (p1, p1, p2) = n at *
        have HC := veil (fun W => coef_no (b + n) (by omega) W)
        clear hf h3 e1 e2
        go_enter Tryz.func89, Tryz.ntmps89
        go_wp2_with fail
        refine HN.out.mono ?_
        rintro e w1 ⟨rfl, hg1, hs1⟩
        obtain ⟨hg2, hs2⟩ := boxed_tok hg1 hs1 hG hgw [.int .i64 p1, .int .i64 p1, .int .i64 p2] 73
        go_wp2_with fail
        refine (HBk.out _).mono ?_
        rintro e w2 ⟨rfl, rfl⟩
        go_wp2_with fail
        refine (HC.out _).mono ?_
        rintro e w2 ⟨rfl, rfl⟩
        go_wp2
        go_ret2
        exact ⟨rfl, hg2⟩
      · rw [eB_bad h3, oB_bad h3] at HBk
        clear hf h3
        go_enter Tryz.func89, Tryz.ntmps89
        go_wp2_with fail
        refine HN.out.mono ?_
        rintro e w1 ⟨rfl, hg1, hs1⟩
        obtain ⟨hg2, hs2⟩ := boxed_tok hg1 hs1 hG hgw [.int .i64 p1, .int .i64 p1, .int .i64 p2] 73
        go_wp2_with fail
        refine (HBk.out _).mono ?_
        rintro e w2 ⟨rfl, rfl⟩
        go_wp2
        go_ret2
        exact ⟨rfl, hg2⟩
  · have hne : (p1 != p0) = true := by simpa using h1
    go_enter Tryz.func89, Tryz.ntmps89
    go_wp2_with fail
    refine HN.out.mono ?_
    rintro e w1 ⟨rfl, hg1, hs1⟩
    obtain ⟨hg2, hs2⟩ := boxed_tok hg1 hs1 hG hgw [.int .i64 p0, .int .i64 p1, .int .i64 p2] 73
    go_wp2
    go_ret2
    exact ⟨rfl, hg2⟩
set_option maxHeartbeats 2000000 in
theorem first_ok (b : Int) (G g c u : Nat) (A : Option Addr) (l : List (Int × Int × Int)) (t : Int × Int × Int) (w : World) (hb : -2047 ≤ b ∧ b ≤ 2047) (hs : PSrc G g A c l w u) (hG : G ≤ g) (hl : l.length ≤ maxLen) (ht : l[u]? = some t) (hf : firstT b t) :
    Calls Tryz.prog 89 #[.int .i64 b, srcV g] w fun e w' => e = .returned (.tuple #[.int .i64 (b + numT t), .int .i64 0]) ∧ w.grownBy w' (some g) ∧ PSrc G g A c l w' (u + 1) := by
  have HN := veil (pnext_some G g c u A l t w hs hG hl ht)
  have hgw := hs.1.lt
  obtain ⟨p0, p1, p2⟩ := t
  have HBk := veil (fun W => back_any p1 p2 W)
  clear hs ht
  unfold tokV at HN
  obtain ⟨h3, h1, hq⟩ := hf
  have h1 : p0 = p1 := h1
  subst h1
  unfold fitT at h3
  have h3 := of_decide_eq_true h3
  simp only [] at h3
  have e1 : eB p0 p2 = 0 := if_pos h3
  have e2 : oB p0 p2 = numT (p0, p0, p2) := if_pos h3
  have hn : -4095 ≤ numT (p0, p0, p2) ∧ numT (p0, p0, p2) ≤ 4095 := by
    have h7 := bk_in h3.2.2.1 h3.2.2.2
    have h8 := pw_mono (a := p0.toNat) (b := 12) (by omega)
    have h9 : pw 12 = 4096 := by decide
    unfold numT; simp only []; omega
  rw [e1, e2] at HBk
  generalize numT (p0, p0, p2) = n at *
  have HC := veil (fun W => coef_yes (b + n) hq W)
  have h2 : ¬ 12 < p0 := by omega
  clear h3 e1 e2
  go_enter Tryz.func89, Tryz.ntmps89
  go_wp2_with fail
  refine HN.out.mono ?_
  rintro e w1 ⟨rfl, hg1, hs1⟩
  obtain ⟨hg2, hs2⟩ := boxed_tok hg1 hs1 hG hgw [.int .i64 p0, .int .i64 p0, .int .i64 p2] 73
  go_wp2_with fail
  refine (HBk.out _).mono ?_
  rintro e w2 ⟨rfl, rfl⟩
  go_wp2_with fail
  refine (HC.out _).mono ?_
  rintro e w2 ⟨rfl, rfl⟩
  go_wp2
  go_ret2
  exact ⟨rfl, hg2, hs2⟩
set_option maxHeartbeats 1000000 in
theorem rest_none (G g c : Nat) (A : Option Addr) (l : List (Int × Int × Int)) (w : World) (hs : PSrc G g A c l w l.length) (hl : l.length ≤ maxLen) :
    Calls Tryz.prog 90 #[srcV g] w fun e w' => e = .returned (.tuple #[.int .i64 0, .int .i64 0, .int .i64 3]) ∧ w.grownBy w' (some g) := by
  have HN := veil (pnext_none G g c A l w hs hl)
  clear hs
  unfold tokV at HN
  go_enter Tryz.func90, Tryz.ntmps90
  go_wp2_with fail
  refine HN.out.mono ?_
  rintro e w1 ⟨rfl, hb1⟩
  go_wp2
  go_ret3
  exact ⟨rfl, grown_below (grown_below (World.grownBy.refl _ _) hb1 (Nat.le_refl _)) (below1 _ _) hb1.size⟩
end Go.Proofs.YtddkhkpdbjjboaaGreat
