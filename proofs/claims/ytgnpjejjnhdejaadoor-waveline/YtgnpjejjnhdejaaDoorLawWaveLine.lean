/- The law WaveLine, walked: what is alike in all rows has nothing below the first. -/
import Derived.Test.YtgnpjejjnhdejaaDoorWLaw
import Derived.Test.YtgnpjejjnhdejaaDoorOpen
namespace Go.Proofs.YtgnpjejjnhdejaaDoor
open Go.RowKit
set_option linter.unusedVariables false
set_option linter.unusedSimpArgs false

/-- The number of a column. -/
def lineV (l : List Int) (j : Nat) : Int := if j < l.length then l.getD j 0 % 80001 - 40000 else 0
def lnK (l : List Int) (k : Nat) : List Int := mapK (fun i _ => lineV l (i % 8)) zero64 k
theorem lnK_length (l : List Int) (k : Nat) : (lnK l k).length = 64 := mapK_length _ _ _
theorem lnK_next (l : List Int) {k : Nat} (hk : k < 64) : lnK l (k + 1) = (lnK l k).set k (lineV l (k % 8)) := mapK_next (x := 0) hk (by rw [zero64, List.getElem?_replicate, if_pos hk])
theorem lnK_same (l : List Int) {k : Nat} (hk : k < 64) : (lnK l k)[k]? = some 0 := by
  unfold lnK mapK
  rw [List.getElem?_map, List.getElem?_range hk]; simp
theorem lnK_skip (l : List Int) {k : Nat} (hk : k < 64) (h : ¬ k % 8 < l.length) : lnK l (k + 1) = lnK l k := by
  rw [lnK_next l hk]
  have e : lineV l (k % 8) = 0 := if_neg h
  rw [e]
  apply List.ext_getElem?
  intro i
  by_cases e : k = i
  · subst e; rw [List.getElem?_set_self (by rw [lnK_length]; omega), lnK_same l hk]
  · rw [List.getElem?_set_ne e]
theorem lnK_getD (l : List Int) {k : Nat} (hk : k < 64) : (lnK l 64).getD k 0 = lineV l (k % 8) := by
  rw [List.getD_eq_getElem?_getD]
  unfold lnK mapK
  rw [List.getElem?_map, List.getElem?_range hk]; simp [hk]
theorem ln_bad (l : List Int) : badB (-40000) 40000 (lnK l 64) = 0 := by
  unfold badB
  rw [if_pos]
  rw [getD_mem (lnK_length l 64)]
  intro k hk
  rw [lnK_getD l hk]
  unfold lineV
  split <;> omega
theorem ln_zero (l : List Int) {i : Nat} (h1 : 8 ≤ i) (h2 : i < 64) : (oTo (lnK l 64))[i]? = some 0 := by
  rw [oTo_ok (ln_bad l), wTo_at _ h2, toN_line (l := lineV l) (fun k hk => lnK_getD l hk) h1 h2, rnd_zero (by omega)]
set_option maxHeartbeats 4000000 in
set_option maxRecDepth 100000 in
theorem waveLine_walk (A : Option Addr) (c : Nat) (l : List Int) (w : World) (Q : Quart w) (hs : Seen w w.heap.size A (ints .i64 l)) (hlw : ∀ x ∈ l, (Lit.int .i64 x).wf = true) (hll : l.length ≤ maxLen) :
    Calls Tryd.prog 13 #[.slice A l.length c] w fun e w' => e = .returned (.bool true) ∧ Below w.heap.size w w' := by
  have hn0 := Nat.le_refl w.heap.size
  have hlz : (l.length : Int) ≤ 9223372036854775807 := by unfold maxLen at hll; omega
  have Hlm : Hid ((ints .i64 (lnK l 64)).length = 64) := by show _ = _; rw [ints_length, lnK_length]
  have L1 : Hid ((ints .i64 (oTo (lnK l 64))).length = 64) := by show _ = _; rw [ints_length, oTo_length]
  have O1 := ints_one (k := .i64) (l := oTo (lnK l 64))
  have HK := veil (waved_any w Q)
  have C1 := veil (fun W hQ => to_any (lnK l 64) W (lnK_length l 64) hQ)
  rw [ln_bad l] at C1
  have HF : Hid (∀ i, 8 ≤ i → i < 64 → (ints .i64 (oTo (lnK l 64)))[i]? = some (.int .i64 0)) := fun i h1 h2 => ints_at (ln_zero l h1 h2)
  have Hs : Hid (∀ (k : Nat) (x : Int), k < 64 → k % 8 < l.length → l[k % 8]? = some x → (ints .i64 (lnK l k)).set k (.int .i64 (x % 80001 - 40000)) = ints .i64 (lnK l (k + 1))) := by
    intro k x hk h8 hx
    rw [lnK_next l hk, lineV, if_pos h8, List.getD_eq_getElem?_getD, hx]; simp [ints, List.map_set]
  have Hk : Hid (∀ k : Nat, k < 64 → ¬ k % 8 < l.length → ints .i64 (lnK l (k + 1)) = ints .i64 (lnK l k)) := fun k hk h => by rw [lnK_skip l hk h]
  have Hz : Hid (∀ k : Nat, k < 64 → (ints .i64 (lnK l k))[k]? = some (.int .i64 0)) := fun k hk => ints_at (lnK_same l hk)
  have H0 : Hid (ints .i64 (lnK l 0) = zeroB) := by show _ = _; rw [lnK, mapK_zero]; rfl
  have HR : Hid (∀ (x : Int) (W : World), x ∈ l → Calls Tryd.prog 21 #[.int .i64 x, .int .i64 80001] W fun e w' => e = .returned (.int .i64 (x % 80001)) ∧ W = w') := fun x W hx => rest_any x 80001 W (by omega) (by omega) (bounds_i64 (hlw x hx))
  clear hlw
  unfold blkV at *
  generalize ints .i64 (oTo (lnK l 64)) = m1 at *
  go_enter Tryd.func13, Tryd.ntmps13
  go_wp2_with fail
  refine HK.out.mono ?_
  rintro e w0 ⟨rfl, hb1⟩
  have B2 := veil (Blk.new w0 zeroB 28)
  have hbw := hb1.trans ((below1 w0 (.cells zeroB.toArray 28)).mono hb1.size)
  have hz0 := hb1.size
  clear hb1 HK
  go_wp2_with fail
  go_loopg [10] 64 (fun gk i wr => ∃ k : Nat, gk = 64 - k ∧ k ≤ 64 ∧ i = .int .i64 (k : Int) ∧ Hid (Blk wr w0.heap.size (ints .i64 (lnK l k)) 28) ∧ Below w.heap.size w wr)
  case atStart => exact ⟨0, rfl, by omega, rfl, veil (by rw [H0.out]; exact B2.out), hbw⟩
  case round =>
    clear B2 hbw H0
    obtain ⟨k, rfl, hk, rfl, D2, hbr⟩ := hrel
    by_cases hlt : k < 64
    · have hltz : (k : Int) < 64 := by omega
      have t1 : (k : Int).tmod 8 = ((k % 8 : Nat) : Int) := by rw [Int.tmod_eq_emod_of_nonneg (by omega)]; omega
      have s1 : (k : Int) % 8 = ((k % 8 : Nat) : Int) := by omega
      by_cases h8 : k % 8 < l.length
      · obtain ⟨g, o, x, rfl, hg, hx, hcx⟩ := (hs.below hbr (Nat.le_refl _)).int h8
        have HR' := veil (HR.out x wr (List.mem_of_getElem? hx))
        have hcy := D2.out.cell (Hz.out k hlt)
        have hfy := D2.out.frozen k
        have hgr : wr.grownBy (wr.setCell ⟨w0.heap.size, k, none⟩ (.int .i64 (x % 80001 - 40000))) (some w0.heap.size) :=
          ⟨rfl, rfl, rfl, by simp [World.setCell], fun i _ hi => Below.heap_setCell _ _ _ _ (fun e => hi (by rw [e]))⟩
        have D2' : Hid (Blk (wr.setCell ⟨w0.heap.size, k, none⟩ (.int .i64 (x % 80001 - 40000))) w0.heap.size (ints .i64 (lnK l (k + 1))) 28) := by
          have := D2.out.set k (.int .i64 (x % 80001 - 40000))
          rw [Hs.out k x hlt h8 hx] at this
          exact this
        have hbr' : Below w.heap.size w (wr.setCell ⟨w0.heap.size, k, none⟩ (.int .i64 (x % 80001 - 40000))) := hbr.grown hgr hbr.size (fun j hj => by injection hj with hj; omega)
        have hq1 : 0 ≤ x % 80001 := by omega
        have hq2 : x % 80001 < 80001 := by omega
        clear D2 hgr hbr hx HF C1 Hs HR Hk Hz hs
        generalize x % 80001 = q at *
        generalize k % 8 = a at *
        have h8z : (a : Int) < (l.length : Int) := by omega
        go_wp2_with fail
        refine HR'.out.mono ?_
        rintro e w5 ⟨rfl, rfl⟩
        go_wp2_with fail
        go_roundg (64 - (k + 1))
        case rel => exact ⟨k + 1, rfl, by omega, by go_num, D2', hbr'⟩
        case measure => omega
      · have D2' : Hid (Blk wr w0.heap.size (ints .i64 (lnK l (k + 1))) 28) := by rw [Hk.out k hlt h8]; exact D2
        clear D2 HF C1 Hs HR Hk Hz
        generalize k % 8 = a at *
        have h8z : ¬ (a : Int) < (l.length : Int) := by omega
        go_wp2_with fail
        go_roundg (64 - (k + 1))
        case rel => exact ⟨k + 1, rfl, by omega, by go_num, D2', hbr⟩
        case measure => omega
    · obtain rfl : k = 64 := by omega
      clear Hs HR Hk Hz hs
      have r0 := D2.out.range
      generalize ints .i64 (lnK l 64) = ms at *
      rename World => W0
      have C1' := veil (C1.out W0 (Q.after hbr))
      go_wp2_with (first
        | (refine wpList_load_mid rfl 28 (.tmp 3) rfl (w0.heap.size) 0 rfl ms _ r0 Tryd.underlying28 rfl (info_blkn Hlm.out) ?_)
        | fail)
      refine C1'.out.mono ?_
      rintro e w1 ⟨rfl, hb1⟩
      have K3 := veil (Blk.new w1 m1 28)
      have hbv := below_step hbr hn0 hb1 (.cells m1.toArray 28)
      clear r0 D2 hbr hb1 C1 C1'
      go_upto_region 11 with (first
        | (refine wpList_store_new w1 rfl 28 (.tmp 5) (.tmp 31) rfl _ m1 rfl rfl (info_blkn L1.out) (by rw [L1.out]; rfl) O1 ?_)
        | fail)
      go_wp2_with fail
      go_loopg [7] 56 (fun gk i wr => ∃ k : Nat, gk = 64 - k ∧ 8 ≤ k ∧ k ≤ 64 ∧ i = .int .i64 (k : Int) ∧ Hid (Blk wr w1.heap.size m1 28) ∧ Below w.heap.size w wr)
      case atStart => exact ⟨8, rfl, by omega, by omega, rfl, K3, hbv⟩
      case round =>
        clear K3 hbv
        obtain ⟨k, rfl, hk8, hk, rfl, G1, hbr⟩ := hrel
        by_cases hlt : k < 64
        · have hltz : (k : Int) < 64 := by omega
          have hc1 := G1.out.cell (HF.out k hk8 hlt)
          clear HF
          go_wp2_with fail
          go_roundg (64 - (k + 1))
          case rel => exact ⟨k + 1, rfl, by omega, by omega, by go_num, G1, hbr⟩
          case measure => omega
        · obtain rfl : k = 64 := by omega
          go_wp2
          go_ret
          exact ⟨rfl, hbr⟩
end Go.Proofs.YtgnpjejjnhdejaaDoor
