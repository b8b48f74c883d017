/- The law WaveFlat, walked: what is flat everywhere is one number. -/
import Derived.Test.YtgnpjejjnhdejaaDoorWLaw
namespace Go.Proofs.YtgnpjejjnhdejaaDoor
open Go.RowKit
set_option linter.unusedVariables false
set_option linter.unusedSimpArgs false

theorem flat_bad {n : Int} (h1 : -1000 ≤ n) (h2 : n ≤ 1000) : badB (-40000) 40000 (onesL n) = 0 := by
  unfold badB
  rw [if_pos]
  rw [getD_mem (onesL_length n)]
  intro k hk
  rw [List.getD_eq_getElem?_getD, onesL_at hk]
  show -40000 ≤ n ∧ n ≤ 40000
  omega
theorem flat_to {n : Int} (h1 : -1000 ≤ n) (h2 : n ≤ 1000) {i : Nat} (hi : i < 64) : (oTo (onesL n))[i]? = some (rnd (if i = 0 then 536756224 * n else 0) 67108864) := by
  rw [oTo_ok (flat_bad h1 h2), wTo_at _ hi, toN_flat (n := n) (fun k hk => by rw [List.getD_eq_getElem?_getD, onesL_at hk]; rfl) hi]
def headL (n : Int) : List Int := n :: List.replicate 63 0
theorem headL_getD (n : Int) {k : Nat} (hk : k < 64) : (headL n).getD k 0 = if k = 0 then n else 0 := by
  cases k with
  | zero => rfl
  | succ k => rw [List.getD_eq_getElem?_getD, headL, List.getElem?_cons_succ, List.getElem?_replicate, if_pos (by omega), if_neg (by omega)]; rfl
theorem headL_length (n : Int) : (headL n).length = 64 := by simp [headL]
theorem head_bad {n : Int} (h1 : -1000 ≤ n) (h2 : n ≤ 1000) : badB (-40000) 40000 (headL n) = 0 := by
  unfold badB
  rw [if_pos]
  rw [getD_mem (headL_length n)]
  intro k hk
  rw [headL_getD n hk]
  split <;> omega
theorem head_fr {n : Int} (h1 : -1000 ≤ n) (h2 : n ≤ 1000) {i : Nat} (hi : i < 64) : (oFr (headL n))[i]? = some (rnd (n * (2896 * 2896)) 67108864) := by
  rw [oFr_ok (head_bad h1 h2), wFr_at _ hi, frN_one (a := 0) (by omega) (fun k hk h => by rw [headL_getD n hk, if_neg h]), headL_getD n (by omega), if_pos rfl]
  rfl
set_option maxHeartbeats 4000000 in
set_option maxRecDepth 100000 in
theorem waveFlat_walk (a : Int) (w : World) (Q : Quart w) (ha : -9223372036854775808 ≤ a ∧ a ≤ 9223372036854775807) :
    Calls Tryd.prog 6 #[.int .i64 a] w fun e w' => e = .returned (.bool true) ∧ Below w.heap.size w w' := by
  have hn0 := Nat.le_refl w.heap.size
  have HK := veil (waved_any w Q)
  have R1 := veil (fun W => rest_any a 2001 W (by omega) (by omega) ha)
  obtain ⟨n, hn⟩ : ∃ n, n = a % 2001 - 1000 := ⟨_, rfl⟩
  have hn1 : -1000 ≤ n := by omega
  have hn2 : n ≤ 1000 := by omega
  rw [show a % 2001 = n + 1000 by omega] at R1
  clear hn ha
  have hwm : wrap64 (n + 1000 - 1000) = n := by unfold wrap64; omega
  have hwm2 : wrap64 n = n := by unfold wrap64; omega
  have hw8 : wrap64 (8 * n) = 8 * n := by unfold wrap64; omega
  have L1 : Hid ((ints .i64 (oTo (onesL n))).length = 64) := by show _ = _; rw [ints_length, oTo_length]
  have L2 : Hid ((ints .i64 (oFr (headL n))).length = 64) := by show _ = _; rw [ints_length, oFr_length]
  have O1 := ints_one (k := .i64) (l := oTo (onesL n))
  have O2 := ints_one (k := .i64) (l := oFr (headL n))
  have C0 := veil (fun W => ones_any n W)
  have C1 := veil (fun W hQ => to_any (onesL n) W (onesL_length n) hQ)
  have C2 := veil (fun W hQ => from_any (headL n) W (headL_length n) hQ)
  rw [flat_bad hn1 hn2] at C1
  rw [head_bad hn1 hn2] at C2
  have HN := flat_near hn1 hn2
  have F1 : Hid (∀ i, 0 < i → i < 64 → (ints .i64 (oTo (onesL n)))[i]? = some (.int .i64 0)) := fun i h h' => ints_at (by rw [flat_to hn1 hn2 h', if_neg (by omega), rnd_zero (by omega)])
  have F0 : Hid ((ints .i64 (oTo (onesL n)))[0]? = some (.int .i64 (rnd (536756224 * n) 67108864))) := ints_at (by rw [flat_to hn1 hn2 (by omega), if_pos rfl])
  have F2 : Hid (∀ i, i < 64 → (ints .i64 (oFr (headL n)))[i]? = some (.int .i64 (rnd (n * (2896 * 2896)) 67108864))) := fun i h => ints_at (head_fr hn1 hn2 h)
  unfold blkV at *
  generalize rnd (n * (2896 * 2896)) 67108864 = v at *
  generalize rnd (536756224 * n) 67108864 = u at *
  generalize ints .i64 (oFr (headL n)) = m2 at *
  generalize ints .i64 (oTo (onesL n)) = m1 at *
  generalize ints .i64 (onesL n) = os at *
  go_enter Tryd.func6, Tryd.ntmps6
  go_wp2_with fail
  refine HK.out.mono ?_
  rintro e w0 ⟨rfl, hb0⟩
  go_wp2_with fail
  refine (R1.out _).mono ?_
  rintro e w1 ⟨rfl, rfl⟩
  go_wp2_with fail
  refine (C0.out _).mono ?_
  rintro e w1 ⟨rfl, hb1⟩
  have hbA := hb0.trans (hb1.mono hb0.size)
  have C1' := veil (C1.out _ (Q.after hbA))
  clear R1 HK C0 C1 hb0 hb1
  go_wp2_with fail
  refine C1'.out.mono ?_
  rintro e w2 ⟨rfl, hb2⟩
  have E1 := Blk.new w2 m1 28
  have hbB := below_step hbA hn0 hb2 (.cells m1.toArray 28)
  have C2' := veil (C2.out _ (Q.after hbB))
  clear C1' C2 hbA hb2
  go_upto_region 5 with (first
    | (refine wpList_store_new w2 rfl 28 (.tmp 3) (.tmp 17) rfl _ m1 rfl rfl (info_blkn L1.out) (by rw [L1.out]; rfl) O1 ?_)
    | fail)
  go_wp2_with fail
  refine C2'.out.mono ?_
  rintro e w3 ⟨rfl, hb3⟩
  have K3 := veil (E1.step hb3 (.cells m2.toArray 28))
  have K4 := veil (Blk.new w3 m2 28)
  have hbv := below_step hbB hn0 hb3 (.cells m2.toArray 28)
  clear C2' E1 hbB hb3
  go_upto_region 6 with (first
    | (refine wpList_store_new w3 rfl 28 (.tmp 5) (.tmp 23) rfl _ m2 rfl rfl (info_blkn L2.out) (by rw [L2.out]; rfl) O2 ?_)
    | fail)
  go_wp2_with fail
  go_loopg [31] 64 (fun gk i wr => ∃ k : Nat, gk = 64 - k ∧ k ≤ 64 ∧ i = .int .i64 (k : Int) ∧ Hid (Blk wr w2.heap.size m1 28) ∧ Hid (Blk wr w3.heap.size m2 28) ∧ Below w.heap.size w wr)
  case atStart => exact ⟨0, rfl, by omega, rfl, K3, K4, hbv⟩
  case round =>
    clear K3 K4 hbv
    obtain ⟨k, rfl, hk, rfl, G1, G2, hbr⟩ := hrel
    by_cases hlt : k < 64
    · have hltz : (k : Int) < 64 := by omega
      by_cases hk0 : 0 < k
      · have hd0 : decide (0 < (k : Int)) = true := by simp; omega
        have hk0z : 0 < (k : Int) := by omega
        have hc1 := G1.out.cell (F1.out k hk0 hlt)
        have hc2 := G2.out.cell (F2.out k hlt)
        have hc3 := G2.out.cell (F2.out 0 (by omega))
        clear F1 F0 F2
        go_wp2_with fail
        go_quiet (fail)
        go_wp2_with fail
        go_roundg (64 - (k + 1))
        case rel => exact ⟨k + 1, rfl, by omega, by go_num, veil (G1.out.drewN _), veil (G2.out.drewN _), hbr.drewN _⟩
        case measure => omega
      · obtain rfl : k = 0 := by omega
        clear F1 F0 F2
        go_wp2_with fail
        go_quiet (fail)
        go_wp2_with fail
        go_roundg (64 - (0 + 1))
        case rel => exact ⟨1, rfl, by omega, by go_num, veil (G1.out.drewN _), veil (G2.out.drewN _), hbr.drewN _⟩
        case measure => omega
    · obtain rfl : k = 64 := by omega
      have hc1 := G1.out.cell F0.out
      obtain ⟨hN1, hN2⟩ := HN
      have hwa : wrap64 (u - 8 * n) = u - 8 * n := by unfold wrap64; omega
      have hwb : wrap64 (8 * n - u) = 8 * n - u := by unfold wrap64; omega
      clear F1 F0 F2
      rcases Int.lt_trichotomy (u - 8 * n) (8 * n - u) with h3 | h3 | h3
      · have h4 : 8 * n - u ≤ 4 := by omega
        go_wp2
        go_ret
        exact ⟨rfl, hbr⟩
      · have h5 : u - 8 * n = 0 := by omega
        have h6 : 8 * n - u = 0 := by omega
        rw [h5] at hwa
        rw [h6] at hwb
        clear h3 hN1 hN2
        go_wp2
        go_ret
        exact ⟨rfl, hbr⟩
      · have h4 : u - 8 * n ≤ 4 := by omega
        go_wp2
        go_ret
        exact ⟨rfl, hbr⟩
end Go.Proofs.YtgnpjejjnhdejaaDoor
