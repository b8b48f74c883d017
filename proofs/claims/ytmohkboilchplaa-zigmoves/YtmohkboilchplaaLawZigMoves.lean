/- The law on a single number, walked. -/
import Derived.Test.YtmohkboilchplaaZigTo
import Derived.Test.YtmohkboilchplaaRest
namespace Go.Proofs.Ytmohkboilchplaa
open Go.RowKit
set_option linter.unusedVariables false
set_option linter.unusedSimpArgs false

/-- A block of zeros but for one number. -/
def oneB (p : Nat) (n : Int) : List Int := (List.replicate 64 (0 : Int)).set p n
theorem oneB_length (p : Nat) (n : Int) : (oneB p n).length = 64 := by simp [oneB]
theorem oneB_to {p k m : Nat} {n : Int} (hk : k < 64) (hp : p < 64) (hm : m < 64) (hz : zz[k]? = some (m : Int)) : (toL (oneB p n))[k]? = some (if m = p then n else 0) := by
  rw [toL_at hk hz]
  congr 1
  rw [List.getD_eq_getElem?_getD, oneB, List.getElem?_set]
  by_cases e : m = p
  · subst e; rw [if_pos rfl, if_pos rfl, if_pos (by simpa using hm)]; rfl
  · rw [if_neg (fun h => e h.symm), if_neg e, List.getElem?_replicate, if_pos hm]; rfl
set_option maxHeartbeats 4000000 in
set_option maxRecDepth 100000 in
theorem zigMoves_walk (a n : Int) (w : World) (ha : -9223372036854775808 ≤ a ∧ a ≤ 9223372036854775807) (hn : -9223372036854775808 ≤ n ∧ n ≤ 9223372036854775807) :
    Calls Try.prog 7 #[.int .i64 a, .int .i64 n] w fun e w' => e = .returned (.bool true) ∧ Below w.heap.size w w' := by
  have HZ := veil zigged_any
  have HA := veil order_any
  obtain ⟨p, hp⟩ : ∃ p : Nat, a % 64 = (p : Int) := ⟨(a % 64).toNat, by omega⟩
  have hp64 : p < 64 := by omega
  have hpz : (p : Int) < 64 := by omega
  have HR := veil (fun w1 => rest_any a 64 w1 (by omega) (by omega) ha)
  rw [hp] at HR
  have HT : Hid (∀ w1, Calls Try.prog 12 #[.agg (ints .i64 (oneB p n)).toArray] w1 fun e w' => e = .returned (.agg (ints .i64 (toL (oneB p n))).toArray) ∧ Below w1.heap.size w1 w') := fun w1 => to_any (oneB p n) w1 (oneB_length p n)
  have HV := veil (fun (k m : Nat) (hk : k < 64) (hm : m < 64) (hz : zz[k]? = some (m : Int)) => ints_at (k := .i64) (oneB_to (n := n) hk hp64 hm hz))
  have Hl1 : Hid ((ints .i64 (oneB p n)).length = 64) := by show _ = _; rw [ints_length, oneB_length]
  have Hl2 : Hid ((ints .i64 (toL (oneB p n))).length = 64) := by show _ = _; rw [ints_length, toL, toK_length]
  have Ho2 := veil (ints_one (k := .i64) (l := toL (oneB p n)))
  have HS : Hid (zeroB.set p (.int .i64 n) = ints .i64 (oneB p n)) := by show _ = _; simp [zeroB, oneB, ints, List.map_set]
  have hz0 : zeroB[p]? = some (.int .i64 0) := by
    rw [zeroB]; exact ints_at (by rw [List.getElem?_replicate, if_pos hp64])
  generalize ints .i64 (oneB p n) = xs at *
  generalize ints .i64 (toL (oneB p n)) = ys at *
  clear hp
  go_enter Try.func7, Try.ntmps7
  go_wp2_with fail
  refine (HZ.out _).mono ?_
  rintro e w1 ⟨rfl, hb1⟩
  go_wp2_with fail
  refine (HR.out _).mono ?_
  rintro e w1' ⟨rfl, rfl⟩
  have hB := Blk.new w1 zeroB 27
  have hc0 := hB.cell hz0
  have hf0 := hB.frozen p
  have HB2 : Hid (Blk (w1.alloc (.cells (zeroB.set p (.int .i64 n)).toArray 27)) w1.heap.size xs 27) := by
    have := Blk.new w1 (zeroB.set p (.int .i64 n)) 27
    rw [HS.out] at this ⊢
    exact this
  have hbA : Below w1.heap.size w1 (w1.alloc (.cells (zeroB.set p (.int .i64 n)).toArray 27)) := below1 _ _
  have HbA := veil (hb1.trans (hbA.mono hb1.size))
  clear HZ HR hB hz0 HS hbA hb1
  go_wp2_with (first
    | (refine wpList_load_mid rfl 27 (.tmp 5) rfl w1.heap.size 0 rfl xs _ HB2.out.range Try.underlying27 rfl (info_blkn Hl1.out) ?_)
    | fail)
  refine (HT.out _).mono ?_
  rintro e w2 ⟨rfl, hb2⟩
  have HN := veil (Blk.new w2 ys 27)
  have hbw2 : Below w.heap.size w w2 := HbA.out.trans (hb2.mono HbA.out.size)
  clear HT HB2
  go_wp2_with (first
    | (refine wpList_store_new w2 rfl 27 (.tmp 6) (.tmp 17) rfl _ ys rfl rfl (info_blkn Hl2.out) (by rw [Hl2.out]; rfl) Ho2.out ?_)
    | fail)
  refine (HA.out _).mono ?_
  rintro e w3 ⟨g, c, rfl, HO, hb3⟩
  have HX := veil (HN.out.below hb3 (by simp))
  have h1 := (zz_form HO).1
  have HSe := veil h1
  have hbf := veil ((hbw2.alloc hbw2.size (.cells ys.toArray 27)).trans (hb3.mono (by have := hbw2.size; simp; omega)))
  clear HA hb2 hc0 hf0 HbA HN HO hb3 h1 hbw2
  go_wp2_with fail
  go_loopg [20] 64 (fun gk i wr => ∃ k : Nat, gk = 64 - k ∧ k ≤ 64 ∧ i = .int .i64 (k : Int) ∧ wr = w3)
  case atStart => exact ⟨0, rfl, by omega, rfl, rfl⟩
  case round =>
    obtain ⟨k, rfl, hk, rfl, rfl⟩ := hrel
    by_cases hlt : k < 64
    · have hltz : (k : Int) < 64 := by omega
      obtain ⟨⟨m, hm64⟩, hm, _⟩ := zz_at ⟨k, hlt⟩
      simp only at hm
      have hcm := zz_cellK HSe.out hm
      have hcy := HX.out.cell (HV.out k m hlt hm64 hm)
      by_cases e : m = p
      · subst e
        rw [if_pos rfl] at hcy
        clear hm
        have f1 : (n != n) = false := by simp
        go_wp2_with fail
        go_roundg (64 - (k + 1))
        case rel => exact ⟨k + 1, rfl, by omega, by go_num, rfl⟩
        case measure => omega
      · rw [if_neg e] at hcy
        clear hm
        have f1 : ((m : Int) == (p : Int)) = false := by simp; omega
        have f2 : ((m : Int) != (p : Int)) = true := by simp; omega
        go_wp2_with fail
        go_roundg (64 - (k + 1))
        case rel => exact ⟨k + 1, rfl, by omega, by go_num, rfl⟩
        case measure => omega
    · go_wp2
      go_ret
      exact ⟨rfl, hbf.out⟩
end Go.Proofs.Ytmohkboilchplaa
