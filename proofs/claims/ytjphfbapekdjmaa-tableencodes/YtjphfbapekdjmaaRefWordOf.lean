/- The reference's wordOf: the digits of a symbol's word. -/
import Derived.Test.YtjphfbapekdjmaaRefCheck
import Derived.Test.YtjphfbapekdjmaaSymMem
namespace Go.Proofs.Ytjphfbapekdjmaa
open Go.RowKit
set_option linter.unusedVariables false
set_option linter.unusedSimpArgs false
set_option maxRecDepth 100000

/-- Of symbols that are all different each has the word at its place. -/
theorem symF_at {syms : List Int} {l : List (Nat × Nat)} (hnd : syms.Nodup) (hll : l.length = syms.length) {i : Nat} {x : Int} {p : Nat × Nat} (hx : syms[i]? = some x) (hp : l[i]? = some p) : symF (mkWords syms l) x = some ((p.1 : Int), (p.2 : Int)) := by
  have hm : x ∈ (mkWords syms l).map (·.1) := by rw [mkWords_fst hll]; exact List.mem_of_getElem? hx
  obtain ⟨q, hq⟩ := Option.isSome_iff_exists.1 ((symF_some _ _).2 hm)
  obtain ⟨t, ht, e1, e2⟩ := symF_mem hq
  obtain ⟨k, h1, h2⟩ := mem_mkWords ht
  have hik : i = k := by
    obtain ⟨hi, e3⟩ := List.getElem?_eq_some_iff.1 hx
    obtain ⟨hk, e4⟩ := List.getElem?_eq_some_iff.1 h1
    have hpw := List.pairwise_iff_getElem.1 (List.nodup_iff_pairwise_ne.1 hnd)
    rcases Nat.lt_trichotomy i k with h | h | h
    · exact absurd (by rw [e3, e4, e1]) (hpw i k hi hk h)
    · exact h
    · exact absurd (by rw [e3, e4, e1]) (hpw k i hk hi h)
  subst hik
  rw [hp] at h2
  injection h2 with h2
  rw [hq, ← e2, fi, ← h2]
theorem symF_none {syms : List Int} {l : List (Nat × Nat)} (hll : l.length = syms.length) {x : Int} (hx : x ∉ syms) : symF (mkWords syms l) x = none := by
  cases h : symF (mkWords syms l) x with
  | none => rfl
  | some p =>
    have := (symF_some (mkWords syms l) x).1 (by rw [h]; rfl)
    rw [mkWords_fst hll] at this
    exact absurd this hx
/-- The bits of a symbol's word. -/
def symBits (ws : List (Int × Nat × Nat)) (x : Int) : List Bool := bitsN (((symF ws x).getD (0, 0)).1).toNat (((symF ws x).getD (0, 0)).2).toNat
theorem symBits_none {ws : List (Int × Nat × Nat)} {x : Int} (h : symF ws x = none) : symBits ws x = [] := by unfold symBits; rw [h]; rfl

set_option maxRecDepth 100000 in
set_option maxHeartbeats 2000000 in
theorem wordOf_any (cs syms : List Int) (l : List (Nat × Nat)) (A : Option Addr) (c G : Nat) (x : Int) (w : World) (hcs : cs.length = 16) (hf : Fine cs syms l) (hs : Seen w G A (ints .i64 syms)) (hG : G ≤ w.heap.size) :
    Calls Try.prog 23 #[tabV cs A syms.length c, .int .i64 x] w fun e w' => e = .returned (.tuple #[.string (txt (symBits (mkWords syms l) x)), .bool (symF (mkWords syms l) x).isSome]) ∧ Below w.heap.size w w' := by
  have h16 : (tabCells cs A syms.length c)[16]? = some (.slice A syms.length c) := tabCells_last hcs
  have hlen17 : (tabCells cs A syms.length c).length = 17 := tabCells_length hcs
  have h256 := hf.good.le
  have hll : l.length = syms.length := (codes_length hf.code).trans hf.good.sum
  have hwo := fun w1 => refWordsOf_any (nats cs) A syms.length c w1 (by rw [nats_length]; exact hcs) (by rw [hf.good.sum]; exact hf.good.le)
  rw [natI_nats hf.good.1, hf.code] at hwo
  have Hll := veil hll; have Hnd := veil hf.nodup
  clear hf hll hcs
  obtain ⟨ys, hys⟩ : ∃ ys, ys = tabCells cs A syms.length c := ⟨_, rfl⟩
  have Hr := veil (range_new w ys 25)
  unfold tabV at hwo ⊢
  rw [← hys] at hlen17 hwo h16 ⊢
  clear hys
  have Hwo := veil hwo; clear hwo
  have H17 := veil hlen17; clear hlen17
  go_enter Try.func23, Try.ntmps23
  go_wp2_with (first
    | (refine wpList_load_mid rfl 25 (.tmp 2) rfl w.heap.size 0 rfl ys _ Hr.out Try.underlying25 rfl (by rw [H17.out]; exact info_tab) ?_)
    | fail)
  refine (Hwo.out _).mono ?_
  rintro e w1 ⟨v, rfl, HS, hb1⟩
  have c16 : w1.cell? ⟨w.heap.size, 16, none⟩ = some (.slice A syms.length c) := by rw [hb1.cell (by simp), World.cell?_alloc_at _ _ _ _ rfl]; simpa using h16
  have hbel1 : Below w.heap.size w w1 := (below1 _ _).trans (hb1.mono (by simp))
  have hz1 := hb1.size
  simp at hz1
  obtain ⟨A5, c5, e5, hs5, _, _⟩ := HS.seen (List.mem_cons_self ..)
  simp only [strRow, Option.getD_some, Hll.out] at e5 hs5
  subst e5
  clear Hr hb1 Hwo h16 HS
  go_wp2_with fail
  go_loopg [8, 9, 18] syms.length (fun gk i0 s0 i wr => ∃ k : Nat, gk = syms.length - k ∧ k ≤ syms.length ∧ i = .int .i64 k ∧ Hid (x ∉ syms.take k) ∧ w1 = wr)
  case atStart => exact ⟨0, rfl, Nat.zero_le _, rfl, veil (by simp), rfl⟩
  case round =>
    obtain ⟨k, rfl, hk, rfl, HN, rfl⟩ := hrel
    by_cases hlt : k < syms.length
    · obtain ⟨p, hp⟩ := some_at (xs := l) (j := k) (by rw [Hll.out]; exact hlt)
      obtain ⟨g5, o5, rfl, hg5, h5⟩ := hs5.cell (strs_at hp)
      obtain ⟨g, o, y, rfl, hg, hy, h1⟩ := hs.int hlt
      rw [← hbel1.cell (by simp; omega)] at h1
      by_cases hxy : y = x
      · have hq := symF_at Hnd.out Hll.out hy hp
        rw [hxy] at hq
        have hsb : symBits (mkWords syms l) x = bitsN p.1 p.2 := by unfold symBits; rw [hq]; rfl
        have Hq := veil hq; have Hsb := veil hsb
        have hbb : (y == x) = true := by simpa using hxy
        have hlt' : (k : Int) < (syms.length : Int) := by omega
        clear hq hsb hp hy hxy
        go_wp2
        go_ret2
        exact ⟨ret_two (by rw [Hsb.out]; rfl) (by rw [Hq.out]; rfl), hbel1⟩
      · have hbb : (y == x) = false := by simpa using hxy
        have Hy := veil hy; have Hxy := veil hxy
        clear hp hy hxy
        go_wp2
        go_roundg (syms.length - (k + 1))
        case rel =>
          refine ⟨k + 1, rfl, by omega, by go_num, veil ?_, rfl⟩
          rw [take_snoc Hy.out]
          intro h
          rcases List.mem_append.1 h with h | h
          · exact HN.out h
          · simp at h; exact Hxy.out h.symm
        case measure => omega
    · obtain rfl : k = syms.length := by omega
      have hx : x ∉ syms := by have := HN.out; rw [List.take_length] at this; exact this
      have hq := symF_none Hll.out hx
      have Hq := veil hq; have Hsb := veil (symBits_none hq)
      clear hq hx
      go_wp2
      go_ret2
      exact ⟨ret_two (by rw [Hsb.out]; rfl) (by rw [Hq.out]; rfl), hbel1⟩
end Go.Proofs.Ytjphfbapekdjmaa
