/- The law's shortest: a table that Make made is as short as can be. And the reference's TableEq at two empty tables. -/
import Derived.Test.YthelblkpfkngmaaRefBest
import Derived.Test.YthelblkpfkngmaaRefCost
import Derived.Test.YthelblkpfkngmaaBestMade
import Derived.Test.YthelblkpfkngmaaEqInt
namespace Go.Proofs.Ythelblkpfkngmaa
open Go.RowKit
set_option linter.unusedVariables false
set_option linter.unusedSimpArgs false

theorem zs_cell2 {w : World} {G : Nat} {A : Option Addr} {zs : List Int} (hz : Seen w G A (ints .i64 zs)) {s : Int} (hs : s ∈ used zs) : ∃ g o x, A = some ⟨g, o, none⟩ ∧ g < G ∧ w.cell? ⟨g, o + s.toNat, none⟩ = some (.int .i64 x) ∧ 0 ≤ s ∧ s < zs.length ∧ 0 < x := by
  obtain ⟨k, x, rfl, h1, h2⟩ := used_mem.1 hs
  obtain ⟨g, o, y, e, hg, hy, hc⟩ := hz.int (List.getElem?_eq_some_iff.1 h1).1
  rw [h1] at hy; injection hy with hy; subst hy
  exact ⟨g, o, x, e, hg, by simpa using hc, by omega, by have := (List.getElem?_eq_some_iff.1 h1).1; omega, h2⟩

set_option maxRecDepth 100000 in
set_option maxHeartbeats 2000000 in
theorem shortest_any (cs syms zs : List Int) (A A2 : Option Addr) (c c2 G : Nat) (w : World) (hM : MadeT zs cs syms) (he : errB zs = 0) (hcap : syms.length ≤ c) (hs : Seen w G A (ints .i64 syms)) (hz : Seen w G A2 (ints .i64 zs)) (hG : G ≤ w.heap.size) :
    Calls Try.prog 19 #[tabV cs A syms.length c, .slice A2 zs.length c2] w fun e w' => e = .returned (.bool true) ∧ Below w.heap.size w w' := by
  obtain ⟨k1, _, k3, k4, L, k5, k6, _⟩ := hM.ok he
  obtain ⟨h256, hzb⟩ := errB_ok he
  have hzl : zs.length ≤ maxLen := by unfold maxLen; omega
  have hshort := hM.short
  have hsl : syms.length ≤ maxLen := by unfold maxLen; omega
  have HK := veil (fun w1 h1 h3 => refCheck_any cs syms A c G w1 hM.len hsl hcap hM.bnd h1 h3)
  have HR := veil (fun w1 h1 h2 h3 => refCost_any cs syms zs A A2 c c2 G w1 hM.len hsl hcap hM.bnd h1 h2 h3 hzl)
  have HC := veil (fun w1 h1 h3 => bestCost_any A2 c2 G zs w1 L h1 h3 he k5)
  rw [k3] at HK
  rw [k4, k6] at HR
  have Hl := veil (tabCells_length (A := A) (n := syms.length) (c := c) hM.len)
  have h16 := tabCells_last (A := A) (n := syms.length) (c := c) hM.len
  have Hu : Hid (∀ s ∈ syms, s ∈ used zs) := fun s h => (k1 s).1 h
  clear k1 k3 k4 k5 k6 hzb he hzl hsl hM
  obtain ⟨xs, hxs⟩ : ∃ xs, xs = tabCells cs A syms.length c := ⟨_, rfl⟩
  unfold tabV at HK HR ⊢
  rw [← hxs] at Hl HK HR h16 ⊢
  clear hxs
  have Hr := veil (range_new w xs 25)
  have d16 : (w.alloc (.cells xs.toArray 25)).cell? ⟨w.heap.size, 16, none⟩ = some (.slice A syms.length c) := by
    rw [World.cell?_alloc_at _ _ _ _ rfl]; simpa using h16
  have D16 := veil d16
  clear h16 d16
  generalize costL zs L = v at *
  go_enter Try.func19, Try.ntmps19
  go_wp2_with (first
    | (refine wpList_load_mid rfl 25 (.tmp 2) rfl w.heap.size 0 rfl xs _ Hr.out Try.underlying25 rfl (by rw [Hl.out]; exact info_tab) ?_)
    | fail)
  refine (HK.out _ (hs.alloc hG _) (by simp; omega)).mono ?_
  rintro e w1 ⟨rfl, hb1⟩
  have hbel1 : Below w.heap.size w w1 := (below1 _ _).trans (hb1.mono (by simp))
  have Hr1 := veil (range_below Hr.out hb1 (by simp))
  have d16 := (hb1.cell (p := ⟨w.heap.size, 16, none⟩) (by simp)).trans D16.out
  have hz1 := hbel1.size
  clear HK Hr hb1 D16
  go_wp2_with fail
  go_loopg [15] syms.length (fun gk s wr => ∃ k : Nat, gk = syms.length - k ∧ k ≤ syms.length ∧ s = .int .i64 (k : Int) ∧ wr = w1)
  case atStart => exact ⟨0, rfl, Nat.zero_le _, rfl, rfl⟩
  case round =>
    obtain ⟨k, rfl, hk, rfl, rfl⟩ := hrel
    by_cases hlt : k < syms.length
    · have hltz : (k : Int) < (syms.length : Int) := by omega
      obtain ⟨g, o, x, rfl, hg, hx, hcx⟩ := (hs.below hbel1 hG).int hlt
      obtain ⟨g2, o2, y, rfl, hg2, hcy, hx0, hxl, hy0⟩ := zs_cell2 (hz.below hbel1 hG) (Hu.out x (List.mem_of_getElem? hx))
      clear hx
      have f1 : ¬ (zs.length : Int) ≤ x := by omega
      have f2 : decide ((zs.length : Int) ≤ x) = false := decide_eq_false f1
      have f3 : ¬ y = 0 := by omega
      have f4 : (y == 0) = false := by simpa using f3
      go_wp2_with fail
      go_roundg (syms.length - (k + 1))
      case rel => exact ⟨k + 1, rfl, by omega, by go_num, rfl⟩
      case measure => omega
    · have hltz : ¬ (k : Int) < (syms.length : Int) := by omega
      clear d16
      go_wp2_with (first
        | (refine wpList_load_mid rfl 25 (.tmp 2) rfl w.heap.size 0 rfl xs _ Hr1.out Try.underlying25 rfl (by rw [Hl.out]; exact info_tab) ?_)
        | fail)
      refine (HR.out _ (hs.below hbel1 hG) (hz.below hbel1 hG) (by omega)).mono ?_
      rintro e w2 ⟨rfl, hb2⟩
      have hbel2 : Below w.heap.size w w2 := hbel1.trans (hb2.mono hz1)
      have hz2 := hbel2.size
      clear HR hb2 Hr1
      go_wp2_with fail
      refine (HC.out _ (hz.below hbel2 hG) (by omega)).mono ?_
      rintro e w3 ⟨rfl, hb3⟩
      have hbel3 : Below w.heap.size w w3 := hbel2.trans (hb3.mono hz2)
      go_wp2
      go_ret
      exact ⟨by simp, hbel3⟩

def zero16 : List Value := ints .i64 (List.replicate 16 0)
theorem zero16_eq (u : World) : (binOp .eql 22 (.agg zero16.toArray) (.agg zero16.toArray)).run Try.prog u = .ok (.bool true) u := by kernel_rfl
set_option maxRecDepth 100000 in
set_option maxHeartbeats 2000000 in
theorem tabEq_zero (A : Option Addr) (c : Nat) (w : World) :
    Calls Try.prog 18 #[tabV (List.replicate 16 0) A 0 c, tabV (List.replicate 16 0) none 0 0] w fun e w' => e = .returned (.bool true) ∧ Below w.heap.size w w' := by
  have hr1 : ∀ (xs1 xs2 : List Value), xs1 = tabCells (List.replicate 16 0) A 0 c → ((w.alloc (.cells xs1.toArray 25)).alloc (.cells xs2.toArray 25)).rangeAt w.heap.size 0 zero16 := by
    intro xs1 xs2 e1
    subst e1
    exact range_below (range_left (range_new w _ _)) (below1 _ _) (by simp)
  have hr2 : ∀ (xs1 xs2 : List Value), xs2 = tabCells (List.replicate 16 0) none 0 0 → ((w.alloc (.cells xs1.toArray 25)).alloc (.cells xs2.toArray 25)).rangeAt (w.heap.size + 1) 0 zero16 := by
    intro xs1 xs2 e2
    subst e2
    have h := range_left (range_new (w.alloc (.cells xs1.toArray 25)) (tabCells (List.replicate 16 0) none 0 0) 25)
    rw [World.size_alloc'] at h
    exact h
  have c1 := tabCells_last (cs := List.replicate 16 0) (A := A) (n := 0) (c := c) (by simp)
  have c2 := tabCells_last (cs := List.replicate 16 0) (A := none) (n := 0) (c := 0) (by simp)
  obtain ⟨xs1, h1⟩ : ∃ xs1, xs1 = tabCells (List.replicate 16 0) A 0 c := ⟨_, rfl⟩
  obtain ⟨xs2, h2⟩ : ∃ xs2, xs2 = tabCells (List.replicate 16 0) none 0 0 := ⟨_, rfl⟩
  have HR1 := veil (hr1 xs1 xs2 h1)
  have HR2 := veil (hr2 xs1 xs2 h2)
  unfold tabV
  rw [← h1, ← h2]
  rw [← h1] at c1
  rw [← h2] at c2
  have d1 : ((w.alloc (.cells xs1.toArray 25)).alloc (.cells xs2.toArray 25)).cell? ⟨w.heap.size, 16, none⟩ = some (.slice A 0 c) := by
    rw [(below1 _ _).cell (by simp), World.cell?_alloc_at _ _ _ _ rfl]; simpa using c1
  have d2 : ((w.alloc (.cells xs1.toArray 25)).alloc (.cells xs2.toArray 25)).cell? ⟨w.heap.size + 1, 16, none⟩ = some (.slice none 0 0) := by
    rw [World.cell?_alloc_at _ _ _ _ (by simp)]; simpa using c2
  clear hr1 hr2 c1 c2 h1 h2
  have Hz : Hid (zero16.length = 16) := by show zero16.length = 16; simp [zero16, ints_length]
  have heq := zero16_eq
  generalize zero16 = z at *
  have HE := veil (fun u => eqInt A none c 0 0 [] [] u (.inl rfl) (.inl rfl) (by unfold maxLen; simp) (by unfold maxLen; simp))
  go_enter Try.func18, Try.ntmps18
  go_wp2_with (first
    | (refine wpList_load_mid rfl 22 (.tmp 5) rfl w.heap.size 0 rfl z _ HR1.out Try.underlying22 rfl (by rw [Hz.out]; exact info_arr) ?_)
    | (refine wpList_load_mid rfl 22 (.tmp 7) rfl (w.heap.size + 1) 0 rfl z _ HR2.out Try.underlying22 rfl (by rw [Hz.out]; exact info_arr) ?_)
    | fail)
  refine (HE.out _).mono ?_
  rintro e w2 ⟨rfl, rfl⟩
  go_wp2
  go_ret
  exact ⟨by simp, below2 _ _ _⟩
end Go.Proofs.Ythelblkpfkngmaa
