/- slices.Grow and slices.Concat, over numbers and over bundles: their contracts. -/
import Derived.Test.YthelblkpfkngmaaOwn
import Derived.Test.YthelblkpfkngmaaRows
import Derived.Lib.AppendZerosOnto
namespace Go.Proofs.Ythelblkpfkngmaa
open Go.RowKit
set_option linter.unusedVariables false
set_option linter.unusedSimpArgs false

theorem zeroCells_size (c : Array Value) (n : Nat) : (Builtin.zeroCells c n).size = n * c.size := by
  simp [Builtin.zeroCells]

theorem elemN : ElemOf Try.prog 23 3 1 8 := .mk' Try.underlying23 (z := .int .i64 0) (by kernel_rfl) rfl (by omega)
set_option maxHeartbeats 1000000 in
set_option maxRecDepth 100000 in
theorem growN_any (n : Nat) (w : World) (hn : n ≤ 1048576) :
    Calls Try.prog 56 #[.slice none 0 0, .int .i64 n] w fun e w' => ∃ v, e = .returned v ∧ w'.ownsRow w.heap.size 3 1 v 0 [] ∧ Below w.heap.size w w' := by
  by_cases h0 : n = 0
  · subst h0
    go_enter Try.func56, Try.ntmps56
    go_wp2
    go_ret
    exact ⟨_, rfl, World.ownsRow_nil _ _ _ _, Below.refl _ _⟩
  · obtain ⟨i, z, hi, hz0, hz1, hz2, hzs⟩ := elemN.hi
    have hr := fun ty => Lib.run_append_nil_zeros (P := Try.prog) w 23 3 ty 3 i z .i64 .i64 Try.underlying23 Try.underlying3 hi hz0 n (by omega) (by omega) (by omega) (by rw [hz2]; omega)
    have hG := grownCap_ge w n 0 3
    have hG2 := grownCap_le_maxLen w n 0 3 (by unfold maxLen; omega)
    have hsz : (Builtin.zeroCells z.cells n ++ Builtin.zeroCells z.cells (grownCap w n 0 3 - n)).size = grownCap w n 0 3 * 1 := by
      simp only [Array.size_append, zeroCells_size, hzs]
      omega
    generalize grownCap w n 0 3 = G at hr hG hG2 hsz
    generalize Builtin.zeroCells z.cells n ++ Builtin.zeroCells z.cells (G - n) = cur at hr hsz
    have Hsz := veil hsz; have HG2 := veil hG2
    unfold maxLen at hG2
    clear hsz hi hz0 hz1 hz2 hzs
    have hpos : (0 : Int) < (n : Int) := by omega
    have hneg : ¬ (n : Int) < 0 := by omega
    go_enter Try.func56, Try.ntmps56
    go_wp2_with (at_builtin; refine Lib.wpList_append_run _ rfl _ _ _ _ rfl _ _ rfl rfl _ _ (hr _) ?_)
    go_ret
    refine ⟨_, rfl, ?_, ?_⟩
    · exact World.ownsRow_made w.drew cur G (Nat.le_refl _) HG2.out Hsz.out
    · exact below_of_drew (below1 w.drew _)
set_option maxHeartbeats 2000000 in
set_option maxRecDepth 100000 in
theorem concatN_any (b c n1 n2 c1 c2 : Nat) (A1 A2 : Option Addr) (xs1 xs2 : List Value) (w : World) (hb : b < w.heap.size) (h0 : w.cell? ⟨b, 0, none⟩ = some (.slice A1 n1 c1)) (h1 : w.cell? ⟨b, 1, none⟩ = some (.slice A2 n2 c2))
    (hs1 : Seen w w.heap.size A1 xs1) (hs2 : Seen w w.heap.size A2 xs2) (hl1 : xs1.length = n1 * 1) (hl2 : xs2.length = n2 * 1) (ho1 : ∀ u ∈ xs1, u.oneCell' = true) (ho2 : ∀ u ∈ xs2, u.oneCell' = true) (hn : n1 + n2 ≤ 1048576) :
    Calls Try.prog 51 #[.slice (some ⟨b, 0, none⟩) 2 c] w fun e w' => ∃ v, e = .returned v ∧ Owns w.heap.size [⟨3, 1, v, n1 + n2, xs1 ++ xs2⟩] w' ∧ Below w.heap.size w w' := by
  have HL1 := veil hl1; have HL2 := veil hl2
  clear hl1 hl2
  go_enter Try.func51, Try.ntmps51
  go_wp2
  go_loopg [3, 5, 11] 2 (fun gk sz v5 i wr => w = wr ∧ (i = .int .i64 0 ∧ sz = .int .i64 0 ∧ gk = 2 ∨ i = .int .i64 1 ∧ sz = .int .i64 n1 ∧ gk = 1 ∨ i = .int .i64 2 ∧ sz = .int .i64 ((n1 : Int) + (n2 : Int)) ∧ gk = 0))
  case atStart => exact ⟨rfl, .inl ⟨rfl, rfl, rfl⟩⟩
  case round =>
    obtain ⟨rfl, ⟨rfl, rfl, rfl⟩ | ⟨rfl, rfl, rfl⟩ | ⟨rfl, rfl, rfl⟩⟩ := hrel
    · have hneg : ¬ (n1 : Int) < 0 := by omega
      go_wp2
      go_roundg 1
      case rel => exact ⟨rfl, .inr (.inl ⟨by go_num, by go_num, rfl⟩)⟩
      case measure => omega
    · have hneg : ¬ (n1 : Int) + (n2 : Int) < 0 := by omega
      go_wp2
      go_roundg 0
      case rel => exact ⟨rfl, .inr (.inr ⟨by go_num, by go_num, rfl⟩)⟩
      case measure => omega
    · have hg := growN_any (n1 + n2) w hn
      rw [show ((n1 + n2 : Nat) : Int) = (n1 : Int) + (n2 : Int) by omega] at hg
      have Hg := veil hg; clear hg
      go_wp2_with fail
      refine Hg.out.mono ?_
      rintro e w1 ⟨v1, rfl, hown1, hb1⟩
      have c0 := (hb1.cell (p := ⟨b, 0, none⟩) hb).trans h0
      have c1' := (hb1.cell (p := ⟨b, 1, none⟩) hb).trans h1
      have HO := Owns.one (r := ⟨3, 1, v1, 0, []⟩) hb1.size hown1
      clear hown1 Hg
      have HB1 := veil hb1
      go_wp2_with fail
      go_loopg [6, 8, 27] 2 (fun gk v6 v8 i wr => Below w.heap.size w1 wr ∧ (i = .int .i64 0 ∧ Owns w.heap.size [⟨3, 1, v6, 0, []⟩] wr ∧ gk = 2 ∨ i = .int .i64 1 ∧ Owns w.heap.size [⟨3, 1, v6, 0 + n1, [] ++ xs1⟩] wr ∧ gk = 1 ∨ i = .int .i64 2 ∧ Owns w.heap.size [⟨3, 1, v6, 0 + n1 + n2, [] ++ xs1 ++ xs2⟩] wr ∧ gk = 0))
      case atStart => exact ⟨Below.refl _ _, .inl ⟨rfl, HO, rfl⟩⟩
      case round =>
        clear HO
        obtain ⟨hb2, ⟨rfl, HO, rfl⟩ | ⟨rfl, HO, rfl⟩ | ⟨rfl, HO, rfl⟩⟩ := hrel
        · have d0 := (hb2.cell (p := ⟨b, 0, none⟩) hb).trans c0
          have hsn : Seen wr w.heap.size A1 xs1 := (hs1.below hb1 (Nat.le_refl _)).below hb2 (Nat.le_refl _)
          clear c0 c1' h0 h1
          go_wp2_with (first
            | (at_builtin; go_loud (refine wpList_ownV wr rfl (.tmp 31) (.tmp 32) 23 rfl w.heap.size 3 1 8 elemN u6 0 [] [] rfl HO w.heap.size A1 n1 c1 xs1 rfl hsn HL1.out ho1 (by unfold maxLen; omega) (by omega) ?_); intro v' w' HO' hb')
            | fail)
          go_roundg 1
          case rel => exact ⟨hb2.trans hb', .inr (.inl ⟨by go_num, HO', rfl⟩)⟩
          case measure => omega
        · have d1 := (hb2.cell (p := ⟨b, 1, none⟩) hb).trans c1'
          have hsn : Seen wr w.heap.size A2 xs2 := (hs2.below hb1 (Nat.le_refl _)).below hb2 (Nat.le_refl _)
          clear c0 c1' h0 h1
          go_wp2_with (first
            | (at_builtin; go_loud (refine wpList_ownV wr rfl (.tmp 31) (.tmp 32) 23 rfl w.heap.size 3 1 8 elemN u6 (0 + n1) ([] ++ xs1) [] rfl HO w.heap.size A2 n2 c2 xs2 rfl hsn HL2.out ho2 (by unfold maxLen; omega) (by omega) ?_); intro v' w' HO' hb')
            | fail)
          go_roundg 0
          case rel => exact ⟨hb2.trans hb', .inr (.inr ⟨by go_num, HO', rfl⟩)⟩
          case measure => omega
        · rw [Nat.zero_add, List.nil_append] at HO
          go_wp2
          go_ret
          exact ⟨_, rfl, HO, HB1.out.trans hb2⟩

theorem elemB : ElemOf Try.prog 54 68 2 32 := .mk' Try.underlying54 (z := .agg #[.int .i64 0, .slice none 0 0]) (by kernel_rfl) rfl (by omega)
set_option maxHeartbeats 1000000 in
set_option maxRecDepth 100000 in
theorem growB_any (n : Nat) (w : World) (hn : n ≤ 1048576) :
    Calls Try.prog 50 #[.slice none 0 0, .int .i64 n] w fun e w' => ∃ v, e = .returned v ∧ w'.ownsRow w.heap.size 68 2 v 0 [] ∧ Below w.heap.size w w' := by
  by_cases h0 : n = 0
  · subst h0
    go_enter Try.func50, Try.ntmps50
    go_wp2
    go_ret
    exact ⟨_, rfl, World.ownsRow_nil _ _ _ _, Below.refl _ _⟩
  · obtain ⟨i, z, hi, hz0, hz1, hz2, hzs⟩ := elemB.hi
    have hr := fun ty => Lib.run_append_nil_zeros (P := Try.prog) w 54 3 ty 68 i z .i64 .i64 Try.underlying54 Try.underlying3 hi hz0 n (by omega) (by omega) (by omega) (by rw [hz2]; omega)
    have hG := grownCap_ge w n 0 68
    have hG2 := grownCap_le_maxLen w n 0 68 (by unfold maxLen; omega)
    have hsz : (Builtin.zeroCells z.cells n ++ Builtin.zeroCells z.cells (grownCap w n 0 68 - n)).size = grownCap w n 0 68 * 2 := by
      simp only [Array.size_append, zeroCells_size, hzs]
      omega
    generalize grownCap w n 0 68 = G at hr hG hG2 hsz
    generalize Builtin.zeroCells z.cells n ++ Builtin.zeroCells z.cells (G - n) = cur at hr hsz
    have Hsz := veil hsz; have HG2 := veil hG2
    unfold maxLen at hG2
    clear hsz hi hz0 hz1 hz2 hzs
    have hpos : (0 : Int) < (n : Int) := by omega
    have hneg : ¬ (n : Int) < 0 := by omega
    go_enter Try.func50, Try.ntmps50
    go_wp2_with (at_builtin; refine Lib.wpList_append_run _ rfl _ _ _ _ rfl _ _ rfl rfl _ _ (hr _) ?_)
    go_ret
    refine ⟨_, rfl, ?_, ?_⟩
    · exact World.ownsRow_made w.drew cur G (Nat.le_refl _) HG2.out Hsz.out
    · exact below_of_drew (below1 w.drew _)
set_option maxHeartbeats 2000000 in
set_option maxRecDepth 100000 in
theorem concatB_any (b c n1 n2 c1 c2 : Nat) (A1 A2 : Option Addr) (xs1 xs2 : List Value) (w : World) (hb : b < w.heap.size) (h0 : w.cell? ⟨b, 0, none⟩ = some (.slice A1 n1 c1)) (h1 : w.cell? ⟨b, 1, none⟩ = some (.slice A2 n2 c2))
    (hs1 : Seen w w.heap.size A1 xs1) (hs2 : Seen w w.heap.size A2 xs2) (hl1 : xs1.length = n1 * 2) (hl2 : xs2.length = n2 * 2) (ho1 : ∀ u ∈ xs1, u.oneCell' = true) (ho2 : ∀ u ∈ xs2, u.oneCell' = true) (hn : n1 + n2 ≤ 1048576) :
    Calls Try.prog 39 #[.slice (some ⟨b, 0, none⟩) 2 c] w fun e w' => ∃ v, e = .returned v ∧ Owns w.heap.size [⟨68, 2, v, n1 + n2, xs1 ++ xs2⟩] w' ∧ Below w.heap.size w w' := by
  have HL1 := veil hl1; have HL2 := veil hl2
  clear hl1 hl2
  go_enter Try.func39, Try.ntmps39
  go_wp2
  go_loopg [3, 5, 11] 2 (fun gk sz v5 i wr => w = wr ∧ (i = .int .i64 0 ∧ sz = .int .i64 0 ∧ gk = 2 ∨ i = .int .i64 1 ∧ sz = .int .i64 n1 ∧ gk = 1 ∨ i = .int .i64 2 ∧ sz = .int .i64 ((n1 : Int) + (n2 : Int)) ∧ gk = 0))
  case atStart => exact ⟨rfl, .inl ⟨rfl, rfl, rfl⟩⟩
  case round =>
    obtain ⟨rfl, ⟨rfl, rfl, rfl⟩ | ⟨rfl, rfl, rfl⟩ | ⟨rfl, rfl, rfl⟩⟩ := hrel
    · have hneg : ¬ (n1 : Int) < 0 := by omega
      go_wp2
      go_roundg 1
      case rel => exact ⟨rfl, .inr (.inl ⟨by go_num, by go_num, rfl⟩)⟩
      case measure => omega
    · have hneg : ¬ (n1 : Int) + (n2 : Int) < 0 := by omega
      go_wp2
      go_roundg 0
      case rel => exact ⟨rfl, .inr (.inr ⟨by go_num, by go_num, rfl⟩)⟩
      case measure => omega
    · have hg := growB_any (n1 + n2) w hn
      rw [show ((n1 + n2 : Nat) : Int) = (n1 : Int) + (n2 : Int) by omega] at hg
      have Hg := veil hg; clear hg
      go_wp2_with fail
      refine Hg.out.mono ?_
      rintro e w1 ⟨v1, rfl, hown1, hb1⟩
      have c0 := (hb1.cell (p := ⟨b, 0, none⟩) hb).trans h0
      have c1' := (hb1.cell (p := ⟨b, 1, none⟩) hb).trans h1
      have HO := Owns.one (r := ⟨68, 2, v1, 0, []⟩) hb1.size hown1
      clear hown1 Hg
      have HB1 := veil hb1
      go_wp2_with fail
      go_loopg [6, 8, 27] 2 (fun gk v6 v8 i wr => Below w.heap.size w1 wr ∧ (i = .int .i64 0 ∧ Owns w.heap.size [⟨68, 2, v6, 0, []⟩] wr ∧ gk = 2 ∨ i = .int .i64 1 ∧ Owns w.heap.size [⟨68, 2, v6, 0 + n1, [] ++ xs1⟩] wr ∧ gk = 1 ∨ i = .int .i64 2 ∧ Owns w.heap.size [⟨68, 2, v6, 0 + n1 + n2, [] ++ xs1 ++ xs2⟩] wr ∧ gk = 0))
      case atStart => exact ⟨Below.refl _ _, .inl ⟨rfl, HO, rfl⟩⟩
      case round =>
        clear HO
        obtain ⟨hb2, ⟨rfl, HO, rfl⟩ | ⟨rfl, HO, rfl⟩ | ⟨rfl, HO, rfl⟩⟩ := hrel
        · have d0 := (hb2.cell (p := ⟨b, 0, none⟩) hb).trans c0
          have hsn : Seen wr w.heap.size A1 xs1 := (hs1.below hb1 (Nat.le_refl _)).below hb2 (Nat.le_refl _)
          clear c0 c1' h0 h1
          go_wp2_with (first
            | (at_builtin; go_loud (refine wpList_ownV wr rfl (.tmp 31) (.tmp 32) 54 rfl w.heap.size 68 2 32 elemB u6 0 [] [] rfl HO w.heap.size A1 n1 c1 xs1 rfl hsn HL1.out ho1 (by unfold maxLen; omega) (by omega) ?_); intro v' w' HO' hb')
            | fail)
          go_roundg 1
          case rel => exact ⟨hb2.trans hb', .inr (.inl ⟨by go_num, HO', rfl⟩)⟩
          case measure => omega
        · have d1 := (hb2.cell (p := ⟨b, 1, none⟩) hb).trans c1'
          have hsn : Seen wr w.heap.size A2 xs2 := (hs2.below hb1 (Nat.le_refl _)).below hb2 (Nat.le_refl _)
          clear c0 c1' h0 h1
          go_wp2_with (first
            | (at_builtin; go_loud (refine wpList_ownV wr rfl (.tmp 31) (.tmp 32) 54 rfl w.heap.size 68 2 32 elemB u6 (0 + n1) ([] ++ xs1) [] rfl HO w.heap.size A2 n2 c2 xs2 rfl hsn HL2.out ho2 (by unfold maxLen; omega) (by omega) ?_); intro v' w' HO' hb')
            | fail)
          go_roundg 0
          case rel => exact ⟨hb2.trans hb', .inr (.inr ⟨by go_num, HO', rfl⟩)⟩
          case measure => omega
        · rw [Nat.zero_add, List.nil_append] at HO
          go_wp2
          go_ret
          exact ⟨_, rfl, HO, HB1.out.trans hb2⟩
end Go.Proofs.Ythelblkpfkngmaa
