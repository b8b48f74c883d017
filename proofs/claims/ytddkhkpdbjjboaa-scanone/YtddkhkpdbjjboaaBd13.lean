/- Texts shared by the claims of this seat, in one. -/
import Derived.Test.YtddkhkpdbjjboaaBd1
import Derived.Test.YtddkhkpdbjjboaaRows
import Derived.Lib.AppendZerosOnto
import Derived.Sort.LotA
import Derived.Shelf.SlSortCmp.KitK
import Derived.Sort.WalkB2
import Derived.Sort.WalkB12
/- slices.Grow and slices.Concat, over numbers and over bundles: their contracts. -/
namespace Go.Proofs.Ytddkhkpdbjjboaa
open Go.RowKit
set_option linter.unusedVariables false
set_option linter.unusedSimpArgs false
set_option maxRecDepth 100000

theorem zeroCells_size (c : Array Value) (n : Nat) : (Builtin.zeroCells c n).size = n * c.size := by
  simp [Builtin.zeroCells]

theorem elemN : ElemOf Try.prog 23 3 1 8 := .mk' Try.underlying23 (z := .int .i64 0) (by kernel_rfl) rfl (by omega)
set_option maxHeartbeats 1000000 in
set_option maxRecDepth 100000 in
theorem growN_any (n : Nat) (w : World) (hn : n ≤ 1048576) :
    Calls Try.prog 111 #[.slice none 0 0, .int .i64 n] w fun e w' => ∃ v, e = .returned v ∧ w'.ownsRow w.heap.size 3 1 v 0 [] ∧ Below w.heap.size w w' := by
  by_cases h0 : n = 0
  · subst h0
    go_enter Try.func111, Try.ntmps111
    go_wp2
    go_ret
    exact ⟨_, rfl, World.ownsRow_nil _ _ _ _, Below.refl _ _⟩
  · obtain ⟨i, z, hi, hz0, hz1, hz2, hzs⟩ := elemN.hi
    have hr := fun ty => Lib.run_append_nil_zeros (P := Try.prog) w 23 3 ty 3 i z .i64 .i64 Try.underlying23 Try.underlying3 hi hz0 n (by omega) (by omega) (by omega) (by rw [hz2]; omega)
    have hG := grownCap_ge w n 0 3
    have hG2 := grownCap_le_maxLen w n 0 3 (by unfold maxLen; omega)
    have hsz : (Builtin.zeroCells z.cells n ++ Builtin.zeroCells z.cells (grownCap w n 0 3 - n)).size = grownCap w n 0 3 * 1 := by
      simp only [Array.size_append, zeroCells_size, hzs]
      omega
    generalize grownCap w n 0 3 = G at hr hG hG2 hsz
    generalize Builtin.zeroCells z.cells n ++ Builtin.zeroCells z.cells (G - n) = cur at hr hsz
    have Hsz := veil hsz; have HG2 := veil hG2
    unfold maxLen at hG2
    clear hsz hi hz0 hz1 hz2 hzs
    have hpos : (0 : Int) < (n : Int) := by omega
    have hneg : ¬ (n : Int) < 0 := by omega
    go_enter Try.func111, Try.ntmps111
    go_wp2_with (at_builtin; refine Lib.wpList_append_run _ rfl _ _ _ _ rfl _ _ rfl rfl _ _ (hr _) ?_)
    go_ret
    refine ⟨_, rfl, ?_, ?_⟩
    · exact World.ownsRow_made w.drew cur G (Nat.le_refl _) HG2.out Hsz.out
    · exact below_of_drew (below1 w.drew _)
set_option maxHeartbeats 2000000 in
set_option maxRecDepth 100000 in
theorem concatN_any (b c n1 n2 c1 c2 : Nat) (A1 A2 : Option Addr) (xs1 xs2 : List Value) (w : World) (hb : b < w.heap.size) (h0 : w.cell? ⟨b, 0, none⟩ = some (.slice A1 n1 c1)) (h1 : w.cell? ⟨b, 1, none⟩ = some (.slice A2 n2 c2))
    (hs1 : Seen w w.heap.size A1 xs1) (hs2 : Seen w w.heap.size A2 xs2) (hl1 : xs1.length = n1 * 1) (hl2 : xs2.length = n2 * 1) (ho1 : ∀ u ∈ xs1, u.oneCell' = true) (ho2 : ∀ u ∈ xs2, u.oneCell' = true) (hn : n1 + n2 ≤ 1048576) :
    Calls Try.prog 100 #[.slice (some ⟨b, 0, none⟩) 2 c] w fun e w' => ∃ v, e = .returned v ∧ Owns w.heap.size [⟨3, 1, v, n1 + n2, xs1 ++ xs2⟩] w' ∧ Below w.heap.size w w' := by
  have HL1 := veil hl1; have HL2 := veil hl2
  clear hl1 hl2
  go_enter Try.func100, Try.ntmps100
  go_wp2
  go_loopg [3, 5, 11] 2 (fun gk sz v5 i wr => w = wr ∧ (i = .int .i64 0 ∧ sz = .int .i64 0 ∧ gk = 2 ∨ i = .int .i64 1 ∧ sz = .int .i64 n1 ∧ gk = 1 ∨ i = .int .i64 2 ∧ sz = .int .i64 ((n1 : Int) + (n2 : Int)) ∧ gk = 0))
  case atStart => exact ⟨rfl, .inl ⟨rfl, rfl, rfl⟩⟩
  case round =>
    obtain ⟨rfl, ⟨rfl, rfl, rfl⟩ | ⟨rfl, rfl, rfl⟩ | ⟨rfl, rfl, rfl⟩⟩ := hrel
    · have hneg : ¬ (n1 : Int) < 0 := by omega
      go_wp2
      go_roundg 1
      case rel => exact ⟨rfl, .inr (.inl ⟨by go_num, by go_num, rfl⟩)⟩
      case measure => omega
    · have hneg : ¬ (n1 : Int) + (n2 : Int) < 0 := by omega
      go_wp2
      go_roundg 0
      case rel => exact ⟨rfl, .inr (.inr ⟨by go_num, by go_num, rfl⟩)⟩
      case measure => omega
    · have hg := growN_any (n1 + n2) w hn
      rw [show ((n1 + n2 : Nat) : Int) = (n1 : Int) + (n2 : Int) by omega] at hg
      have Hg := veil hg; clear hg
      go_wp2_with fail
      refine Hg.out.mono ?_
      rintro e w1 ⟨v1, rfl, hown1, hb1⟩
      have c0 := (hb1.cell (p := ⟨b, 0, none⟩) hb).trans h0
      have c1' := (hb1.cell (p := ⟨b, 1, none⟩) hb).trans h1
      have HO := Owns.one (r := ⟨3, 1, v1, 0, []⟩) hb1.size hown1
      clear hown1 Hg
      have HB1 := veil hb1
      go_wp2_with fail
      go_loopg [6, 8, 27] 2 (fun gk v6 v8 i wr => Below w.heap.size w1 wr ∧ (i = .int .i64 0 ∧ Owns w.heap.size [⟨3, 1, v6, 0, []⟩] wr ∧ gk = 2 ∨ i = .int .i64 1 ∧ Owns w.heap.size [⟨3, 1, v6, 0 + n1, [] ++ xs1⟩] wr ∧ gk = 1 ∨ i = .int .i64 2 ∧ Owns w.heap.size [⟨3, 1, v6, 0 + n1 + n2, [] ++ xs1 ++ xs2⟩] wr ∧ gk = 0))
      case atStart => exact ⟨Below.refl _ _, .inl ⟨rfl, HO, rfl⟩⟩
      case round =>
        clear HO
        obtain ⟨hb2, ⟨rfl, HO, rfl⟩ | ⟨rfl, HO, rfl⟩ | ⟨rfl, HO, rfl⟩⟩ := hrel
        · have d0 := (hb2.cell (p := ⟨b, 0, none⟩) hb).trans c0
          have hsn : Seen wr w.heap.size A1 xs1 := (hs1.below hb1 (Nat.le_refl _)).below hb2 (Nat.le_refl _)
          clear c0 c1' h0 h1
          go_wp2_with (first
            | (at_builtin; go_loud (refine wpList_ownV wr rfl (.tmp 31) (.tmp 32) 23 rfl w.heap.size 3 1 8 elemN u6 0 [] [] rfl HO w.heap.size A1 n1 c1 xs1 rfl hsn HL1.out ho1 (by unfold maxLen; omega) (by omega) ?_); intro v' w' HO' hb')
            | fail)
          go_roundg 1
          case rel => exact ⟨hb2.trans hb', .inr (.inl ⟨by go_num, HO', rfl⟩)⟩
          case measure => omega
        · have d1 := (hb2.cell (p := ⟨b, 1, none⟩) hb).trans c1'
          have hsn : Seen wr w.heap.size A2 xs2 := (hs2.below hb1 (Nat.le_refl _)).below hb2 (Nat.le_refl _)
          clear c0 c1' h0 h1
          go_wp2_with (first
            | (at_builtin; go_loud (refine wpList_ownV wr rfl (.tmp 31) (.tmp 32) 23 rfl w.heap.size 3 1 8 elemN u6 (0 + n1) ([] ++ xs1) [] rfl HO w.heap.size A2 n2 c2 xs2 rfl hsn HL2.out ho2 (by unfold maxLen; omega) (by omega) ?_); intro v' w' HO' hb')
            | fail)
          go_roundg 0
          case rel => exact ⟨hb2.trans hb', .inr (.inr ⟨by go_num, HO', rfl⟩)⟩
          case measure => omega
        · rw [Nat.zero_add, List.nil_append] at HO
          go_wp2
          go_ret
          exact ⟨_, rfl, HO, HB1.out.trans hb2⟩

theorem elemB : ElemOf Try.prog 118 150 2 32 := .mk' Try.underlying118 (z := .agg #[.int .i64 0, .slice none 0 0]) (by kernel_rfl) rfl (by omega)
set_option maxHeartbeats 1000000 in
set_option maxRecDepth 100000 in
theorem growB_any (n : Nat) (w : World) (hn : n ≤ 1048576) :
    Calls Try.prog 99 #[.slice none 0 0, .int .i64 n] w fun e w' => ∃ v, e = .returned v ∧ w'.ownsRow w.heap.size 150 2 v 0 [] ∧ Below w.heap.size w w' := by
  by_cases h0 : n = 0
  · subst h0
    go_enter Try.func99, Try.ntmps99
    go_wp2
    go_ret
    exact ⟨_, rfl, World.ownsRow_nil _ _ _ _, Below.refl _ _⟩
  · obtain ⟨i, z, hi, hz0, hz1, hz2, hzs⟩ := elemB.hi
    have hr := fun ty => Lib.run_append_nil_zeros (P := Try.prog) w 118 3 ty 150 i z .i64 .i64 Try.underlying118 Try.underlying3 hi hz0 n (by omega) (by omega) (by omega) (by rw [hz2]; omega)
    have hG := grownCap_ge w n 0 150
    have hG2 := grownCap_le_maxLen w n 0 150 (by unfold maxLen; omega)
    have hsz : (Builtin.zeroCells z.cells n ++ Builtin.zeroCells z.cells (grownCap w n 0 150 - n)).size = grownCap w n 0 150 * 2 := by
      simp only [Array.size_append, zeroCells_size, hzs]
      omega
    generalize grownCap w n 0 150 = G at hr hG hG2 hsz
    generalize Builtin.zeroCells z.cells n ++ Builtin.zeroCells z.cells (G - n) = cur at hr hsz
    have Hsz := veil hsz; have HG2 := veil hG2
    unfold maxLen at hG2
    clear hsz hi hz0 hz1 hz2 hzs
    have hpos : (0 : Int) < (n : Int) := by omega
    have hneg : ¬ (n : Int) < 0 := by omega
    go_enter Try.func99, Try.ntmps99
    go_wp2_with (at_builtin; refine Lib.wpList_append_run _ rfl _ _ _ _ rfl _ _ rfl rfl _ _ (hr _) ?_)
    go_ret
    refine ⟨_, rfl, ?_, ?_⟩
    · exact World.ownsRow_made w.drew cur G (Nat.le_refl _) HG2.out Hsz.out
    · exact below_of_drew (below1 w.drew _)
set_option maxHeartbeats 2000000 in
set_option maxRecDepth 100000 in
theorem concatB_any (b c n1 n2 c1 c2 : Nat) (A1 A2 : Option Addr) (xs1 xs2 : List Value) (w : World) (hb : b < w.heap.size) (h0 : w.cell? ⟨b, 0, none⟩ = some (.slice A1 n1 c1)) (h1 : w.cell? ⟨b, 1, none⟩ = some (.slice A2 n2 c2))
    (hs1 : Seen w w.heap.size A1 xs1) (hs2 : Seen w w.heap.size A2 xs2) (hl1 : xs1.length = n1 * 2) (hl2 : xs2.length = n2 * 2) (ho1 : ∀ u ∈ xs1, u.oneCell' = true) (ho2 : ∀ u ∈ xs2, u.oneCell' = true) (hn : n1 + n2 ≤ 1048576) :
    Calls Try.prog 79 #[.slice (some ⟨b, 0, none⟩) 2 c] w fun e w' => ∃ v, e = .returned v ∧ Owns w.heap.size [⟨150, 2, v, n1 + n2, xs1 ++ xs2⟩] w' ∧ Below w.heap.size w w' := by
  have HL1 := veil hl1; have HL2 := veil hl2
  clear hl1 hl2
  go_enter Try.func79, Try.ntmps79
  go_wp2
  go_loopg [3, 5, 11] 2 (fun gk sz v5 i wr => w = wr ∧ (i = .int .i64 0 ∧ sz = .int .i64 0 ∧ gk = 2 ∨ i = .int .i64 1 ∧ sz = .int .i64 n1 ∧ gk = 1 ∨ i = .int .i64 2 ∧ sz = .int .i64 ((n1 : Int) + (n2 : Int)) ∧ gk = 0))
  case atStart => exact ⟨rfl, .inl ⟨rfl, rfl, rfl⟩⟩
  case round =>
    obtain ⟨rfl, ⟨rfl, rfl, rfl⟩ | ⟨rfl, rfl, rfl⟩ | ⟨rfl, rfl, rfl⟩⟩ := hrel
    · have hneg : ¬ (n1 : Int) < 0 := by omega
      go_wp2
      go_roundg 1
      case rel => exact ⟨rfl, .inr (.inl ⟨by go_num, by go_num, rfl⟩)⟩
      case measure => omega
    · have hneg : ¬ (n1 : Int) + (n2 : Int) < 0 := by omega
      go_wp2
      go_roundg 0
      case rel => exact ⟨rfl, .inr (.inr ⟨by go_num, by go_num, rfl⟩)⟩
      case measure => omega
    · have hg := growB_any (n1 + n2) w hn
      rw [show ((n1 + n2 : Nat) : Int) = (n1 : Int) + (n2 : Int) by omega] at hg
      have Hg := veil hg; clear hg
      go_wp2_with fail
      refine Hg.out.mono ?_
      rintro e w1 ⟨v1, rfl, hown1, hb1⟩
      have c0 := (hb1.cell (p := ⟨b, 0, none⟩) hb).trans h0
      have c1' := (hb1.cell (p := ⟨b, 1, none⟩) hb).trans h1
      have HO := Owns.one (r := ⟨150, 2, v1, 0, []⟩) hb1.size hown1
      clear hown1 Hg
      have HB1 := veil hb1
      go_wp2_with fail
      go_loopg [6, 8, 27] 2 (fun gk v6 v8 i wr => Below w.heap.size w1 wr ∧ (i = .int .i64 0 ∧ Owns w.heap.size [⟨150, 2, v6, 0, []⟩] wr ∧ gk = 2 ∨ i = .int .i64 1 ∧ Owns w.heap.size [⟨150, 2, v6, 0 + n1, [] ++ xs1⟩] wr ∧ gk = 1 ∨ i = .int .i64 2 ∧ Owns w.heap.size [⟨150, 2, v6, 0 + n1 + n2, [] ++ xs1 ++ xs2⟩] wr ∧ gk = 0))
      case atStart => exact ⟨Below.refl _ _, .inl ⟨rfl, HO, rfl⟩⟩
      case round =>
        clear HO
        obtain ⟨hb2, ⟨rfl, HO, rfl⟩ | ⟨rfl, HO, rfl⟩ | ⟨rfl, HO, rfl⟩⟩ := hrel
        · have d0 := (hb2.cell (p := ⟨b, 0, none⟩) hb).trans c0
          have hsn : Seen wr w.heap.size A1 xs1 := (hs1.below hb1 (Nat.le_refl _)).below hb2 (Nat.le_refl _)
          clear c0 c1' h0 h1
          go_wp2_with (first
            | (at_builtin; go_loud (refine wpList_ownV wr rfl (.tmp 31) (.tmp 32) 118 rfl w.heap.size 150 2 32 elemB u6 0 [] [] rfl HO w.heap.size A1 n1 c1 xs1 rfl hsn HL1.out ho1 (by unfold maxLen; omega) (by omega) ?_); intro v' w' HO' hb')
            | fail)
          go_roundg 1
          case rel => exact ⟨hb2.trans hb', .inr (.inl ⟨by go_num, HO', rfl⟩)⟩
          case measure => omega
        · have d1 := (hb2.cell (p := ⟨b, 1, none⟩) hb).trans c1'
          have hsn : Seen wr w.heap.size A2 xs2 := (hs2.below hb1 (Nat.le_refl _)).below hb2 (Nat.le_refl _)
          clear c0 c1' h0 h1
          go_wp2_with (first
            | (at_builtin; go_loud (refine wpList_ownV wr rfl (.tmp 31) (.tmp 32) 118 rfl w.heap.size 150 2 32 elemB u6 (0 + n1) ([] ++ xs1) [] rfl HO w.heap.size A2 n2 c2 xs2 rfl hsn HL2.out ho2 (by unfold maxLen; omega) (by omega) ?_); intro v' w' HO' hb')
            | fail)
          go_roundg 0
          case rel => exact ⟨hb2.trans hb', .inr (.inr ⟨by go_num, HO', rfl⟩)⟩
          case measure => omega
        · rw [Nat.zero_add, List.nil_append] at HO
          go_wp2
          go_ret
          exact ⟨_, rfl, HO, HB1.out.trans hb2⟩
end Go.Proofs.Ytddkhkpdbjjboaa

/- Packages that are merged (Larmore, Hirschberg), in numbers: the lengths that they give leave room, and no lengths that leave room cost less. No program is named here. -/
namespace Go.Proofs.Ytddkhkpdbjjboaa
set_option linter.unusedVariables false
set_option linter.unusedSimpArgs false
set_option maxRecDepth 100000

/-- A bundle: its cost and its symbols. -/
abbrev Bun : Type := Nat × List Int
def mergeB (a b : Bun) : Bun := (a.1 + b.1, a.2 ++ b.2)
def pairsOf : List Bun → List Bun
  | a :: b :: l => mergeB a b :: pairsOf l
  | _ => []
def Asc (l : List Bun) : Prop := l.Pairwise fun a b => a.1 ≤ b.1
def sumC (l : List Bun) : Nat := (l.map (·.1)).sum
def flatB (l : List Bun) : List Int := l.flatMap (·.2)
/-- A sum over symbols. -/
def sumF {α : Type} (l : List α) (f : α → Nat) : Nat := (l.map f).sum
/-- How much room a symbol takes that is longer t times, in units of which 65536 are one place of the last round. -/
def wid (t : Nat) : Nat := 131072 - 2 ^ (17 - t)
def single1 (w : Int → Nat) (i : Int) : Bun := (w i, [i])
def singlesOf (w : Int → Nat) (idx : List Int) : List Bun := idx.map (single1 w)
/-- j rounds of merging. -/
inductive Chain (w : Int → Nat) (idx : List Int) : Nat → List Bun → Prop
  | zero : Chain w idx 0 []
  | succ {j : Nat} {l q : List Bun} : Chain w idx j l → q.Perm (singlesOf w idx ++ pairsOf l) → Asc q → Chain w idx (j + 1) q

section
variable {α : Type} {l m : List α} {f g : α → Nat}
theorem sumF_cons (a : α) (l : List α) (f : α → Nat) : sumF (a :: l) f = f a + sumF l f := by simp [sumF]
theorem sumF_append (l m : List α) (f : α → Nat) : sumF (l ++ m) f = sumF l f + sumF m f := by simp [sumF, List.sum_append]
theorem sumF_add (l : List α) (f g : α → Nat) : sumF l (fun x => f x + g x) = sumF l f + sumF l g := by
  induction l with
  | nil => rfl
  | cons a l ih => simp only [sumF_cons, ih]; omega
theorem sumF_mul (l : List α) (f : α → Nat) (c : Nat) : sumF l (fun x => c * f x) = c * sumF l f := by
  induction l with
  | nil => rfl
  | cons a l ih => simp only [sumF_cons, ih, Nat.mul_add]
theorem sumF_le (h : ∀ x ∈ l, f x ≤ g x) : sumF l f ≤ sumF l g := by
  induction l with
  | nil => exact Nat.le_refl _
  | cons a l ih =>
    have h1 := h a (by simp)
    have h2 := ih fun x hx => h x (by simp [hx])
    simp only [sumF_cons]; omega
theorem sumF_congr (h : ∀ x ∈ l, f x = g x) : sumF l f = sumF l g := by
  unfold sumF; rw [List.map_congr_left h]
theorem sumF_perm (h : l.Perm m) (f : α → Nat) : sumF l f = sumF m f := (h.map f).sum_nat
theorem sumF_const (l : List α) (c : Nat) : sumF l (fun _ => c) = c * l.length := by
  induction l with
  | nil => rfl
  | cons a l ih => simp only [sumF_cons, ih, List.length_cons, Nat.mul_add]; omega
theorem sumF_filter (l : List α) (p : α → Bool) (f : α → Nat) : sumF (l.filter p) f = sumF l fun x => if p x then f x else 0 := by
  induction l with
  | nil => rfl
  | cons a l ih =>
    rw [sumF_cons]
    cases h : p a with
    | false => rw [List.filter_cons_of_neg (by simp [h]), ih]; simp
    | true => rw [List.filter_cons_of_pos h, sumF_cons, ih]; simp
theorem sumF_pos (x : α) (hx : x ∈ l) : f x ≤ sumF l f := by
  induction l with
  | nil => cases hx
  | cons a l ih =>
    rw [sumF_cons]
    rcases List.mem_cons.1 hx with rfl | hx
    · omega
    · have := ih hx; omega
end

theorem sumC_append (l m : List Bun) : sumC (l ++ m) = sumC l + sumC m := sumF_append _ _ _
theorem sumC_cons (a : Bun) (l : List Bun) : sumC (a :: l) = a.1 + sumC l := sumF_cons _ _ _
theorem sumC_perm {l m : List Bun} (h : l.Perm m) : sumC l = sumC m := sumF_perm h _
theorem flatB_append (l m : List Bun) : flatB (l ++ m) = flatB l ++ flatB m := by simp [flatB]
theorem flatB_cons (a : Bun) (l : List Bun) : flatB (a :: l) = a.2 ++ flatB l := by simp [flatB]
theorem flatB_perm {l m : List Bun} (h : l.Perm m) : (flatB l).Perm (flatB m) := h.flatMap_right _

/-- Two steps at a time. -/
theorem two_ind {α : Type} {P : List α → Prop} (h0 : P []) (h1 : ∀ a, P [a]) (h2 : ∀ a b l, P l → P (a :: b :: l)) : ∀ l, P l
  | [] => h0
  | [a] => h1 a
  | a :: b :: l => h2 a b l (two_ind h0 h1 h2 l)
theorem pairsOf_length (l : List Bun) : (pairsOf l).length = l.length / 2 := by
  induction l using two_ind with
  | h0 => rfl
  | h1 a => simp [pairsOf]
  | h2 a b l ih => simp [pairsOf, ih]; omega
theorem pairsOf_take (l : List Bun) : ∀ q, sumC ((pairsOf l).take q) = sumC (l.take (2 * (min q (l.length / 2)))) := by
  induction l using two_ind with
  | h0 => intro q; simp [pairsOf]
  | h1 a => intro q; simp [pairsOf]
  | h2 a b l ih =>
    intro q
    cases q with
    | zero => simp
    | succ q =>
      have e : 2 * min (q + 1) ((a :: b :: l).length / 2) = 2 * min q (l.length / 2) + 1 + 1 := by simp; omega
      rw [e]
      simp only [pairsOf, List.take_succ_cons, sumC_cons, ih q, mergeB]
      omega
theorem mem_perm {α : Type} {a : α} {l : List α} (h : a ∈ l) : ∃ m, l.Perm (a :: m) := by
  obtain ⟨s, t, rfl⟩ := List.append_of_mem h
  exact ⟨s ++ t, List.perm_middle⟩
/-- Of a sorted list the first ones cost least. -/
theorem least {q : List Bun} (hq : Asc q) : ∀ (m : Nat) (x y : List Bun), q.Perm (x ++ y) → m ≤ x.length → sumC (q.take m) ≤ sumC x := by
  induction q with
  | nil => intro m x y h hm; simp [sumC]
  | cons a q ih =>
    intro m x y h hm
    cases m with
    | zero => simp [sumC]
    | succ m =>
      obtain ⟨ha, hq'⟩ := List.pairwise_cons.1 hq
      rw [List.take_succ_cons, sumC_cons]
      have hmem : a ∈ x ++ y := h.mem_iff.1 (by simp)
      rcases List.mem_append.1 hmem with hx | hy
      · obtain ⟨x', hp⟩ := mem_perm hx
        have h2 : q.Perm (x' ++ y) := by
          have : (a :: q).Perm (a :: (x' ++ y)) := h.trans (hp.append_right y)
          exact this.cons_inv
        have h3 := ih hq' m _ _ h2 (by have := hp.length_eq; simp at this; omega)
        have h4 := sumC_perm hp
        rw [sumC_cons] at h4
        omega
      · cases x with
        | nil => simp at hm
        | cons b x =>
          obtain ⟨y', hp⟩ := mem_perm hy
          have h2 : q.Perm (x ++ (b :: y')) := by
            have h5 : (a :: q).Perm (a :: (b :: x ++ y')) := by
              refine h.trans ((hp.append_left (b :: x)).trans ?_)
              exact List.perm_middle
            exact h5.cons_inv.trans List.perm_middle.symm
          have h3 := ih hq' m _ _ h2 (by simp at hm; omega)
          have h6 : a.1 ≤ b.1 := ha b (h2.mem_iff.2 (by simp))
          rw [sumC_cons]
          omega

theorem wid_succ {t : Nat} (h : t ≤ 16) : 2 * wid (t + 1) = 131072 + wid t := by
  have e : 2 ^ (17 - t) = 2 * 2 ^ (17 - (t + 1)) := by rw [show 17 - t = (17 - (t + 1)) + 1 by omega, Nat.pow_succ]; omega
  have h1 : 2 ^ (17 - t) ≤ 2 ^ 17 := Nat.pow_le_pow_right (by omega) (by omega)
  have : 2 ^ 17 = 131072 := by decide
  unfold wid
  omega
theorem perm_filter {α : Type} (p : α → Bool) (l : List α) : (l.filter p ++ l.filter fun x => !p x).Perm l := List.filter_append_perm p l
theorem cross {α : Type} (a b c : List α) (n : Nat) : (a ++ b ++ c).Perm (a ++ c.take n ++ (b ++ c.drop n)) := by
  have h : (b ++ (c.take n ++ c.drop n)).Perm (c.take n ++ (b ++ c.drop n)) := by
    rw [← List.append_assoc, ← List.append_assoc]
    exact List.perm_append_comm.append_right _
  rw [List.take_append_drop] at h
  rw [List.append_assoc, List.append_assoc]
  exact h.append_left a
theorem arith0 {c m k X Y : Nat} (h1 : m * c ≤ X) (h2 : 2 * X = 2 * c * k + Y) : 2 * (m - k) * c ≤ Y := by
  rcases Nat.le_total m k with h | h
  · rw [Nat.sub_eq_zero_of_le h]; simp
  · obtain ⟨d, rfl⟩ : ∃ d, m = k + d := ⟨m - k, by omega⟩
    rw [Nat.add_sub_cancel_left]
    have e : 2 * ((k + d) * c) = 2 * c * k + 2 * d * c := by
      rw [Nat.add_mul, Nat.mul_add, ← Nat.mul_assoc 2 d c, Nat.mul_comm k c, ← Nat.mul_assoc]
    have h3 := Nat.mul_le_mul_left 2 h1
    rw [e, h2] at h3
    exact Nat.le_of_add_le_add_left h3
theorem arith1 {m k X Y : Nat} (h1 : m * 65536 ≤ X) (h2 : 2 * X = 131072 * k + Y) : 2 * (m - k) * 65536 ≤ Y := arith0 h1 (h2.trans (by rw [show 2 * 65536 = 131072 by rfl]))
/-- No lengths that leave room cost less. -/
theorem Chain.least {w : Int → Nat} {idx : List Int} {j : Nat} {l : List Bun} (h : Chain w idx j l) : j ≤ 16 → ∀ (t : Int → Nat) (m : Nat), (∀ i ∈ idx, t i ≤ j) → m * 65536 ≤ sumF idx (fun i => wid (t i)) → m ≤ l.length ∧ sumC (l.take m) ≤ sumF idx fun i => w i * t i := by
  induction h with
  | zero =>
    intro _ t m ht hm
    have : sumF idx (fun i => wid (t i)) = sumF idx fun _ => 0 := sumF_congr fun i hi => by have := ht i hi; rw [show t i = 0 by omega]; rfl
    rw [this, sumF_const] at hm
    have : m = 0 := by omega
    subst this
    exact ⟨Nat.le_refl _, by simp [sumC]⟩
  | @succ j l q h hp hq ih =>
    intro hj t m ht hm
    have e1 : 2 * sumF idx (fun i => wid (t i)) = 131072 * (idx.filter fun i => decide (1 ≤ t i)).length + sumF idx fun i => wid (t i - 1) := by
      rw [← sumF_mul, ← sumF_const, sumF_filter, ← sumF_add]
      refine sumF_congr fun i hi => ?_
      have := ht i hi
      by_cases h1 : 1 ≤ t i
      · have h2 := wid_succ (t := t i - 1) (by omega)
        rw [show t i - 1 + 1 = t i by omega] at h2
        simp [h1, h2]
      · rw [show t i = 0 by omega]; decide
    obtain ⟨k, hk⟩ : ∃ k, k = (idx.filter fun i => decide (1 ≤ t i)).length := ⟨_, rfl⟩
    rw [← hk] at e1
    have hh : 2 * (m - k) * 65536 ≤ sumF idx (fun i => wid (t i - 1)) := by
      exact arith1 hm e1
    have hh2 : ∀ i ∈ idx, t i - 1 ≤ j := fun i hi => by have := ht i hi; omega
    obtain ⟨h3, h4⟩ := ih (by omega) (fun i => t i - 1) (2 * (m - k)) hh2 hh
    have hpl := pairsOf_length l
    have hx := Go.Proofs.Ytddkhkpdbjjboaa.least hq m (singlesOf w (idx.filter fun i => decide (1 ≤ t i)) ++ (pairsOf l).take (m - k)) (singlesOf w (idx.filter fun i => !decide (1 ≤ t i)) ++ (pairsOf l).drop (m - k)) (by
      have p1 : (singlesOf w (idx.filter fun i => decide (1 ≤ t i)) ++ singlesOf w (idx.filter fun i => !decide (1 ≤ t i))).Perm (singlesOf w idx) := by
        rw [singlesOf, singlesOf, ← List.map_append]; exact (perm_filter _ _).map _
      refine hp.trans ((p1.symm.append_right _).trans ?_)
      exact cross _ _ (pairsOf l) (m - k)) (by
      simp [singlesOf, ← hk]; omega)
    refine ⟨?_, ?_⟩
    · have := hp.length_eq
      simp only [List.length_append, singlesOf, List.length_map] at this
      have h5 : k ≤ idx.length := by rw [hk]; exact List.length_filter_le _ _
      omega
    · refine Nat.le_trans hx ?_
      rw [sumC_append, pairsOf_take, show min (m - k) (l.length / 2) = m - k by omega]
      have e2 : sumC (singlesOf w (idx.filter fun i => decide (1 ≤ t i))) = sumF idx fun i => if decide (1 ≤ t i) then w i else 0 := by
        rw [← sumF_filter]; simp [sumC, singlesOf, sumF, single1, Function.comp_def]
      have e3 : sumF idx (fun i => w i * t i) = sumF idx (fun i => if decide (1 ≤ t i) then w i else 0) + sumF idx fun i => w i * (t i - 1) := by
        rw [← sumF_add]
        refine sumF_congr fun i _ => ?_
        by_cases h1 : 1 ≤ t i
        · simp only [h1, decide_true, if_true]
          obtain ⟨u, hu⟩ : ∃ u, t i = u + 1 := ⟨t i - 1, by omega⟩
          rw [hu, Nat.mul_add]; simp; omega
        · rw [show t i = 0 by omega]; simp
      rw [e2, e3]
      omega

/-! ### what is chosen leaves room -/
theorem pairsOf_unpack (l : List Bun) : ∀ x y : List Bun, (x ++ y).Perm (pairsOf l) → ∃ t r, (t ++ r).Perm l ∧ t.length = 2 * x.length ∧ (flatB t).Perm (flatB x) := by
  induction l using two_ind with
  | h0 =>
    intro x y h
    have := List.Perm.eq_nil h
    simp at this
    obtain ⟨rfl, rfl⟩ := this
    exact ⟨[], [], .refl _, rfl, .refl _⟩
  | h1 a =>
    intro x y h
    have : x ++ y = [] := List.Perm.eq_nil (by simpa [pairsOf] using h)
    simp at this
    obtain ⟨rfl, rfl⟩ := this
    exact ⟨[], [a], .refl _, rfl, .refl _⟩
  | h2 a b l ih =>
    intro x y h
    simp only [pairsOf] at h
    have hmem : mergeB a b ∈ x ++ y := h.mem_iff.2 (by simp)
    rcases List.mem_append.1 hmem with hx | hy
    · obtain ⟨x', hp⟩ := mem_perm hx
      have h2 : (x' ++ y).Perm (pairsOf l) := ((hp.append_right y).symm.trans h).cons_inv
      obtain ⟨t, r, h3, h4, h5⟩ := ih x' y h2
      refine ⟨a :: b :: t, r, (h3.cons b).cons a, ?_, ?_⟩
      · have := hp.length_eq; simp at this ⊢; omega
      · refine List.Perm.trans ?_ (flatB_perm hp).symm
        simp only [flatB_cons, mergeB, List.append_assoc]
        exact (h5.append_left _).append_left _
    · obtain ⟨y', hp⟩ := mem_perm hy
      have h2 : (x ++ y').Perm (pairsOf l) := by
        have : (mergeB a b :: (x ++ y')).Perm (mergeB a b :: pairsOf l) := (List.perm_middle.symm.trans (hp.append_left x).symm).trans h
        exact this.cons_inv
      obtain ⟨t, r, h3, h4, h5⟩ := ih x y' h2
      refine ⟨t, a :: b :: r, ?_, h4, h5⟩
      refine List.perm_middle.trans ((List.perm_middle.cons a).trans ?_)
      exact (h3.cons b).cons a
theorem Chain.each {w : Int → Nat} {idx : List Int} {j : Nat} {l : List Bun} (h : Chain w idx j l) : ∀ b ∈ l, b.1 = sumF b.2 w ∧ b.2 ≠ [] ∧ ∀ s ∈ b.2, s ∈ idx := by
  induction h with
  | zero => simp
  | @succ j l q h hp hq ih =>
    have hpair : ∀ l : List Bun, (∀ b ∈ l, b.1 = sumF b.2 w ∧ b.2 ≠ [] ∧ ∀ s ∈ b.2, s ∈ idx) → ∀ b ∈ pairsOf l, b.1 = sumF b.2 w ∧ b.2 ≠ [] ∧ ∀ s ∈ b.2, s ∈ idx := by
      intro l
      induction l using two_ind with
      | h0 => intro _ b hb; simp [pairsOf] at hb
      | h1 a => intro _ b hb; simp [pairsOf] at hb
      | h2 a b l ih =>
        intro hl c hc
        simp only [pairsOf, List.mem_cons] at hc
        rcases hc with rfl | hc
        · have ha := hl a (by simp)
          have hb := hl b (by simp)
          refine ⟨?_, ?_, ?_⟩
          · simp only [mergeB, sumF_append, ← ha.1, ← hb.1]
          · simp [mergeB, ha.2.1]
          · intro s hs
            simp only [mergeB, List.mem_append] at hs
            rcases hs with hs | hs
            · exact ha.2.2 s hs
            · exact hb.2.2 s hs
        · exact ih (fun x hx => hl x (by simp [hx])) c hc
    intro b hb
    rcases List.mem_append.1 (hp.mem_iff.1 hb) with hb | hb
    · simp only [singlesOf, List.mem_map] at hb
      obtain ⟨i, hi, rfl⟩ := hb
      exact ⟨by simp [single1, sumF], by simp [single1], by simpa [single1] using hi⟩
    · exact hpair l ih b hb
theorem pairs_long {w : Int → Nat} {idx : List Int} {l : List Bun} (h : ∀ b ∈ l, b.2 ≠ []) : ∀ b ∈ pairsOf l, 2 ≤ b.2.length := by
  induction l using two_ind with
  | h0 => intro b hb; simp [pairsOf] at hb
  | h1 a => intro b hb; simp [pairsOf] at hb
  | h2 a b l ih =>
    intro c hc
    simp only [pairsOf, List.mem_cons] at hc
    rcases hc with rfl | hc
    · have h1 := List.length_pos_iff.2 (h a (by simp))
      have h2 := List.length_pos_iff.2 (h b (by simp))
      simp [mergeB]; omega
    · exact ih (fun x hx => h x (by simp [hx])) c hc
/-- Over symbols that are apart, the symbols of a list by their counts. -/
theorem sum_counts {idx f : List Int} (hn : idx.Nodup) (w : Int → Nat) (hf : ∀ s ∈ f, s ∈ idx) : sumF f w = sumF idx fun i => w i * f.count i := by
  induction f with
  | nil => simp only [List.count_nil, Nat.mul_zero]; rw [sumF_const]; simp [sumF]
  | cons s f ih =>
    rw [sumF_cons, ih fun x hx => hf x (by simp [hx])]
    have key : ∀ idx : List Int, idx.Nodup → s ∈ idx → sumF idx (fun i => w i * (s :: f).count i) = w s + sumF idx fun i => w i * f.count i := by
      intro idx
      induction idx with
      | nil => intro _ h; cases h
      | cons i idx ih2 =>
        intro hn hs
        obtain ⟨h1, h2⟩ := List.nodup_cons.1 hn
        rw [sumF_cons, sumF_cons]
        by_cases e : s = i
        · subst e
          have : sumF idx (fun i => w i * (s :: f).count i) = sumF idx fun i => w i * f.count i := sumF_congr fun x hx => by
            rw [List.count_cons_of_ne (by rintro rfl; exact h1 hx)]
          rw [this, List.count_cons_self, Nat.mul_add]; omega
        · rw [ih2 h2 (by simpa [e] using hs), List.count_cons_of_ne e]; omega
    rw [key idx hn (hf s (by simp))]
theorem flat_single (w : Int → Nat) (idx : List Int) : flatB (singlesOf w idx) = idx := by
  induction idx with
  | nil => rfl
  | cons i idx ih => simp only [singlesOf, List.map_cons, flatB_cons, single1] at ih ⊢; simp [ih]
theorem Chain.room {w : Int → Nat} {idx : List Int} (hn : idx.Nodup) {j : Nat} {l : List Bun} (h : Chain w idx j l) : j ≤ 16 → ∀ t r : List Bun, (t ++ r).Perm l → (∀ i ∈ idx, (flatB t).count i ≤ j) ∧ t.length * 65536 ≤ sumF idx fun i => wid ((flatB t).count i) := by
  induction h with
  | zero =>
    intro _ t r h
    have := List.Perm.eq_nil h
    simp at this
    obtain ⟨rfl, rfl⟩ := this
    exact ⟨by simp [flatB], by simp⟩
  | @succ j l q h hp hq ih =>
    intro hj t r htr
    have hlong := pairs_long (w := w) (idx := idx) fun b hb => (h.each b hb).2.1
    have hall : (t ++ r).Perm (singlesOf w idx ++ pairsOf l) := htr.trans hp
    have f1 : (singlesOf w idx).filter (fun b => b.2.length == 1) = singlesOf w idx := List.filter_eq_self.2 fun b hb => by
      simp only [singlesOf, List.mem_map] at hb; obtain ⟨i, _, rfl⟩ := hb; rfl
    have f2 : (pairsOf l).filter (fun b => b.2.length == 1) = [] := List.filter_eq_nil_iff.2 fun b hb => by have := hlong b hb; simp; omega
    have f3 : (singlesOf w idx).filter (fun b => !(b.2.length == 1)) = [] := List.filter_eq_nil_iff.2 fun b hb => by
      simp only [singlesOf, List.mem_map] at hb; obtain ⟨i, _, rfl⟩ := hb; simp [single1]
    have f4 : (pairsOf l).filter (fun b => !(b.2.length == 1)) = pairsOf l := List.filter_eq_self.2 fun b hb => by have := hlong b hb; simp; omega
    have hs := hall.filter (fun b => b.2.length == 1)
    have hpr := hall.filter (fun b => !(b.2.length == 1))
    rw [List.filter_append, List.filter_append, f1, f2, List.append_nil] at hs
    rw [List.filter_append, List.filter_append, f3, f4, List.nil_append] at hpr
    obtain ⟨t', r', g1, g2, g3⟩ := pairsOf_unpack l _ _ hpr
    obtain ⟨i1, i2⟩ := ih (by omega) t' r' g1
    have hcnt : ∀ i, (flatB t).count i = (flatB (t.filter fun b => b.2.length == 1)).count i + (flatB t').count i := by
      intro i
      rw [(flatB_perm (perm_filter (fun b : Bun => b.2.length == 1) t)).symm.count_eq i, flatB_append, List.count_append, g3.count_eq i]
    have hle : ∀ i, (flatB (t.filter fun b => b.2.length == 1)).count i ≤ 1 := by
      intro i
      have h1 := (flatB_perm hs).count_eq i
      rw [flatB_append, List.count_append, flat_single] at h1
      have h2 := List.nodup_iff_count.1 hn i
      omega
    have hlen : (t.filter fun b => b.2.length == 1).length = sumF idx fun i => (flatB (t.filter fun b => b.2.length == 1)).count i := by
      have h1 : ∀ s ∈ flatB (t.filter fun b => b.2.length == 1), s ∈ idx := by
        intro s hs'
        have := (flatB_perm hs).mem_iff (a := s)
        rw [flatB_append, flat_single] at this
        exact this.1 (List.mem_append_left _ hs')
      have h2 := sum_counts hn (fun _ => 1) h1
      rw [sumF_const] at h2
      simp only [Nat.one_mul] at h2
      rw [← h2]
      have : ∀ m : List Bun, (∀ b ∈ m, b.2.length = 1) → m.length = (flatB m).length := by
        intro m
        induction m with
        | nil => intro _; rfl
        | cons b m ih3 => intro hm; rw [flatB_cons, List.length_append, ← ih3 fun x hx => hm x (by simp [hx]), hm b (by simp)]; simp; omega
      exact this _ fun b hb => by simpa using (List.mem_filter.1 hb).2
    refine ⟨fun i hi => by rw [hcnt]; have := hle i; have := i1 i hi; omega, ?_⟩
    have hsum : 131072 * (t.filter fun b => b.2.length == 1).length + t'.length * 65536 ≤ 2 * sumF idx fun i => wid ((flatB t).count i) := by
      rw [hlen, ← sumF_mul, ← sumF_mul]
      refine Nat.le_trans (Nat.add_le_add_left i2 _) ?_
      rw [← sumF_add]
      refine sumF_le fun i hi => ?_
      rw [hcnt]
      have h1 := hle i
      have h2 := i1 i hi
      rcases Nat.eq_zero_or_pos ((flatB (t.filter fun b => b.2.length == 1)).count i) with h3 | h3
      · rw [h3]; simp; omega
      · rw [show (flatB (t.filter fun b => b.2.length == 1)).count i = 1 by omega]
        have := wid_succ (t := (flatB t').count i) (by omega)
        rw [Nat.add_comm 1, this]
        omega
    have hl2 := (perm_filter (fun b : Bun => b.2.length == 1) t).length_eq
    rw [List.length_append] at hl2
    clear i2 ih hlen
    generalize sumF idx (fun i => wid ((flatB t).count i)) = X at hsum ⊢
    omega

/-- Lengths that leave room. -/
def Room (idx : List Int) (t : Int → Nat) : Prop := (∀ i ∈ idx, t i ≤ 16) ∧ sumF idx (fun i => 2 ^ (16 - t i)) ≤ 65536
theorem wid_pow {t : Nat} (h : t ≤ 16) : wid t + 2 * 2 ^ (16 - t) = 131072 := by
  have e : 2 ^ (17 - t) = 2 * 2 ^ (16 - t) := by rw [show 17 - t = (16 - t) + 1 by omega, Nat.pow_succ]; omega
  have h1 : 2 ^ (17 - t) ≤ 2 ^ 17 := Nat.pow_le_pow_right (by omega) (by omega)
  have : 2 ^ 17 = 131072 := by decide
  unfold wid
  omega
theorem sum_wid {idx : List Int} {t : Int → Nat} (h : ∀ i ∈ idx, t i ≤ 16) : sumF idx (fun i => wid (t i)) + 2 * sumF idx (fun i => 2 ^ (16 - t i)) = 131072 * idx.length := by
  rw [← sumF_mul, ← sumF_add, ← sumF_const]
  exact sumF_congr fun i hi => wid_pow (h i hi)
/-- The lengths that sixteen rounds give: they leave room, and none that leave room cost less. -/
theorem Chain.best {w : Int → Nat} {idx : List Int} (hn : idx.Nodup) (h0 : 1 ≤ idx.length) (h256 : idx.length ≤ 512) {l : List Bun} (h : Chain w idx 16 l) :
    2 * idx.length - 2 ≤ l.length ∧ Room idx (fun i => (flatB (l.take (2 * idx.length - 2))).count i) ∧
    ∀ t, Room idx t → sumF idx (fun i => w i * (flatB (l.take (2 * idx.length - 2))).count i) ≤ sumF idx fun i => w i * t i := by
  obtain ⟨N, hN⟩ : ∃ N, N = idx.length := ⟨_, rfl⟩
  have hlen : 2 * idx.length - 2 ≤ l.length := by
    refine (h.least (Nat.le_refl _) (fun _ => 9) (2 * idx.length - 2) (fun i _ => by omega) ?_).1
    rw [sumF_const, show wid 9 = 130816 by decide]
    omega
  have hroom := h.room hn (Nat.le_refl _) (l.take (2 * idx.length - 2)) (l.drop (2 * idx.length - 2)) (by rw [List.take_append_drop])
  have hT : (l.take (2 * idx.length - 2)).length = 2 * idx.length - 2 := by rw [List.length_take]; omega
  refine ⟨hlen, ⟨hroom.1, ?_⟩, fun t ht => ?_⟩
  · have h1 := sum_wid (t := fun i => (flatB (l.take (2 * idx.length - 2))).count i) hroom.1
    have h2 := hroom.2
    rw [hT] at h2
    generalize sumF idx (fun i => wid ((flatB (l.take (2 * idx.length - 2))).count i)) = X at h1 h2
    generalize sumF idx (fun i => 2 ^ (16 - (flatB (l.take (2 * idx.length - 2))).count i)) = Y at h1 ⊢
    omega
  · have h1 := sum_wid ht.1
    have h2 := ht.2
    have h5 : (2 * idx.length - 2) * 65536 ≤ sumF idx (fun i => wid (t i)) := by
      generalize sumF idx (fun i => wid (t i)) = X at h1 ⊢
      generalize sumF idx (fun i => 2 ^ (16 - t i)) = Y at h1 h2
      omega
    have h3 := (h.least (Nat.le_refl _) t (2 * idx.length - 2) ht.1 h5).2
    refine Nat.le_trans (Nat.le_of_eq ?_) h3
    have h4 : ∀ s ∈ flatB (l.take (2 * idx.length - 2)), s ∈ idx := by
      intro s hs
      simp only [flatB, List.mem_flatMap] at hs
      obtain ⟨b, hb, hs⟩ := hs
      exact (h.each b (List.mem_of_mem_take hb)).2.2 s hs
    rw [← sum_counts hn w h4]
    have : ∀ m : List Bun, (∀ b ∈ m, b.1 = sumF b.2 w) → sumF (flatB m) w = sumC m := by
      intro m
      induction m with
      | nil => intro _; rfl
      | cons b m ih => intro hm; rw [flatB_cons, sumF_append, sumC_cons, ih fun x hx => hm x (by simp [hx]), ← hm b (by simp)]
    exact this _ fun b hb => (h.each b (List.mem_of_mem_take hb)).1
end Go.Proofs.Ytddkhkpdbjjboaa

/- Merging in place (Kim, Kutzner) on arrays: exchanges of ranges, rotations, and that what is merged is sorted. No program is named here. -/
namespace Go.Proofs.Ytddkhkpdbjjboaa
open Go.Sort
set_option linter.unusedVariables false
set_option linter.unusedSimpArgs false
set_option maxRecDepth 100000
variable {α : Type} [Inhabited α]

/-- i exchanges, from a and b on. -/
def sw (d : Array α) (a b : Nat) : Nat → Array α
  | 0 => d
  | i + 1 => swp (sw d a b i) (a + i) (b + i)
theorem sw_size (d : Array α) (a b i : Nat) : (sw d a b i).size = d.size := by
  induction i with
  | zero => rfl
  | succ i ih => rw [sw, size_swp, ih]
theorem sw_get (d : Array α) (a b n : Nat) (h : a + n ≤ b) (hb : b + n ≤ d.size) (t : Nat) :
    (sw d a b n)[t]! = if a ≤ t ∧ t < a + n then d[b + (t - a)]! else if b ≤ t ∧ t < b + n then d[a + (t - b)]! else d[t]! := by
  induction n generalizing t with
  | zero => rw [if_neg (by omega), if_neg (by omega)]; rfl
  | succ n ih =>
    have hs := sw_size d a b n
    have ih := fun t => ih (by omega) (by omega) t
    rw [sw]
    by_cases h1 : t = a + n
    · subst h1
      rw [swp_left _ _ _ (by omega) (by omega), ih, if_neg (by omega), if_neg (by omega), if_pos (by omega)]
      congr 1; omega
    · by_cases h2 : t = b + n
      · subst h2
        rw [swp_right _ _ _ (by omega), ih, if_neg (by omega), if_neg (by omega), if_neg (by omega), if_pos (by omega)]
        congr 1; omega
      · rw [swp_other _ _ _ _ h1 h2, ih]
        by_cases h3 : a ≤ t ∧ t < a + n
        · rw [if_pos h3, if_pos (by omega)]
        · rw [if_neg h3, if_neg (c := a ≤ t ∧ t < a + (n + 1)) (by omega)]
          by_cases h4 : b ≤ t ∧ t < b + n
          · rw [if_pos h4, if_pos (by omega)]
          · rw [if_neg h4, if_neg (by omega)]
theorem sw_perm (d : Array α) (a b n lo hi : Nat) (h1 : lo ≤ a) (h2 : a + n ≤ hi) (h3 : lo ≤ b) (h4 : b + n ≤ hi) (h5 : hi ≤ d.size) : PermIn lo hi d (sw d a b n) := by
  induction n with
  | zero => exact permIn_refl _ _ _
  | succ n ih => exact permIn_trans _ _ _ _ _ (ih (by omega) (by omega)) (swp_permIn _ _ _ _ _ (by omega) (by omega) (by omega) (by omega) (by rw [sw_size]; exact h5))

/-- What lies at t when a .. m and m .. b have changed places. -/
def rg (d : Array α) (a m b t : Nat) : α := if a ≤ t ∧ t < b then if t < a + (b - m) then d[t + (m - a)]! else d[t - (b - m)]! else d[t]!
theorem rg_out (d : Array α) {a m b t : Nat} (h : t < a ∨ b ≤ t) : rg d a m b t = d[t]! := if_neg (by omega)
theorem rg_left (d : Array α) {a m b t : Nat} (h1 : a ≤ t) (h2 : t < a + (b - m)) (h3 : a ≤ m) (h4 : m ≤ b) : rg d a m b t = d[t + (m - a)]! := by
  unfold rg; rw [if_pos (by omega), if_pos h2]
theorem rg_right (d : Array α) {a m b t : Nat} (h1 : a + (b - m) ≤ t) (h2 : t < b) (h3 : a ≤ m) (h4 : m ≤ b) : rg d a m b t = d[t - (b - m)]! := by
  unfold rg; rw [if_pos (by omega), if_neg (by omega)]
theorem rg_none (d : Array α) {a b t : Nat} : rg d a a b t = d[t]! ∧ (a ≤ b → rg d a b b t = d[t]!) := by
  constructor
  · unfold rg; split
    · rw [if_pos (by omega)]; congr 1; omega
    · rfl
  · intro h; unfold rg; split
    · rw [if_neg (by omega)]; congr 1; omega
    · rfl
/-- The first part is longer. -/
theorem rg_more (d : Array α) {i j m t : Nat} (hij : j < i) (hj : 0 < j) (him : i ≤ m) (hs : m + j ≤ d.size) : rg (sw d (m - i) m j) (m - (i - j)) m (m + j) t = rg d (m - i) m (m + j) t := by
  have g := sw_get d (m - i) m j (by omega) (by omega)
  by_cases h1 : t < m - i ∨ m + j ≤ t
  · rw [rg_out _ (by omega), rg_out _ h1, g, if_neg (by omega), if_neg (by omega)]
  · by_cases h2 : t < m - (i - j)
    · rw [rg_out _ (by omega), g, if_pos (by omega), rg_left _ (by omega) (by omega) (by omega) (by omega)]
      congr 1; omega
    · by_cases h3 : t < m - (i - j) + j
      · rw [rg_left _ (by omega) (by omega) (by omega) (by omega), g, if_neg (by omega), if_pos (by omega), rg_right _ (by omega) (by omega) (by omega) (by omega)]
        congr 1; omega
      · rw [rg_right _ (by omega) (by omega) (by omega) (by omega), g, if_neg (by omega), if_neg (by omega), rg_right _ (by omega) (by omega) (by omega) (by omega)]
/-- The second part is longer. -/
theorem rg_less (d : Array α) {i j m t : Nat} (hij : i < j) (hi : 0 < i) (him : i ≤ m) (hs : m + j ≤ d.size) : rg (sw d (m - i) (m + j - i) i) (m - i) m (m + (j - i)) t = rg d (m - i) m (m + j) t := by
  have g := sw_get d (m - i) (m + j - i) i (by omega) (by omega)
  by_cases h1 : t < m - i ∨ m + j ≤ t
  · rw [rg_out _ (by omega), rg_out _ h1, g, if_neg (by omega), if_neg (by omega)]
  · by_cases h2 : m + (j - i) ≤ t
    · rw [rg_out _ (by omega), g, if_neg (by omega), if_pos (by omega), rg_right _ (by omega) (by omega) (by omega) (by omega)]
      congr 1; omega
    · by_cases h3 : t < m - i + (j - i)
      · rw [rg_left _ (by omega) (by omega) (by omega) (by omega), g, if_neg (by omega), if_neg (by omega), rg_left _ (by omega) (by omega) (by omega) (by omega)]
      · rw [rg_right _ (by omega) (by omega) (by omega) (by omega), g, if_pos (by omega), rg_left _ (by omega) (by omega) (by omega) (by omega)]
        congr 1; omega
/-- Both are as long. -/
theorem rg_same (d : Array α) {i m t : Nat} (him : i ≤ m) (hs : m + i ≤ d.size) : (sw d (m - i) m i)[t]! = rg d (m - i) m (m + i) t := by
  rw [sw_get d (m - i) m i (by omega) (by omega)]
  by_cases h1 : t < m - i ∨ m + i ≤ t
  · rw [rg_out _ h1, if_neg (by omega), if_neg (by omega)]
  · by_cases h2 : t < m
    · rw [if_pos (by omega), rg_left _ (by omega) (by omega) (by omega) (by omega)]; congr 1; omega
    · rw [if_neg (by omega), if_pos (by omega), rg_right _ (by omega) (by omega) (by omega) (by omega)]; congr 1; omega
/-- One element goes up, step by step. -/
theorem rg_up (d dk : Array α) {a k t : Nat} (hs : dk.size = d.size) (hk : k + 1 < d.size) (hak : a ≤ k) (h : ∀ t, dk[t]! = rg d a (a + 1) (k + 1) t) : (swp dk k (k + 1))[t]! = rg d a (a + 1) (k + 2) t := by
  by_cases h1 : t = k
  · subst h1
    rw [swp_left _ _ _ (by omega) (by omega), h, rg_out _ (by omega), rg_left _ (by omega) (by omega) (by omega) (by omega)]; congr 1; omega
  · by_cases h2 : t = k + 1
    · subst h2
      rw [swp_right _ _ _ (by omega), h, rg_right _ (by omega) (by omega) (by omega) (by omega), rg_right _ (by omega) (by omega) (by omega) (by omega)]; congr 1; omega
    · rw [swp_other _ _ _ _ h1 h2, h]
      by_cases h3 : t < a ∨ k + 2 ≤ t
      · rw [rg_out _ (by omega), rg_out _ h3]
      · rw [rg_left _ (by omega) (by omega) (by omega) (by omega), rg_left _ (by omega) (by omega) (by omega) (by omega)]
/-- One element goes down, step by step. -/
theorem rg_down (d dk : Array α) {k m t : Nat} (hs : dk.size = d.size) (hm : m < d.size) (hk : 0 < k) (hkm : k ≤ m) (h : ∀ t, dk[t]! = rg d k m (m + 1) t) : (swp dk k (k - 1))[t]! = rg d (k - 1) m (m + 1) t := by
  by_cases h1 : t = k
  · subst h1
    rw [swp_left _ _ _ (by omega) (by omega), h, rg_out _ (by omega), rg_right _ (by omega) (by omega) (by omega) (by omega)]; congr 1; omega
  · by_cases h2 : t = k - 1
    · subst h2
      rw [swp_right _ _ _ (by omega), h, rg_left _ (by omega) (by omega) (by omega) (by omega), rg_left _ (by omega) (by omega) (by omega) (by omega)]; congr 1; omega
    · rw [swp_other _ _ _ _ h1 h2, h]
      by_cases h3 : t < k - 1 ∨ m + 1 ≤ t
      · rw [rg_out _ (by omega), rg_out _ h3]
      · rw [rg_right _ (by omega) (by omega) (by omega) (by omega), rg_right _ (by omega) (by omega) (by omega) (by omega)]

/-! ### sorted by a number -/
def SortK (key : α → Int) (a b : Nat) (d : Array α) : Prop := ∀ i j, a ≤ i → i < j → j < b → key d[i]! ≤ key d[j]!
section
variable {key : α → Int} {d d' : Array α} {a b m i : Nat}
theorem SortK.le (h : SortK key a b d) {i j : Nat} (h1 : a ≤ i) (h2 : i ≤ j) (h3 : j < b) : key d[i]! ≤ key d[j]! := by
  rcases Nat.eq_or_lt_of_le h2 with rfl | h2
  · exact Int.le_refl _
  · exact h i j h1 h2 h3
theorem SortK.part (h : SortK key a b d) {a' b' : Nat} (h1 : a ≤ a') (h2 : b' ≤ b) : SortK key a' b' d := fun i j hi hij hj => h i j (by omega) hij (by omega)
theorem SortK.congr (h : SortK key a b d) (he : ∀ i, a ≤ i → i < b → d'[i]! = d[i]!) : SortK key a b d' := fun i j hi hij hj => by
  rw [he i hi (by omega), he j (by omega) hj]; exact h i j hi hij hj
theorem SortK.one (key : α → Int) (d : Array α) {a b : Nat} (h : b ≤ a + 1) : SortK key a b d := fun i j hi hij hj => by omega
/-- One element in front, brought to its place. -/
theorem sorted_up (hs : SortK key (a + 1) b d) (h1 : a + 1 ≤ i) (hib : i ≤ b) (hlo : ∀ h, a + 1 ≤ h → h < i → key d[h]! < key d[a]!) (hhi : ∀ h, i ≤ h → h < b → key d[a]! ≤ key d[h]!) (he : ∀ t, d'[t]! = rg d a (a + 1) i t) : SortK key a b d' := by
  intro x y hx hxy hy
  rw [he, he]
  by_cases c1 : y < i - 1
  · rw [rg_left _ (by omega) (by omega) (by omega) (by omega), rg_left _ (by omega) (by omega) (by omega) (by omega)]
    exact hs.le (by omega) (by omega) (by omega)
  · by_cases c2 : y = i - 1
    · subst c2
      rw [rg_left _ (by omega) (by omega) (by omega) (by omega), rg_right _ (by omega) (by omega) (by omega) (by omega), show i - 1 - (i - (a + 1)) = a by omega]
      have := hlo (x + (a + 1 - a)) (by omega) (by omega); omega
    · rw [rg_out _ (t := y) (by omega)]
      by_cases c3 : x < i - 1
      · rw [rg_left _ (by omega) (by omega) (by omega) (by omega)]
        exact hs.le (by omega) (by omega) (by omega)
      · by_cases c4 : x = i - 1
        · subst c4
          rw [rg_right _ (by omega) (by omega) (by omega) (by omega), show i - 1 - (i - (a + 1)) = a by omega]
          exact hhi y (by omega) (by omega)
        · rw [rg_out _ (by omega)]
          exact hs.le (by omega) (by omega) (by omega)
/-- One element behind, brought to its place. -/
theorem sorted_down (hs : SortK key a m d) (h1 : a ≤ i) (him : i ≤ m) (hlo : ∀ h, a ≤ h → h < i → key d[h]! ≤ key d[m]!) (hhi : ∀ h, i ≤ h → h < m → key d[m]! < key d[h]!) (he : ∀ t, d'[t]! = rg d i m (m + 1) t) : SortK key a (m + 1) d' := by
  intro x y hx hxy hy
  rw [he, he]
  by_cases c1 : y < i
  · rw [rg_out _ (by omega), rg_out _ (by omega)]
    exact hs.le (by omega) (by omega) (by omega)
  · by_cases c2 : y = i
    · subst c2
      rw [rg_out _ (t := x) (by omega), rg_left _ (by omega) (by omega) (by omega) (by omega), show y + (m - y) = m by omega]
      exact hlo x (by omega) (by omega)
    · rw [rg_right (t := y) _ (by omega) (by omega) (by omega) (by omega)]
      by_cases c3 : x < i
      · rw [rg_out _ (by omega)]
        exact hs.le (by omega) (by omega) (by omega)
      · by_cases c4 : x = i
        · subst c4
          rw [rg_left _ (by omega) (by omega) (by omega) (by omega), show x + (m - x) = m by omega]
          have := hhi (y - (m + 1 - m)) (by omega) (by omega); omega
        · rw [rg_right _ (by omega) (by omega) (by omega) (by omega)]
          exact hs.le (by omega) (by omega) (by omega)
/-- Two sorted halves, no element of the first above one of the second. -/
theorem sorted_join (h1 : SortK key a m d) (h2 : SortK key m b d) (h3 : ∀ x y, a ≤ x → x < m → m ≤ y → y < b → key d[x]! ≤ key d[y]!) : SortK key a b d := by
  intro x y hx hxy hy
  by_cases c1 : y < m
  · exact h1 x y hx hxy c1
  · by_cases c2 : x < m
    · exact h3 x y hx c2 (by omega) hy
    · exact h2 x y (by omega) hxy hy
/-- What the search for the middle has found. -/
structure Cut (key : α → Int) (d : Array α) (a m b mid start : Nat) : Prop where
  h1 : a ≤ start
  h2 : start ≤ m
  h3 : start ≤ mid
  h4 : m ≤ mid + m - start
  h5 : mid ≤ mid + m - start
  h6 : mid + m - start ≤ b
  lo : ∀ x y, a ≤ x → x < start → mid + m - start ≤ y → y < b → key d[x]! ≤ key d[y]!
  hi : ∀ x y, m ≤ x → x < mid + m - start → start ≤ y → y < m → key d[x]! ≤ key d[y]!
/-- When it ends. -/
theorem Cut.of (hU : SortK key a m d) (hV : SortK key m b d) {mid s0 r0 start : Nat} (ham : a < m) (hmb : m < b) (hmid : mid = (a + b) / 2)
    (h0 : if mid < m then s0 = mid + m - b ∧ r0 = mid else s0 = a ∧ r0 = m) (hs : s0 ≤ start) (hr : start ≤ r0)
    (hlo : ∀ c, s0 ≤ c → c < start → key d[c]! ≤ key d[mid + m - 1 - c]!) (hhi : ∀ c, start ≤ c → c < r0 → key d[mid + m - 1 - c]! < key d[c]!) : Cut key d a m b mid start := by
  have hc : s0 = (if mid < m then mid + m - b else a) ∧ r0 = if mid < m then mid else m := by
    split at h0
    · rename_i h; rw [if_pos h, if_pos h]; exact h0
    · rename_i h; rw [if_neg h, if_neg h]; exact h0
  obtain ⟨e1, e2⟩ := hc
  have b1 : a ≤ s0 := by rw [e1]; split <;> omega
  have b2 : r0 ≤ m := by rw [e2]; split <;> omega
  have b3 : r0 ≤ mid := by rw [e2]; split <;> omega
  have b4 : mid + m - start ≤ b := by
    split at e1 <;> omega
  refine ⟨by omega, by omega, by omega, by omega, by omega, b4, fun x y hx hxs hy hyb => ?_, fun x y hx hxe hy hym => ?_⟩
  · by_cases h : s0 < start
    · have := hlo (start - 1) (by omega) (by omega)
      have h2 := hU.le (i := x) (j := start - 1) hx (by omega) (by omega)
      have h3 := hV.le (i := mid + m - 1 - (start - 1)) (j := y) (by omega) (by omega) hyb
      omega
    · split at e1 <;> omega
  · by_cases h : start < r0
    · have := hhi start (Nat.le_refl _) h
      have h2 := hV.le (i := x) (j := mid + m - 1 - start) hx (by omega) (by omega)
      have h3 := hU.le (i := start) (j := y) (by omega) hy hym
      omega
    · split at e2 <;> omega
theorem Cut.rot {mid start : Nat} (hc : Cut key d a m b mid start) (hU : SortK key a m d) (hV : SortK key m b d) (he : ∀ t, d'[t]! = rg d start m (mid + m - start) t) :
    SortK key a start d' ∧ SortK key start mid d' ∧ SortK key mid (mid + m - start) d' ∧ SortK key (mid + m - start) b d' ∧ ∀ x y, a ≤ x → x < mid → mid ≤ y → y < b → key d'[x]! ≤ key d'[y]! := by
  obtain ⟨h1, h2, h3, h4, h5, h6, lo, hi⟩ := hc
  have g1 : ∀ t, t < start → d'[t]! = d[t]! := fun t ht => by rw [he, rg_out _ (by omega)]
  have g2 : ∀ t, start ≤ t → t < mid → d'[t]! = d[t + (m - start)]! := fun t h7 h8 => by rw [he, rg_left _ h7 (by omega) h2 h4]
  have g3 : ∀ t, mid ≤ t → t < mid + m - start → d'[t]! = d[t - (mid - start)]! := fun t h7 h8 => by
    rw [he, rg_right _ (by omega) h8 h2 h4]; congr 1; omega
  have g4 : ∀ t, mid + m - start ≤ t → d'[t]! = d[t]! := fun t ht => by rw [he, rg_out _ (by omega)]
  refine ⟨?_, ?_, ?_, ?_, ?_⟩
  · exact (hU.part (Nat.le_refl _) h2).congr fun i _ h => g1 i h
  · intro x y hx hxy hy; rw [g2 x hx (by omega), g2 y (by omega) hy]; exact hV.le (by omega) (by omega) (by omega)
  · intro x y hx hxy hy; rw [g3 x hx (by omega), g3 y (by omega) hy]; exact hU.le (by omega) (by omega) (by omega)
  · exact (hV.part h4 (Nat.le_refl _)).congr fun i h _ => g4 i h
  · intro x y hx hxm hy hyb
    by_cases c1 : x < start
    · rw [g1 x c1]
      by_cases c2 : y < mid + m - start
      · rw [g3 y hy c2]; exact hU.le hx (by omega) (by omega)
      · rw [g4 y (by omega)]; exact lo x y hx c1 (by omega) hyb
    · rw [g2 x (by omega) hxm]
      by_cases c2 : y < mid + m - start
      · rw [g3 y hy c2]; exact hi _ _ (by omega) (by omega) (by omega) (by omega)
      · rw [g4 y (by omega)]; exact hV.le (by omega) (by omega) hyb
/-- Both halves sorted: the whole. -/
theorem merge_done {mid : Nat} {d1 d2 d3 : Array α} (hb : b ≤ d1.size) (ham : a ≤ mid) (hmb : mid ≤ b) (hx : ∀ x y, a ≤ x → x < mid → mid ≤ y → y < b → key d1[x]! ≤ key d1[y]!)
    (p1 : PermIn a mid d1 d2) (s1 : SortK key a mid d2) (p2 : PermIn mid b d2 d3) (s2 : SortK key mid b d3) : PermIn a b d1 d3 ∧ SortK key a b d3 := by
  have hs2 : d2.size = d1.size := p1.1
  refine ⟨permIn_trans _ _ _ _ _ (permIn_mono _ _ _ _ _ _ (Nat.le_refl _) hmb (by omega) p1) (permIn_mono _ _ _ _ _ _ ham (Nat.le_refl _) (by omega) p2), ?_⟩
  refine sorted_join (s1.congr fun i _ h => p2.2.1 i (.inl h)) s2 ?_
  intro x y hx1 hx2 hy1 hy2
  rw [p2.2.1 x (.inl hx2)]
  have q1 : ∀ y, mid ≤ y → y < b → key d2[x]! ≤ key d2[y]! := by
    intro y h1 h2
    rw [p1.2.1 y (.inr h1)]
    exact permIn_all d1 d2 a mid (fun z => key z ≤ key d1[y]!) (by omega) p1 (fun i h3 h4 => hx i y h3 h4 h1 h2) x hx1 hx2
  exact permIn_all d2 d3 mid b (fun z => key d2[x]! ≤ key z) (by omega) p2 q1 y hy1 hy2
/-- All blocks of B are sorted. -/
def Blocks (key : α → Int) (n B : Nat) (d : Array α) : Prop := ∀ s, SortK key (s * B) (min (s * B + B) n) d
end
end Go.Proofs.Ytddkhkpdbjjboaa

/- The comparison that best.lengths hands to the sort, and the words for the bundles' row. -/
namespace Go.Proofs.Ytddkhkpdbjjboaa
open Go.Shelf Go.RowKit Go.Lib Go.Sort
set_option linter.unusedVariables false
set_option linter.unusedSimpArgs false
set_option maxRecDepth 100000

/-- A bundle as it lies in memory: its cost and its slice. -/
abbrev Hd : Type := Int × Option Addr × Nat × Nat
def encH (x : Hd) : List Value := [.int .i64 x.1, .slice x.2.1 x.2.2.1 x.2.2.2]
theorem encH_one (x : Hd) : ∀ v ∈ encH x, v.oneCell' = true := by
  intro v hv; simp [encH] at hv; rcases hv with rfl | rfl <;> rfl
/-- What the comparison says. -/
def cmpN (x y : Int) : Int := if x < y then -1 else if y < x then 1 else 0
def cfH (x y : Hd) : Int := cmpN x.1 y.1
theorem cfH_neg (x y : Hd) : cfH x y < 0 ↔ x.1 < y.1 := by unfold cfH cmpN; split <;> (try split) <;> omega
theorem ltH (x y : Hd) : ltOf cfH x y = decide (x.1 < y.1) := by unfold ltOf; rw [decide_eq_decide]; exact cfH_neg x y
theorem swoH : SWO (ltOf cfH) where
  irrefl x := by rw [ltH]; simp
  trans x y z h1 h2 := by rw [ltH] at *; simp at *; omega
  ntrans x y z h1 h2 := by rw [ltH] at *; simp at *; omega
theorem sortK_of {a b : Nat} {d : Array Hd} (h : SortedIn (ltOf cfH) a b d) : SortK (fun x : Hd => x.1) a b d := fun i j hi hij hj => by
  have := h i j hi hij hj; rw [ltH] at this; simpa using this

theorem isNaN_any (x : Int) (w : World) : Calls Try.prog 102 #[.int .i64 x] w fun e w' => e = .returned (.bool false) ∧ w = w' := by
  go_enter Try.func102, Try.ntmps102
  go_wp2
  go_ret
  exact ⟨by simp, rfl⟩
theorem compare_any (x y : Int) (w : World) : Calls Try.prog 83 #[.int .i64 x, .int .i64 y] w fun e w' => e = .returned (.int .i64 (cmpN x y)) ∧ w = w' := by
  unfold cmpN
  by_cases h1 : x < y
  · rw [if_pos h1]
    go_enter Try.func83, Try.ntmps83
    go_wp2_with (go_at_call 102; refine (isNaN_any _ _).mono ?_; rintro e w' ⟨rfl, rfl⟩)
    go_ret
    exact ⟨rfl, rfl⟩
  · rw [if_neg h1]
    by_cases h2 : y < x
    · rw [if_pos h2]
      go_enter Try.func83, Try.ntmps83
      go_wp2_with (go_at_call 102; refine (isNaN_any _ _).mono ?_; rintro e w' ⟨rfl, rfl⟩)
      go_ret
      exact ⟨rfl, rfl⟩
    · rw [if_neg h2]
      go_enter Try.func83, Try.ntmps83
      go_wp2_with (go_at_call 102; refine (isNaN_any _ _).mono ?_; rintro e w' ⟨rfl, rfl⟩)
      go_ret
      exact ⟨rfl, rfl⟩
theorem cmpFn_any (x y : Hd) (W : World) : Calls Try.prog 82 #[.agg (encH x).toArray, .agg (encH y).toArray] W fun e w' => e = .returned (.int .i64 (cfH x y)) ∧ ∃ q os', w' = grow (W.drewN q) os' := by
  obtain ⟨x1, xA, xn, xc⟩ := x
  obtain ⟨y1, yA, yn, yc⟩ := y
  have hcon := fun W' => compare_any x1 y1 W'
  unfold cfH
  simp only
  generalize cmpN x1 y1 = r at hcon ⊢
  have Hcon := veil hcon; clear hcon
  show Calls Try.prog 82 #[.agg #[.int .i64 x1, .slice xA xn xc], .agg #[.int .i64 y1, .slice yA yn yc]] W _
  go_enter Try.func82, Try.ntmps82
  go_wp2_with (go_at_call 83; refine (Hcon.out _).mono ?_; rintro e w' ⟨rfl, rfl⟩)
  go_ret
  exact ⟨rfl, 0, _, by rw [alloc_eq_grow, alloc_eq_grow, grow_grow]; rfl⟩
theorem cmpLaysH (blk off size : Nat) (w : World) : CmpLays Try.prog 82 #[] encH 2 cfH blk off size w := fun _ _ _ _ x y => cmpFn_any x y _
theorem entersH : ∀ args w, (callFunc 82 args).run Try.prog w = .ok (.enter 82 args) w := enters_of Try.func82 (by kernel_rfl) rfl

section
variable {w0 W : World} {blk off : Nat} {dk d0 : Array Hd}
theorem swk_c0 (h : SWK encH 2 w0 blk off dk W) (R : RowK encH 2 w0 blk off d0) (hs : dk.size = d0.size) {i : Nat} (hi : i < dk.size) {x : Hd} (hx : dk[i]! = x) : W.cell? ⟨blk, off + i * 2, none⟩ = some (.int .i64 x.1) ∧ W.frozen? ⟨blk, off + i * 2, none⟩ = false := by
  have := HoldsK.cell (c := 0) (h.holds R.hblk R.hH hs) hi (by omega)
  rw [hx] at this
  exact this
theorem swk_c1 (h : SWK encH 2 w0 blk off dk W) (R : RowK encH 2 w0 blk off d0) (hs : dk.size = d0.size) {i : Nat} (hi : i < dk.size) {x : Hd} (hx : dk[i]! = x) : W.cell? ⟨blk, off + i * 2 + 1, none⟩ = some (.slice x.2.1 x.2.2.1 x.2.2.2) ∧ W.frozen? ⟨blk, off + i * 2 + 1, none⟩ = false := by
  have := HoldsK.cell (c := 1) (h.holds R.hblk R.hH hs) hi (by omega)
  rw [hx] at this
  exact this
/-- An exchange, behind the region's draw. -/
theorem swk_swap (h : SWK encH 2 w0 blk off dk W) (R : RowK encH 2 w0 blk off d0) (i j : Nat) (hi : i < dk.size) (hj : j < dk.size) (x y : Hd) (hx : dk[i]! = x) (hy : dk[j]! = y) :
    Aside (SWK encH 2 w0 blk off (swp dk i j) ((((W.setCell ⟨blk, off + i * 2, none⟩ (.int .i64 y.1)).setCell ⟨blk, off + i * 2 + 1, none⟩ (.slice y.2.1 y.2.2.1 y.2.2.2)).setCell ⟨blk, off + j * 2, none⟩ (.int .i64 x.1)).setCell ⟨blk, off + j * 2 + 1, none⟩ (.slice x.2.1 x.2.2.1 x.2.2.2)).drew) := by
  have S3 := h.swapped R i j hi hj
  rw [hx, hy] at S3
  exact S3
end
end Go.Proofs.Ytddkhkpdbjjboaa

/- Bundles in memory: what a row of them reads as. No program is named here but by the comparison's text. -/
namespace Go.Proofs.Ytddkhkpdbjjboaa
open Go.RowKit
set_option linter.unusedVariables false
set_option linter.unusedSimpArgs false
set_option maxRecDepth 100000

def hCells (xs : List Hd) : List Value := xs.flatMap encH
theorem hCells_length (xs : List Hd) : (hCells xs).length = xs.length * 2 := by
  induction xs with
  | nil => rfl
  | cons x xs ih => simp [hCells, encH] at ih ⊢; omega
theorem hCells_append (xs ys : List Hd) : hCells (xs ++ ys) = hCells xs ++ hCells ys := by simp [hCells]
theorem hCells_one {xs : List Hd} : ∀ u ∈ hCells xs, u.oneCell' = true := by
  intro u hu
  simp only [hCells, List.mem_flatMap] at hu
  obtain ⟨x, _, hu⟩ := hu
  exact encH_one x u hu
theorem hCells_at (xs : List Hd) (j : Nat) (x : Hd) (h : xs[j]? = some x) : (hCells xs)[j * 2]? = some (.int .i64 x.1) ∧ (hCells xs)[j * 2 + 1]? = some (.slice x.2.1 x.2.2.1 x.2.2.2) := by
  induction xs generalizing j with
  | nil => simp at h
  | cons y xs ih =>
    cases j with
    | zero => simp at h; subst h; simp [hCells, encH]
    | succ j =>
      rw [List.getElem?_cons_succ] at h
      have := ih j h
      have e : hCells (y :: xs) = encH y ++ hCells xs := by simp [hCells]
      rw [e, List.getElem?_append_right (by simp [encH]; omega), List.getElem?_append_right (by simp [encH]; omega)]
      simp only [encH, List.length_cons, List.length_nil, Nat.zero_add, Nat.reduceAdd]
      rw [show (j + 1) * 2 - 2 = j * 2 by omega, show (j + 1) * 2 + 1 - 2 = j * 2 + 1 by omega]
      exact this
/-- One bundle behind its header. -/
def BunIs (w : World) (G : Nat) (b : Bun) (x : Hd) : Prop := x.1 = (b.1 : Int) ∧ x.2.2.1 = b.2.length ∧ Seen w G x.2.1 (ints .i64 b.2)
def BunsAre (w : World) (G : Nat) (l : List Bun) (xs : List Hd) : Prop := l.length = xs.length ∧ ∀ (j : Nat) (b : Bun) (x : Hd), l[j]? = some b → xs[j]? = some x → BunIs w G b x
section
variable {w w' : World} {G G' C : Nat} {l m : List Bun} {xs ys : List Hd}
theorem BunIs.below {b : Bun} {x : Hd} (h : BunIs w G b x) (hb : Below C w w') (hG : G ≤ C) : BunIs w' G b x := ⟨h.1, h.2.1, h.2.2.below hb hG⟩
theorem BunIs.up {b : Bun} {x : Hd} (h : BunIs w G b x) (hG : G ≤ G') : BunIs w G' b x := ⟨h.1, h.2.1, h.2.2.up hG⟩
theorem BunsAre.below (h : BunsAre w G l xs) (hb : Below C w w') (hG : G ≤ C) : BunsAre w' G l xs := ⟨h.1, fun j b x h1 h2 => (h.2 j b x h1 h2).below hb hG⟩
theorem BunsAre.up (h : BunsAre w G l xs) (hG : G ≤ G') : BunsAre w G' l xs := ⟨h.1, fun j b x h1 h2 => (h.2 j b x h1 h2).up hG⟩
theorem BunsAre.nil (w : World) (G : Nat) : BunsAre w G [] [] := ⟨rfl, by simp⟩
theorem BunsAre.append (h : BunsAre w G l xs) (h2 : BunsAre w G m ys) : BunsAre w G (l ++ m) (xs ++ ys) := by
  refine ⟨by simp [h.1, h2.1], fun j b x hb hx => ?_⟩
  by_cases hj : j < l.length
  · rw [List.getElem?_append_left hj] at hb
    rw [List.getElem?_append_left (by rw [← h.1]; exact hj)] at hx
    exact h.2 j b x hb hx
  · rw [List.getElem?_append_right (by omega)] at hb
    rw [List.getElem?_append_right (by rw [← h.1]; omega), ← h.1] at hx
    exact h2.2 _ b x hb hx
theorem BunsAre.take (h : BunsAre w G l xs) (n : Nat) : BunsAre w G (l.take n) (xs.take n) := by
  refine ⟨by simp [h.1], fun j b x hb hx => ?_⟩
  rw [List.getElem?_take] at hb hx
  by_cases hj : j < n
  · rw [if_pos hj] at hb hx; exact h.2 j b x hb hx
  · rw [if_neg hj] at hb; cases hb
theorem BunsAre.at (h : BunsAre w G l xs) {j : Nat} (hj : j < l.length) : ∃ b A c, l[j]? = some b ∧ xs[j]? = some ((b.1 : Int), A, b.2.length, c) ∧ Seen w G A (ints .i64 b.2) := by
  obtain ⟨b, hb⟩ := some_at hj
  obtain ⟨⟨x1, xA, xn, xc⟩, hx⟩ := some_at (xs := xs) (j := j) (by rw [← h.1]; exact hj)
  obtain ⟨h1, h2, h3⟩ := h.2 j b _ hb hx
  simp only at h1 h2 h3
  subst h1 h2
  exact ⟨b, xA, xc, hb, hx, h3⟩
/-- The same headers in another order: the same bundles in that order. -/
theorem BunsAre.perm (h : BunsAre w G l xs) (hp : xs.Perm ys) : ∃ m, l.Perm m ∧ BunsAre w G m ys := by
  induction hp generalizing l with
  | nil => exact ⟨l, .refl _, h⟩
  | @cons x xs ys hp ih =>
    cases l with
    | nil => have := h.1; simp at this
    | cons b l =>
      obtain ⟨m, h1, h2⟩ := ih (l := l) ⟨by have := h.1; simpa using this, fun j b' x' hb hx => h.2 (j + 1) b' x' (by simpa using hb) (by simpa using hx)⟩
      refine ⟨b :: m, h1.cons b, by simp [h2.1], fun j b' x' hb hx => ?_⟩
      cases j with
      | zero => exact h.2 0 b' x' hb hx
      | succ j => exact h2.2 j b' x' (by simpa using hb) (by simpa using hx)
  | swap x y xs =>
    match l, h with
    | [], h => have := h.1; simp at this
    | [_], h => have := h.1; simp at this
    | b :: c :: l, h =>
      refine ⟨c :: b :: l, .swap _ _ _, by have := h.1; simpa using this, fun j b' x' hb hx => ?_⟩
      match j with
      | 0 => exact h.2 1 b' x' (by simpa using hb) (by simpa using hx)
      | 1 => exact h.2 0 b' x' (by simpa using hb) (by simpa using hx)
      | j + 2 => exact h.2 (j + 2) b' x' (by simpa using hb) (by simpa using hx)
  | trans _ _ ih1 ih2 =>
    obtain ⟨m1, h1, h2⟩ := ih1 h
    obtain ⟨m2, h3, h4⟩ := ih2 h2
    exact ⟨m2, h1.trans h3, h4⟩
end
/-- One header of a row, with its two cells. -/
theorem Seen.hd {w : World} {B : Nat} {A : Option Addr} {xs : List Hd} (h : Seen w B A (hCells xs)) {k : Nat} {x : Hd} (hx : xs[k]? = some x) :
    ∃ g o, A = some ⟨g, o, none⟩ ∧ g < B ∧ w.cell? ⟨g, o + k * 2, none⟩ = some (.int .i64 x.1) ∧ w.cell? ⟨g, o + k * 2 + 1, none⟩ = some (.slice x.2.1 x.2.2.1 x.2.2.2) := by
  obtain ⟨h1, h2⟩ := hCells_at xs k x hx
  obtain ⟨g, o, e, hg, hc⟩ := h.at (by have := (List.getElem?_eq_some_iff.1 h1).1; omega)
  exact ⟨g, o, e, hg, hc _ _ h1, hc _ _ h2⟩
end Go.Proofs.Ytddkhkpdbjjboaa
