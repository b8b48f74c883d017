/- Texts shared by the claims of this seat, in one. -/
import Derived.Below
import Derived.WalkKit
import Derived.Laws.OwnMore
import Derived.Deep.Draws
import Derived.Deep.QuietTactic
import Derived.BigQuiet
import Derived.Laws.AppendOwn
import Derived.OwnWalk
import Derived.Deep.LoopGhost
import Derived.Deep.RegionHeld3
import Derived.Test.YtebfacbhldjpdaaRows
import Derived.ProofKit
import Derived.OpenShut
import Derived.ShutString
import Derived.ChangeOld
import Derived.JoinedCond
import Derived.Deep.Slices
import Derived.Deep.SlicePairs
import Derived.Deep.Fields
import Derived.ChangeSame
import Derived.SizedLaws
/- Words for memory that all walks share: a slice that reads as a list of cells, kept over what a call may do. No program is named here. -/
namespace Go.RowKit
theorem Below.drewN {B : Nat} {a w : World} (h : Below B a w) (n : Nat) : Below B a (w.drewN n) := ⟨h.os, h.tape, h.output, h.size, h.block⟩
end Go.RowKit
namespace Go.Proofs.Ytebfacbhldjpdaa
open Go.RowKit
set_option linter.unusedVariables false
set_option linter.unusedSimpArgs false
set_option maxRecDepth 100000

/-- A fact put out of the walk's sight. -/
theorem veil {p : Prop} (h : p) : Hid p := h

/-- The cells from address A on are xs, and they lie below block B. -/
def Seen (w : World) (B : Nat) (A : Option Addr) (xs : List Value) : Prop :=
  xs = [] ∨ ∃ g o, A = some ⟨g, o, none⟩ ∧ g < B ∧ ∀ j u, xs[j]? = some u → w.cell? ⟨g, o + j, none⟩ = some u

theorem Seen.of (w w' : World) {B : Nat} {A : Option Addr} {xs : List Value} (h : Seen w B A xs) (hk : ∀ p : Addr, p.block < B → w'.cell? p = w.cell? p) : Seen w' B A xs := by
  rcases h with h | ⟨g, o, e, hg, hc⟩
  · exact .inl h
  · exact .inr ⟨g, o, e, hg, fun j u hu => (hk _ hg).trans (hc j u hu)⟩

theorem Seen.below {w w' : World} {B C : Nat} {A : Option Addr} {xs : List Value} (h : Seen w B A xs) (hb : Below C w w') (hBC : B ≤ C) : Seen w' B A xs :=
  h.of w w' fun _ hp => hb.cell (Nat.lt_of_lt_of_le hp hBC)

theorem Seen.at {w : World} {B : Nat} {A : Option Addr} {xs : List Value} (h : Seen w B A xs) (hne : 0 < xs.length) :
    ∃ g o, A = some ⟨g, o, none⟩ ∧ g < B ∧ ∀ j u, xs[j]? = some u → w.cell? ⟨g, o + j, none⟩ = some u := by
  rcases h with h | h
  · subst h; simp at hne
  · exact h

/-- Integers in a row. -/
def ints (k : IntKind) (xs : List Int) : List Value := xs.map (Value.int k)
theorem ints_length (k : IntKind) (xs : List Int) : (ints k xs).length = xs.length := by simp [ints]
theorem ints_at {k : IntKind} {xs : List Int} {j : Nat} {x : Int} (h : xs[j]? = some x) : (ints k xs)[j]? = some (.int k x) := by
  simp [ints, h]
theorem some_at {α : Type} {xs : List α} {j : Nat} (h : j < xs.length) : ∃ x, xs[j]? = some x := ⟨xs[j], List.getElem?_eq_getElem h⟩
theorem take_snoc {α : Type} {xs : List α} {k : Nat} {x : α} (h : xs[k]? = some x) : xs.take (k + 1) = xs.take k ++ [x] := by
  rw [List.take_add_one, h]; rfl
/-- One number of a row that came in, with its cell. -/
theorem Seen.int {w : World} {B : Nat} {A : Option Addr} {kd : IntKind} {xs : List Int} (h : Seen w B A (ints kd xs)) {k : Nat} (hk : k < xs.length) :
    ∃ g o x, A = some ⟨g, o, none⟩ ∧ g < B ∧ xs[k]? = some x ∧ w.cell? ⟨g, o + k, none⟩ = some (.int kd x) := by
  obtain ⟨g, o, e, hg, hc⟩ := h.at (by rw [ints_length]; omega)
  obtain ⟨x, hx⟩ := some_at hk
  exact ⟨g, o, x, e, hg, hx, hc k _ (ints_at hx)⟩
/-- A block that was just laid. -/
theorem Seen.new (w : World) (xs : List Value) (t : TypeId) (B : Nat) (hB : w.heap.size < B) : Seen (w.alloc (.cells xs.toArray t)) B (some ⟨w.heap.size, 0, none⟩) xs := by
  refine .inr ⟨_, _, rfl, hB, fun j u hu => ?_⟩
  rw [World.cell?_alloc_at _ _ _ _ rfl]
  simpa using hu
theorem Seen.alloc {w : World} {B : Nat} {A : Option Addr} {xs : List Value} (h : Seen w B A xs) (hB : B ≤ w.heap.size) (o : Obj) : Seen (w.alloc o) B A xs :=
  h.of w _ fun p hp => World.cell?_alloc_lt w o p (Nat.lt_of_lt_of_le hp hB)
theorem below1 (w : World) (a : Obj) : Below w.heap.size w (w.alloc a) := (Below.refl _ _).alloc (Nat.le_refl _) a
theorem ret_bool {a b : Bool} (h : a = b) : Ending.returned (.bool a) = .returned (.bool b) := by rw [h]
end Go.Proofs.Ytebfacbhldjpdaa

/- A number of 64 bits. -/
namespace Go.Proofs.Ytebfacbhldjpdaa
def In64 (n : Int) : Prop := -9223372036854775808 ≤ n ∧ n ≤ 9223372036854775807
end Go.Proofs.Ytebfacbhldjpdaa

/- Rounding and clamping in numbers. -/
namespace Go.Proofs.Ytebfacbhldjpdaa
open Go.RowKit
set_option linter.unusedVariables false
set_option linter.unusedSimpArgs false
set_option maxRecDepth 100000

/-- The nearest whole number to n / d; of two, the one farther from zero. -/
def rnd (n d : Int) : Int :=
  if 0 < n.tmod d ∧ d - n.tmod d ≤ n.tmod d then n.tdiv d + 1 else if n.tmod d < 0 ∧ d + n.tmod d ≤ - n.tmod d then n.tdiv d - 1 else n.tdiv d
/-- n within bounds. -/
def clampZ (n lo hi : Int) : Int := if n < lo then lo else if hi < n then hi else n
theorem mul_step {a b d : Int} (hd : 0 < d) (h : a < b) : a * d + d ≤ b * d := by
  have := Int.mul_le_mul_of_nonneg_right (show a + 1 ≤ b by omega) (Int.le_of_lt hd)
  rw [Int.add_mul, Int.one_mul] at this
  exact this
theorem rnd_spec (n d : Int) (hd : 0 < d) : (0 ≤ n → 2 * (rnd n d * d) - d ≤ 2 * n ∧ 2 * n < 2 * (rnd n d * d) + d) ∧ (n ≤ 0 → 2 * (rnd n d * d) - d < 2 * n ∧ 2 * n ≤ 2 * (rnd n d * d) + d) := by
  have h1 := Int.tmod_lt_of_pos n hd
  have h2 := Int.lt_tmod_of_pos n hd
  have h3 := Int.tmod_add_mul_tdiv n d
  have h4 : 0 ≤ n → 0 ≤ n.tmod d := Int.tmod_nonneg d
  have h5 : n ≤ 0 → n.tmod d ≤ 0 := by
    intro h
    have := Int.tmod_nonneg (a := -n) d (by omega)
    rw [Int.neg_tmod] at this
    omega
  rw [Int.mul_comm] at h3
  have e1 : (n.tdiv d + 1) * d = n.tdiv d * d + d := by rw [Int.add_mul, Int.one_mul]
  have e2 : (n.tdiv d - 1) * d = n.tdiv d * d - d := by rw [Int.sub_mul, Int.one_mul]
  unfold rnd
  generalize n.tmod d = r at *
  obtain ⟨m, hm⟩ : ∃ m, n.tdiv d * d = m := ⟨_, rfl⟩
  rw [hm] at h3 e1 e2
  split
  · rw [e1]; exact ⟨fun h => by have := h4 h; omega, fun h => by have := h5 h; omega⟩
  · split
    · rw [e2]; exact ⟨fun h => by have := h4 h; omega, fun h => by have := h5 h; omega⟩
    · rw [hm]; exact ⟨fun h => by have := h4 h; omega, fun h => by have := h5 h; omega⟩
theorem rnd_only {n d r : Int} (hd : 0 < d) (h : (0 ≤ n ∧ 2 * (r * d) - d ≤ 2 * n ∧ 2 * n < 2 * (r * d) + d) ∨ (n ≤ 0 ∧ 2 * (r * d) - d < 2 * n ∧ 2 * n ≤ 2 * (r * d) + d)) : rnd n d = r := by
  obtain ⟨h1, h2⟩ := rnd_spec n d hd
  rcases Int.lt_trichotomy (rnd n d) r with h3 | h3 | h3
  · have := mul_step hd h3
    rcases h with ⟨h, h4, h5⟩ | ⟨h, h4, h5⟩
    · have := h1 h; omega
    · have := h2 h; omega
  · exact h3
  · have := mul_step hd h3
    rcases h with ⟨h, h4, h5⟩ | ⟨h, h4, h5⟩
    · have := h1 h; omega
    · have := h2 h; omega
theorem rnd_neg {n d : Int} (hd : 0 < d) : rnd (-n) d = - rnd n d := by
  obtain ⟨h1, h2⟩ := rnd_spec n d hd
  refine rnd_only hd ?_
  rw [Int.neg_mul]
  by_cases h : 0 ≤ n
  · have := h1 h; right; omega
  · have := h2 (by omega); left; omega
theorem retI {x y : Int} (h : x = y) : (Ending.returned (.int .i64 x)) = .returned (.int .i64 y) := by rw [h]
theorem tdiv_small {n d M : Int} (h1 : -M ≤ n) (h2 : n ≤ M) : -M ≤ n.tdiv d ∧ n.tdiv d ≤ M := by
  have h3 := Int.natAbs_tdiv n d
  have h4 := Nat.div_le_self n.natAbs d.natAbs
  have h5 : n.natAbs.div d.natAbs = n.natAbs / d.natAbs := rfl
  rw [h5] at h3
  omega
end Go.Proofs.Ytebfacbhldjpdaa

/- Colors and light in numbers: what tint's laws ask. -/
namespace Go.Proofs.Ytebfacbhldjpdaa
open Go.RowKit
set_option linter.unusedVariables false
set_option linter.unusedSimpArgs false
set_option maxRecDepth 100000

/-- A sample out of a sum of 65536ths. -/
def smp (n : Int) : Int := clampZ (rnd n 65536) 0 255
def tY (r g b : Int) : Int := smp (19595 * r + 38470 * g + 7471 * b)
def tU (r g b : Int) : Int := smp (8388608 + 32768 * b - 11059 * r - 21709 * g)
def tV (r g b : Int) : Int := smp (8388608 + 32768 * r - 27439 * g - 5329 * b)
/-- Eight bits. -/
def B8 (n : Int) : Prop := 0 ≤ n ∧ n ≤ 255
instance (n : Int) : Decidable (B8 n) := by unfold B8; infer_instance
end Go.Proofs.Ytebfacbhldjpdaa

/- The reference's clamp and Round: their contracts. -/
namespace Go.Proofs.Ytebfacbhldjpdaa
open Go.RowKit
set_option linter.unusedVariables false
set_option linter.unusedSimpArgs false
set_option maxRecDepth 100000

theorem refClamp_any (n lo hi : Int) (w : World) :
    Calls Try.prog 24 #[.int .i64 n, .int .i64 lo, .int .i64 hi] w fun e w' => e = .returned (.int .i64 (clampZ n lo hi)) ∧ w' = w := by
  go_enter Try.func24, Try.ntmps24
  go_wp2
  all_goals (go_ret; exact ⟨retI (by unfold clampZ; split <;> (try split) <;> omega), rfl⟩)
/-- The rounding of a number that is not negative. -/
theorem rnd_nonneg {m d : Int} (hd : 0 < d) (hm : 0 ≤ m) : rnd m d = if d ≤ 2 * m.tmod d then m.tdiv d + 1 else m.tdiv d := by
  have h4 := Int.tmod_nonneg d hm
  unfold rnd
  generalize m.tmod d = r at *
  split <;> split <;> (try split) <;> omega
set_option maxHeartbeats 1000000 in
theorem refRound_any (n d : Int) (w : World) (h1 : -1152921504606846976 ≤ n) (h2 : n ≤ 1152921504606846976) (hd1 : 1 ≤ d) (hd2 : d ≤ 1152921504606846976) :
    Calls Try.prog 25 #[.int .i64 n, .int .i64 d] w fun e w' => e = .returned (.int .i64 (rnd n d)) ∧ w' = w := by
  have hne : d ≠ 0 := by omega
  by_cases hn : n < 0
  · have h3 := Int.tmod_lt_of_pos (-n) (show 0 < d by omega)
    have h4 := Int.tmod_nonneg d (show 0 ≤ -n by omega)
    have h5 := tdiv_small (d := d) (show -1152921504606846976 ≤ -n by omega) (show -n ≤ 1152921504606846976 by omega)
    have H6 : Hid (rnd n d = -(if d ≤ 2 * (-n).tmod d then (-n).tdiv d + 1 else (-n).tdiv d)) := by
      show _ = _
      rw [← rnd_nonneg (by omega) (by omega), rnd_neg (by omega), Int.neg_neg]
    rw [Int.neg_tmod, Int.neg_tdiv] at H6
    rw [Int.neg_tmod] at h3 h4
    rw [Int.neg_tdiv] at h5
    generalize rnd n d = R at *
    go_enter Try.func25, Try.ntmps25
    go_wp2
    all_goals
      go_ret
      refine ⟨retI ?_, rfl⟩
      rw [H6.out]
      generalize n.tmod d = r at *
      generalize n.tdiv d = m at *
      try unfold wrap64 at *
      split <;> omega
  · have h3 := Int.tmod_lt_of_pos n (show 0 < d by omega)
    have h4 := Int.tmod_nonneg d (show 0 ≤ n by omega)
    have h5 := tdiv_small (d := d) h1 h2
    have H6 : Hid (rnd n d = _) := rnd_nonneg (show 0 < d by omega) (show 0 ≤ n by omega)
    have e1 := Int.tmod_eq_emod_of_nonneg (b := d) (show 0 ≤ n by omega)
    have e2 := Int.tdiv_eq_ediv_of_nonneg (b := d) (show 0 ≤ n by omega)
    rw [e1, e2] at H6
    rw [e1] at h3 h4
    rw [e2] at h5
    clear e1 e2
    generalize rnd n d = R at *
    go_enter Try.func25, Try.ntmps25
    go_wp2
    all_goals
      go_ret
      refine ⟨retI ?_, rfl⟩
      rw [H6.out]
      generalize n % d = r at *
      generalize n / d = m at *
      try unfold wrap64 at *
      split <;> omega
end Go.Proofs.Ytebfacbhldjpdaa

/- The reference's outside, in a text of its own. -/
namespace Go.Proofs.Ytebfacbhldjpdaa
open Go.RowKit
set_option linter.unusedVariables false
set_option linter.unusedSimpArgs false
set_option maxRecDepth 100000

theorem out_yes (n lo hi : Int) (h : n < lo ∨ hi < n) (w : World) : Calls Try.prog 23 #[.int .i64 n, .int .i64 lo, .int .i64 hi] w fun e w' => e = .returned (.bool true) ∧ w' = w := by
  go_enter Try.func23, Try.ntmps23
  go_wp2
  all_goals (go_ret; exact ⟨ret_bool (by simp <;> omega), rfl⟩)
theorem out_no (n lo hi : Int) (h : lo ≤ n ∧ n ≤ hi) (w : World) : Calls Try.prog 23 #[.int .i64 n, .int .i64 lo, .int .i64 hi] w fun e w' => e = .returned (.bool false) ∧ w' = w := by
  go_enter Try.func23, Try.ntmps23
  go_wp2
  all_goals (go_ret; exact ⟨ret_bool (by simp <;> omega), rfl⟩)
end Go.Proofs.Ytebfacbhldjpdaa

/- The reference's samples, sample, TintTo and TintFrom: their contracts. -/
namespace Go.Proofs.Ytebfacbhldjpdaa
open Go.RowKit
set_option linter.unusedVariables false
set_option linter.unusedSimpArgs false
set_option maxRecDepth 100000

set_option maxHeartbeats 1000000 in
theorem sample_any (n : Int) (w : World) (h1 : -1152921504606846976 ≤ n) (h2 : n ≤ 1152921504606846976) : Calls Try.prog 20 #[.int .i64 n] w fun e w' => e = .returned (.int .i64 (smp n)) ∧ w' = w := by
  have HR := veil (refRound_any n 65536 w h1 h2 (by omega) (by omega))
  have HC := veil (refClamp_any (rnd n 65536) 0 255 w)
  have hs : clampZ (rnd n 65536) 0 255 = smp n := rfl
  rw [hs] at HC
  clear hs h1 h2
  generalize rnd n 65536 = R at *
  generalize smp n = S at *
  go_enter Try.func20, Try.ntmps20
  go_wp2_with fail
  refine HR.out.mono ?_
  rintro e wq ⟨rfl, hwq⟩
  obtain rfl : w = wq := hwq.symm
  clear HR hwq
  go_wp2_with fail
  refine HC.out.mono ?_
  rintro e wq ⟨rfl, hwq⟩
  obtain rfl : w = wq := hwq.symm
  clear HC hwq
  go_wp2_with fail
  go_ret
  exact ⟨rfl, rfl⟩
set_option maxRecDepth 100000 in
set_option maxHeartbeats 1000000 in
/-- Some numbers, all of eight bits. -/
theorem samples8_any (l : List Int) (A : Option Addr) (c G : Nat) (w : World) (hs : Seen w G A (ints .i64 l)) (hl : l.length ≤ maxLen) :
    Calls Try.prog 19 #[.slice A l.length c] w fun e w' => (∃ b : Bool, e = .returned (.bool b) ∧ (b = true ↔ ∀ x ∈ l, B8 x)) ∧ w' = w := by
  unfold maxLen at hl
  obtain ⟨b0, hb0⟩ : ∃ b : Bool, b = true ↔ ∀ x ∈ l, B8 x := by
    by_cases h : ∀ x ∈ l, B8 x
    · exact ⟨true, by simp only [true_iff]; exact h⟩
    · exact ⟨false, by simp only [false_iff, Bool.false_eq_true]; exact h⟩
  have Hb := veil hb0
  clear hb0
  suffices h : Calls Try.prog 19 #[.slice A l.length c] w fun e w' => e = .returned (.bool b0) ∧ w' = w from h.mono fun e w' ⟨h1, h2⟩ => ⟨⟨b0, h1, Hb.out⟩, h2⟩
  have HI0 : Hid (∀ x ∈ l.take 0, B8 x) := veil (by simp)
  go_enter Try.func19, Try.ntmps19
  go_wp2_with fail
  go_loopg [4, 7] l.length (fun gk nv iv wr => ∃ k : Nat, gk = l.length - k ∧ k ≤ l.length ∧ iv = .int .i64 (k : Int) ∧ Hid (∀ x ∈ l.take k, B8 x) ∧ w = wr)
  case atStart => exact ⟨0, rfl, Nat.zero_le _, rfl, HI0, rfl⟩
  case round =>
    clear HI0
    obtain ⟨k, rfl, hk, rfl, HI, rfl⟩ := hrel
    by_cases hkt : k < l.length
    · have hkz : (k : Int) < (l.length : Int) := by omega
      obtain ⟨g, o, n, rfl, hg, hx, hcx⟩ := hs.int hkt
      by_cases hn : n < 0 ∨ 255 < n
      · have hbF : b0 = false := by
          cases h : b0 with
          | false => rfl
          | true => have := Hb.out.1 h n (List.mem_of_getElem? hx); unfold B8 at this; omega
        subst hbF
        have HOu := veil (out_yes n 0 255 hn w)
        clear hn hx
        go_wp2_with fail
        refine HOu.out.mono ?_
        rintro e wq ⟨rfl, hwq⟩
        obtain rfl : w = wq := hwq.symm
        clear hwq HOu
        go_wp2_with fail
        go_ret
        exact ⟨rfl, rfl⟩
      · have HI2 : Hid (∀ x ∈ l.take (k + 1), B8 x) := veil (by
          rw [take_snoc hx]
          intro x hx2
          rcases List.mem_append.1 hx2 with h | h
          · exact HI.out x h
          · rw [List.mem_singleton.1 h]; unfold B8; omega)
        have HOu := veil (out_no n 0 255 (by omega) w)
        clear hn hx HI
        go_wp2_with fail
        refine HOu.out.mono ?_
        rintro e wq ⟨rfl, hwq⟩
        obtain rfl : w = wq := hwq.symm
        clear hwq HOu
        go_wp2_with fail
        go_roundg (l.length - (k + 1))
        case rel => exact ⟨k + 1, rfl, by omega, by go_num, HI2, rfl⟩
        case measure => omega
    · obtain rfl : k = l.length := by omega
      have hbT : b0 = true := Hb.out.2 (by have := HI.out; rwa [List.take_length] at this)
      subst hbT
      clear HI Hb hkt
      go_wp2_with fail
      go_ret
      exact ⟨rfl, rfl⟩
theorem results_tmp4 {fn : Func} {t u v x : Tmp} (h : fn.results = #[.tmp t, .tmp u, .tmp v, .tmp x]) (tmps : Array Value) (P : Program) (w : World) :
    (results fn tmps).run P w = .ok (.tuple #[tmps.getD t undef, tmps.getD u undef, tmps.getD v undef, tmps.getD x undef]) w := by
  simp [results, h]
theorem ret_four {a a' b b' c c' d d' : Value} (h : a = a') (k : b = b') (m : c = c') (n : d = d') : Ending.returned (.tuple #[a, b, c, d]) = .returned (.tuple #[a', b', c', d']) := by rw [h, k, m, n]
/-- What To and From hand back. -/
def toV (r g b : Int) : Value := if B8 r ∧ B8 g ∧ B8 b then .tuple #[.int .i64 (tY r g b), .int .i64 (tU r g b), .int .i64 (tV r g b), .int .i64 0] else .tuple #[.int .i64 0, .int .i64 0, .int .i64 0, .int .i64 1]
theorem samples3_any (r g b : Int) (w : World) : Calls Try.prog 19 #[.slice (some ⟨w.heap.size, 0, none⟩) 3 3] (w.alloc (.cells (ints .i64 [r, g, b]).toArray 3)) fun e w' => (∃ q : Bool, e = .returned (.bool q) ∧ (q = true ↔ B8 r ∧ B8 g ∧ B8 b)) ∧ w' = w.alloc (.cells (ints .i64 [r, g, b]).toArray 3) := by
  refine (samples8_any [r, g, b] (some ⟨w.heap.size, 0, none⟩) 3 (w.heap.size + 1) _ (Seen.new w (ints .i64 [r, g, b]) _ _ (Nat.lt_succ_self _)) (by unfold maxLen; simp)).mono ?_
  rintro e w' ⟨⟨q, h1, h2⟩, h3⟩
  exact ⟨⟨q, h1, by rw [h2]; simp⟩, h3⟩
set_option maxRecDepth 100000 in
set_option maxHeartbeats 2000000 in
theorem refTintTo_any (r g b : Int) (w : World) : Calls Try.prog 10 #[.int .i64 r, .int .i64 g, .int .i64 b] w fun e w' => e = .returned (toV r g b) ∧ Below w.heap.size w w' := by
  have HS := veil (samples3_any r g b w)
  have HB := veil (below1 w (.cells (ints .i64 [r, g, b]).toArray 3))
  obtain ⟨V, hV⟩ : ∃ V, V = toV r g b := ⟨_, rfl⟩
  rw [← hV]
  have HV := veil hV
  clear hV
  go_enter Try.func10, Try.ntmps10
  go_wp2_with fail
  refine HS.out.mono ?_
  rintro e w1 ⟨⟨q, rfl, hq⟩, hw1⟩
  rw [← hw1] at HB
  clear HS hw1
  by_cases h3 : B8 r ∧ B8 g ∧ B8 b
  · obtain rfl : q = true := hq.2 h3
    have hV := HV.out
    unfold toV at hV
    rw [if_pos h3] at hV
    unfold tY tU tV at hV
    unfold B8 at h3
    have S1 := veil (sample_any (19595 * r + 38470 * g + 7471 * b) w1 (by omega) (by omega))
    have S2 := veil (sample_any (8388608 + 32768 * b - 11059 * r - 21709 * g) w1 (by omega) (by omega))
    have S3 := veil (sample_any (8388608 + 32768 * r - 27439 * g - 5329 * b) w1 (by omega) (by omega))
    have HVt := veil hV
    clear hq HV hV
    go_wp2_with fail
    refine S1.out.mono ?_
    rintro e wq ⟨rfl, hwq⟩
    obtain rfl : w1 = wq := hwq.symm
    clear S1 hwq
    go_wp2_with fail
    refine S2.out.mono ?_
    rintro e wq ⟨rfl, hwq⟩
    obtain rfl : w1 = wq := hwq.symm
    clear S2 hwq
    go_wp2_with fail
    refine S3.out.mono ?_
    rintro e wq ⟨rfl, hwq⟩
    obtain rfl : w1 = wq := hwq.symm
    clear S3 hwq
    go_wp2_with fail
    (try simp only [Exit.inBlock, Exit.then]); refine bodyPost_ret (results_tmp4 rfl _ _ _) rfl ?_
    exact ⟨by rw [HVt.out]; exact ret_four rfl rfl rfl rfl, HB.out⟩
  · obtain rfl : q = false := by
      cases q with
      | false => rfl
      | true => exact absurd (hq.1 rfl) h3
    have hV := HV.out
    unfold toV at hV
    rw [if_neg h3] at hV
    have HVt := veil hV
    clear hV
    clear hq HV h3
    go_wp2_with fail
    (try simp only [Exit.inBlock, Exit.then]); refine bodyPost_ret (results_tmp4 rfl _ _ _) rfl ?_
    exact ⟨by rw [HVt.out]; exact ret_four rfl rfl rfl rfl, HB.out⟩
end Go.Proofs.Ytebfacbhldjpdaa

/- The reference's Rest: what is left of a division, never below zero. -/
namespace Go.Proofs.Ytebfacbhldjpdaa
open Go.RowKit
set_option linter.unusedVariables false
set_option linter.unusedSimpArgs false
set_option maxRecDepth 100000

end Go.Proofs.Ytebfacbhldjpdaa

/- What tint's To and From are to do, and the keep's closed fact. -/
namespace Go.Proofs.Ytebfacbhldjpdaa
open Go.RowKit
set_option linter.unusedVariables false
set_option linter.unusedSimpArgs false
set_option maxRecDepth 100000

/-- tint.To's contract. -/
def TToSpec : Prop := ∀ (r g b : Int) (w : World), In64 r → In64 g → In64 b →
    Calls Try.prog 9 #[.int .i64 r, .int .i64 g, .int .i64 b] w fun e w' => e = .returned (toV r g b) ∧ Below w.heap.size w w'
theorem toV_is (r g b : Int) : ∃ a1 a2 a3 a4 : Int, toV r g b = .tuple #[.int .i64 a1, .int .i64 a2, .int .i64 a3, .int .i64 a4] := by
  unfold toV; split <;> exact ⟨_, _, _, _, rfl⟩
theorem toV_bad : toV 256 0 0 = .tuple #[.int .i64 0, .int .i64 0, .int .i64 0, .int .i64 1] := if_neg (by unfold B8; omega)
end Go.Proofs.Ytebfacbhldjpdaa

/- quant.Round: its contract. -/
namespace Go.Proofs.Ytebfacbhldjpdaa
open Go.RowKit
set_option linter.unusedVariables false
set_option linter.unusedSimpArgs false
set_option maxRecDepth 100000

set_option maxHeartbeats 1000000 in
theorem round_any (n d : Int) (w : World) (h1 : -1152921504606846976 ≤ n) (h2 : n ≤ 1152921504606846976) (hd1 : 1 ≤ d) (hd2 : d ≤ 1152921504606846976) :
    Calls Try.prog 22 #[.int .i64 n, .int .i64 d] w fun e w' => e = .returned (.int .i64 (rnd n d)) ∧ ∃ q, w' = w.drewN q := by
  have hne : d ≠ 0 := by omega
  have hlt : ¬ d < 1 := by omega
  have h3 := Int.tmod_lt_of_pos n (show 0 < d by omega)
  have h4 := Int.lt_tmod_of_pos n (show 0 < d by omega)
  have h5 := tdiv_small (d := d) h1 h2
  have h6 : Hid (rnd n d = _) := rnd.eq_1 n d
  generalize rnd n d = R at *
  go_enter Try.func22, Try.ntmps22
  go_wp2
  go_quiet (fail)
  go_wp2
  all_goals
    go_ret
    refine ⟨retI ?_, _, rfl⟩
    rw [h6.out]
    generalize n.tmod d = r at *
    generalize n.tdiv d = m at *
    split <;> (try split) <;> (try unfold wrap64) <;> omega
end Go.Proofs.Ytebfacbhldjpdaa

/- tint.isSample, areSamples, sample: their contracts. -/
namespace Go.Proofs.Ytebfacbhldjpdaa
open Go.RowKit
set_option linter.unusedVariables false
set_option linter.unusedSimpArgs false
set_option maxRecDepth 100000

theorem tnIs_yes (n : Int) (h : B8 n) (w : World) : Calls Try.prog 21 #[.int .i64 n] w fun e w' => e = .returned (.bool true) ∧ w' = w := by
  have h1 : 0 ≤ n := h.1
  have h2 : n ≤ 255 := h.2
  clear h
  go_enter Try.func21, Try.ntmps21
  go_wp2
  go_ret
  exact ⟨rfl, rfl⟩
theorem tnIs_no (n : Int) (h : ¬ B8 n) (w : World) : Calls Try.prog 21 #[.int .i64 n] w fun e w' => e = .returned (.bool false) ∧ w' = w := by
  by_cases h1 : 0 ≤ n
  · have h2 : ¬ n ≤ 255 := fun h3 => h ⟨h1, h3⟩
    clear h
    go_enter Try.func21, Try.ntmps21
    go_wp2
    go_ret
    exact ⟨rfl, rfl⟩
  · clear h
    go_enter Try.func21, Try.ntmps21
    go_wp2
    go_ret
    exact ⟨rfl, rfl⟩
theorem tnIs_any (n : Int) (w : World) : Calls Try.prog 21 #[.int .i64 n] w fun e w' => e = .returned (.bool (decide (B8 n))) ∧ w' = w := by
  by_cases h : B8 n
  · rw [decide_eq_true h]; exact tnIs_yes n h w
  · rw [decide_eq_false h]; exact tnIs_no n h w
theorem tnAre_any (a b c : Int) (w : World) : Calls Try.prog 17 #[.int .i64 a, .int .i64 b, .int .i64 c] w fun e w' => e = .returned (.bool (decide (B8 a ∧ B8 b ∧ B8 c))) ∧ w' = w := by
  obtain ⟨V, hV⟩ : ∃ V, V = decide (B8 a ∧ B8 b ∧ B8 c) := ⟨_, rfl⟩
  rw [← hV]
  have HA := veil (tnIs_any a w)
  have HB := veil (tnIs_any b w)
  have HC := veil (tnIs_any c w)
  by_cases ha : B8 a
  · rw [decide_eq_true ha] at HA
    by_cases hb : B8 b
    · rw [decide_eq_true hb] at HB
      obtain ⟨Y, hY⟩ : ∃ Y, Y = decide (B8 c) := ⟨_, rfl⟩
      have e : V = Y := by rw [hV, hY]; simp [ha, hb]
      rw [← hY] at HC
      subst e
      clear hV hY ha hb
      go_enter Try.func17, Try.ntmps17
      go_wp2_with fail
      refine HA.out.mono ?_
      rintro e _ ⟨rfl, rfl⟩
      clear HA
      go_wp2_with fail
      refine HB.out.mono ?_
      rintro e _ ⟨rfl, rfl⟩
      clear HB
      go_wp2_with fail
      refine HC.out.mono ?_
      rintro e _ ⟨rfl, rfl⟩
      clear HC
      go_wp2
      go_ret
      exact ⟨rfl, rfl⟩
    · rw [decide_eq_false hb] at HB
      have e : V = false := by rw [hV]; simp [hb]
      subst e
      clear hV HC ha hb
      go_enter Try.func17, Try.ntmps17
      go_wp2_with fail
      refine HA.out.mono ?_
      rintro e _ ⟨rfl, rfl⟩
      clear HA
      go_wp2_with fail
      refine HB.out.mono ?_
      rintro e _ ⟨rfl, rfl⟩
      clear HB
      go_wp2
      go_ret
      exact ⟨rfl, rfl⟩
  · rw [decide_eq_false ha] at HA
    have e : V = false := by rw [hV]; simp [ha]
    subst e
    clear hV HB HC ha
    go_enter Try.func17, Try.ntmps17
    go_wp2_with fail
    refine HA.out.mono ?_
    rintro e _ ⟨rfl, rfl⟩
    clear HA
    go_wp2
    go_ret
    exact ⟨rfl, rfl⟩
theorem tnSample_any (n : Int) (w : World) (h1 : -1152921504606846976 ≤ n) (h2 : n ≤ 1152921504606846976) : Calls Try.prog 18 #[.int .i64 n] w fun e w' => e = .returned (.int .i64 (smp n)) ∧ Below w.heap.size w w' := by
  have HR := veil (round_any n 65536 w h1 h2 (by omega) (by omega))
  have HS := veil (show smp n = clampZ (rnd n 65536) 0 255 from rfl)
  clear h1 h2
  generalize rnd n 65536 = R at *
  generalize smp n = S at *
  go_enter Try.func18, Try.ntmps18
  go_wp2_with fail
  refine HR.out.mono ?_
  rintro e _ ⟨rfl, q, rfl⟩
  clear HR
  go_wp2
  all_goals
    go_ret
    exact ⟨retI (by rw [HS.out]; unfold clampZ; clear HS; split <;> (try split) <;> omega), (Below.refl _ _).drewN _⟩
end Go.Proofs.Ytebfacbhldjpdaa

/- tint.To: its contract. -/
namespace Go.Proofs.Ytebfacbhldjpdaa
open Go.RowKit
set_option linter.unusedVariables false
set_option linter.unusedSimpArgs false
set_option maxRecDepth 100000

set_option maxHeartbeats 2000000 in
theorem tnTo_any : TToSpec := by
  intro r g b w h1 h2 h3
  clear h1 h2 h3
  have HA := veil (tnAre_any r g b w)
  obtain ⟨V, hV⟩ : ∃ V, V = toV r g b := ⟨_, rfl⟩
  rw [← hV]
  unfold toV at hV
  by_cases h3 : B8 r ∧ B8 g ∧ B8 b
  · rw [decide_eq_true h3] at HA
    rw [if_pos h3] at hV
    unfold tY tU tV at hV
    unfold B8 at h3
    have S1 := veil (fun W => tnSample_any (19595 * r + 38470 * g + 7471 * b) W (by omega) (by omega))
    have S2 := veil (fun W => tnSample_any (8388608 + 32768 * b - 11059 * r - 21709 * g) W (by omega) (by omega))
    have S3 := veil (fun W => tnSample_any (8388608 + 32768 * r - 27439 * g - 5329 * b) W (by omega) (by omega))
    have HVt := veil hV
    clear hV
    go_enter Try.func9, Try.ntmps9
    go_wp2_with fail
    refine HA.out.mono ?_
    rintro e wq ⟨rfl, hwq⟩
    obtain rfl : w = wq := hwq.symm
    clear HA hwq
    go_wp2_with fail
    refine (S1.out w).mono ?_
    rintro e w1 ⟨rfl, hb1⟩
    have HB1 := veil hb1
    clear S1 hb1
    go_wp2_with fail
    refine (S2.out w1).mono ?_
    rintro e w2 ⟨rfl, hb2⟩
    have HB2 := veil (HB1.out.trans (hb2.mono HB1.out.size))
    clear S2 hb2 HB1
    go_wp2_with fail
    refine (S3.out w2).mono ?_
    rintro e w3 ⟨rfl, hb3⟩
    have HB3 := veil (HB2.out.trans (hb3.mono HB2.out.size))
    clear S3 hb3 HB2
    go_wp2_with fail
    (try simp only [Exit.inBlock, Exit.then]); refine bodyPost_ret (results_tmp4 rfl _ _ _) rfl ?_
    exact ⟨by rw [HVt.out]; exact ret_four rfl rfl rfl rfl, HB3.out⟩
  · rw [decide_eq_false h3] at HA
    rw [if_neg h3] at hV
    have HVt := veil hV
    clear hV h3
    go_enter Try.func9, Try.ntmps9
    go_wp2_with fail
    refine HA.out.mono ?_
    rintro e wq ⟨rfl, hwq⟩
    obtain rfl : w = wq := hwq.symm
    clear HA hwq
    go_wp2_with fail
    (try simp only [Exit.inBlock, Exit.then]); refine bodyPost_ret (results_tmp4 rfl _ _ _) rfl ?_
    exact ⟨by rw [HVt.out]; exact ret_four rfl rfl rfl rfl, Below.refl _ _⟩
end Go.Proofs.Ytebfacbhldjpdaa

/- From the form's readings of the arguments to the words of Mem: slices of integers, slices of structs of integers. -/
namespace Go.Proofs.Ytebfacbhldjpdaa
open Go.RowKit Go.ChangeShapes Go.WideShapes Go.ChangeAt Go.Deep
set_option linter.unusedVariables false
set_option linter.unusedSimpArgs false
set_option maxRecDepth 100000

theorem own : ownKnob Try.prog.godebug = none := by kernel_rfl
section
variable {H : Type} {enc : TypeId × Value → H}

end
end Go.Proofs.Ytebfacbhldjpdaa
