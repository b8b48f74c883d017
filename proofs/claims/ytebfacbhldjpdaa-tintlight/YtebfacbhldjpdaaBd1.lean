/- Texts shared by the claims of this seat, in one. -/
import Derived.Below
import Derived.WalkKit
import Derived.Laws.OwnMore
import Derived.Deep.Draws
import Derived.Deep.QuietTactic
import Derived.BigQuiet
import Derived.Laws.AppendOwn
import Derived.OwnWalk
import Derived.Deep.LoopGhost
import Derived.Deep.RegionHeld3
import Derived.Test.YtebfacbhldjpdaaRows
import Derived.ProofKit
import Derived.OpenShut
import Derived.ShutString
import Derived.ChangeOld
import Derived.JoinedCond
import Derived.Deep.Slices
import Derived.Deep.SlicePairs
import Derived.Deep.Fields
import Derived.ChangeSame
import Derived.SizedLaws
/- Words for memory that all walks share: a slice that reads as a list of cells, kept over what a call may do. No program is named here. -/
namespace Go.RowKit
theorem Below.drewN {B : Nat} {a w : World} (h : Below B a w) (n : Nat) : Below B a (w.drewN n) := ⟨h.os, h.tape, h.output, h.size, h.block⟩
end Go.RowKit
namespace Go.Proofs.Ytebfacbhldjpdaa
open Go.RowKit
set_option linter.unusedVariables false
set_option linter.unusedSimpArgs false
set_option maxRecDepth 100000

/-- A fact put out of the walk's sight. -/
theorem veil {p : Prop} (h : p) : Hid p := h

/-- The cells from address A on are xs, and they lie below block B. -/
def Seen (w : World) (B : Nat) (A : Option Addr) (xs : List Value) : Prop :=
  xs = [] ∨ ∃ g o, A = some ⟨g, o, none⟩ ∧ g < B ∧ ∀ j u, xs[j]? = some u → w.cell? ⟨g, o + j, none⟩ = some u

theorem Seen.of (w w' : World) {B : Nat} {A : Option Addr} {xs : List Value} (h : Seen w B A xs) (hk : ∀ p : Addr, p.block < B → w'.cell? p = w.cell? p) : Seen w' B A xs := by
  rcases h with h | ⟨g, o, e, hg, hc⟩
  · exact .inl h
  · exact .inr ⟨g, o, e, hg, fun j u hu => (hk _ hg).trans (hc j u hu)⟩

theorem Seen.below {w w' : World} {B C : Nat} {A : Option Addr} {xs : List Value} (h : Seen w B A xs) (hb : Below C w w') (hBC : B ≤ C) : Seen w' B A xs :=
  h.of w w' fun _ hp => hb.cell (Nat.lt_of_lt_of_le hp hBC)

theorem Seen.at {w : World} {B : Nat} {A : Option Addr} {xs : List Value} (h : Seen w B A xs) (hne : 0 < xs.length) :
    ∃ g o, A = some ⟨g, o, none⟩ ∧ g < B ∧ ∀ j u, xs[j]? = some u → w.cell? ⟨g, o + j, none⟩ = some u := by
  rcases h with h | h
  · subst h; simp at hne
  · exact h

/-- Integers in a row. -/
def ints (k : IntKind) (xs : List Int) : List Value := xs.map (Value.int k)
theorem ints_length (k : IntKind) (xs : List Int) : (ints k xs).length = xs.length := by simp [ints]
theorem ints_at {k : IntKind} {xs : List Int} {j : Nat} {x : Int} (h : xs[j]? = some x) : (ints k xs)[j]? = some (.int k x) := by
  simp [ints, h]
theorem some_at {α : Type} {xs : List α} {j : Nat} (h : j < xs.length) : ∃ x, xs[j]? = some x := ⟨xs[j], List.getElem?_eq_getElem h⟩
/-- One number of a row that came in, with its cell. -/
theorem Seen.int {w : World} {B : Nat} {A : Option Addr} {kd : IntKind} {xs : List Int} (h : Seen w B A (ints kd xs)) {k : Nat} (hk : k < xs.length) :
    ∃ g o x, A = some ⟨g, o, none⟩ ∧ g < B ∧ xs[k]? = some x ∧ w.cell? ⟨g, o + k, none⟩ = some (.int kd x) := by
  obtain ⟨g, o, e, hg, hc⟩ := h.at (by rw [ints_length]; omega)
  obtain ⟨x, hx⟩ := some_at hk
  exact ⟨g, o, x, e, hg, hx, hc k _ (ints_at hx)⟩
end Go.Proofs.Ytebfacbhldjpdaa

/- A number of 64 bits. -/
namespace Go.Proofs.Ytebfacbhldjpdaa
def In64 (n : Int) : Prop := -9223372036854775808 ≤ n ∧ n ≤ 9223372036854775807
end Go.Proofs.Ytebfacbhldjpdaa

/- Rounding and clamping in numbers. -/
namespace Go.Proofs.Ytebfacbhldjpdaa
open Go.RowKit
set_option linter.unusedVariables false
set_option linter.unusedSimpArgs false
set_option maxRecDepth 100000

/-- The nearest whole number to n / d; of two, the one farther from zero. -/
def rnd (n d : Int) : Int :=
  if 0 < n.tmod d ∧ d - n.tmod d ≤ n.tmod d then n.tdiv d + 1 else if n.tmod d < 0 ∧ d + n.tmod d ≤ - n.tmod d then n.tdiv d - 1 else n.tdiv d
/-- n within bounds. -/
def clampZ (n lo hi : Int) : Int := if n < lo then lo else if hi < n then hi else n
theorem mul_step {a b d : Int} (hd : 0 < d) (h : a < b) : a * d + d ≤ b * d := by
  have := Int.mul_le_mul_of_nonneg_right (show a + 1 ≤ b by omega) (Int.le_of_lt hd)
  rw [Int.add_mul, Int.one_mul] at this
  exact this
theorem rnd_spec (n d : Int) (hd : 0 < d) : (0 ≤ n → 2 * (rnd n d * d) - d ≤ 2 * n ∧ 2 * n < 2 * (rnd n d * d) + d) ∧ (n ≤ 0 → 2 * (rnd n d * d) - d < 2 * n ∧ 2 * n ≤ 2 * (rnd n d * d) + d) := by
  have h1 := Int.tmod_lt_of_pos n hd
  have h2 := Int.lt_tmod_of_pos n hd
  have h3 := Int.tmod_add_mul_tdiv n d
  have h4 : 0 ≤ n → 0 ≤ n.tmod d := Int.tmod_nonneg d
  have h5 : n ≤ 0 → n.tmod d ≤ 0 := by
    intro h
    have := Int.tmod_nonneg (a := -n) d (by omega)
    rw [Int.neg_tmod] at this
    omega
  rw [Int.mul_comm] at h3
  have e1 : (n.tdiv d + 1) * d = n.tdiv d * d + d := by rw [Int.add_mul, Int.one_mul]
  have e2 : (n.tdiv d - 1) * d = n.tdiv d * d - d := by rw [Int.sub_mul, Int.one_mul]
  unfold rnd
  generalize n.tmod d = r at *
  obtain ⟨m, hm⟩ : ∃ m, n.tdiv d * d = m := ⟨_, rfl⟩
  rw [hm] at h3 e1 e2
  split
  · rw [e1]; exact ⟨fun h => by have := h4 h; omega, fun h => by have := h5 h; omega⟩
  · split
    · rw [e2]; exact ⟨fun h => by have := h4 h; omega, fun h => by have := h5 h; omega⟩
    · rw [hm]; exact ⟨fun h => by have := h4 h; omega, fun h => by have := h5 h; omega⟩
theorem rnd_mono {n m d : Int} (hd : 0 < d) (h : n ≤ m) : rnd n d ≤ rnd m d := by
  obtain ⟨h1, h2⟩ := rnd_spec n d hd
  obtain ⟨h3, h4⟩ := rnd_spec m d hd
  refine Int.not_lt.1 fun h5 => ?_
  have := mul_step hd h5
  by_cases e1 : 0 ≤ n
  · have := h1 e1; have := h3 (by omega); omega
  · by_cases e2 : 0 ≤ m
    · have := h2 (by omega); have := h3 e2; omega
    · have := h2 (by omega); have := h4 (by omega); omega
theorem retI {x y : Int} (h : x = y) : (Ending.returned (.int .i64 x)) = .returned (.int .i64 y) := by rw [h]
theorem tdiv_small {n d M : Int} (h1 : -M ≤ n) (h2 : n ≤ M) : -M ≤ n.tdiv d ∧ n.tdiv d ≤ M := by
  have h3 := Int.natAbs_tdiv n d
  have h4 := Nat.div_le_self n.natAbs d.natAbs
  have h5 : n.natAbs.div d.natAbs = n.natAbs / d.natAbs := rfl
  rw [h5] at h3
  omega
end Go.Proofs.Ytebfacbhldjpdaa

/- Colors and light in numbers: what tint's laws ask. -/
namespace Go.Proofs.Ytebfacbhldjpdaa
open Go.RowKit
set_option linter.unusedVariables false
set_option linter.unusedSimpArgs false
set_option maxRecDepth 100000

/-- A sample out of a sum of 65536ths. -/
def smp (n : Int) : Int := clampZ (rnd n 65536) 0 255
def tY (r g b : Int) : Int := smp (19595 * r + 38470 * g + 7471 * b)
def tU (r g b : Int) : Int := smp (8388608 + 32768 * b - 11059 * r - 21709 * g)
def tV (r g b : Int) : Int := smp (8388608 + 32768 * r - 27439 * g - 5329 * b)
def tR (y u v : Int) : Int := smp (65536 * y + 91881 * (v - 128))
def tG (y u v : Int) : Int := smp (65536 * y - 22554 * (u - 128) - 46802 * (v - 128))
def tB (y u v : Int) : Int := smp (65536 * y + 116130 * (u - 128))
/-- Eight bits. -/
def B8 (n : Int) : Prop := 0 ≤ n ∧ n ≤ 255
instance (n : Int) : Decidable (B8 n) := by unfold B8; infer_instance
/-- A sample, told by bounds. -/
theorem smp_spec (n : Int) : (smp n = 0 ∧ n < 32768) ∨ (smp n = 255 ∧ 16678912 ≤ n) ∨ (0 ≤ smp n ∧ smp n ≤ 255 ∧ 65536 * smp n - 32768 ≤ n ∧ n < 65536 * smp n + 32768) := by
  obtain ⟨h1, h2⟩ := rnd_spec n 65536 (by omega)
  unfold smp clampZ
  split
  · left; omega
  · split
    · right; left; omega
    · by_cases h : 0 ≤ n
      · right; right; have := h1 h; omega
      · have := h2 (by omega)
        by_cases h0 : rnd n 65536 = 0
        · left; omega
        · omega
theorem smp_mono {a b : Int} (h : a ≤ b) : smp a ≤ smp b := by
  have := rnd_mono (d := 65536) (by omega) h
  unfold smp clampZ
  split <;> split <;> (try split) <;> (try split) <;> omega
theorem tint_gray {n : Int} (h : B8 n) : tY n n n = n ∧ tU n n n = 128 ∧ tV n n n = 128 ∧ tR n 128 128 = n ∧ tG n 128 128 = n ∧ tB n 128 128 = n := by
  unfold B8 at h
  have key : ∀ s m : Int, B8 m → s = 65536 * m → smp s = m := fun s m hm e => by
    unfold B8 at hm
    rcases smp_spec s with h1 | h1 | h1 <;> omega
  refine ⟨key _ _ h (by omega), key _ _ (by unfold B8; omega) (by omega), key _ _ (by unfold B8; omega) (by omega), key _ _ h (by omega), key _ _ h (by omega), key _ _ h (by omega)⟩
theorem tint_white : tY 255 255 255 = 255 ∧ tU 255 255 255 = 128 ∧ tV 255 255 255 = 128 := by
  have h := tint_gray (n := 255) (by unfold B8; omega)
  exact ⟨h.1, h.2.1, h.2.2.1⟩
theorem tint_light {r g b lo hi : Int} (h1 : lo ≤ r ∧ lo ≤ g ∧ lo ≤ b) (h2 : r ≤ hi ∧ g ≤ hi ∧ b ≤ hi) (hl : B8 lo) (hh : B8 hi) : lo ≤ tY r g b ∧ tY r g b ≤ hi := by
  have e1 := (tint_gray hl).1
  have e2 := (tint_gray hh).1
  unfold tY at e1 e2 ⊢
  rw [← e1]
  refine ⟨smp_mono (by omega), ?_⟩
  rw [← e2]
  exact smp_mono (by omega)
end Go.Proofs.Ytebfacbhldjpdaa

/- The reference's clamp and Round: their contracts. -/
namespace Go.Proofs.Ytebfacbhldjpdaa
open Go.RowKit
set_option linter.unusedVariables false
set_option linter.unusedSimpArgs false
set_option maxRecDepth 100000

end Go.Proofs.Ytebfacbhldjpdaa

/- The reference's outside, in a text of its own. -/
namespace Go.Proofs.Ytebfacbhldjpdaa
open Go.RowKit
set_option linter.unusedVariables false
set_option linter.unusedSimpArgs false
set_option maxRecDepth 100000

end Go.Proofs.Ytebfacbhldjpdaa

/- The reference's samples, sample, TintTo and TintFrom: their contracts. -/
namespace Go.Proofs.Ytebfacbhldjpdaa
open Go.RowKit
set_option linter.unusedVariables false
set_option linter.unusedSimpArgs false
set_option maxRecDepth 100000

theorem results_tmp4 {fn : Func} {t u v x : Tmp} (h : fn.results = #[.tmp t, .tmp u, .tmp v, .tmp x]) (tmps : Array Value) (P : Program) (w : World) :
    (results fn tmps).run P w = .ok (.tuple #[tmps.getD t undef, tmps.getD u undef, tmps.getD v undef, tmps.getD x undef]) w := by
  simp [results, h]
theorem ret_four {a a' b b' c c' d d' : Value} (h : a = a') (k : b = b') (m : c = c') (n : d = d') : Ending.returned (.tuple #[a, b, c, d]) = .returned (.tuple #[a', b', c', d']) := by rw [h, k, m, n]
/-- What To and From hand back. -/
def toV (r g b : Int) : Value := if B8 r ∧ B8 g ∧ B8 b then .tuple #[.int .i64 (tY r g b), .int .i64 (tU r g b), .int .i64 (tV r g b), .int .i64 0] else .tuple #[.int .i64 0, .int .i64 0, .int .i64 0, .int .i64 1]
end Go.Proofs.Ytebfacbhldjpdaa

/- The reference's Rest: what is left of a division, never below zero. -/
namespace Go.Proofs.Ytebfacbhldjpdaa
open Go.RowKit
set_option linter.unusedVariables false
set_option linter.unusedSimpArgs false
set_option maxRecDepth 100000

theorem tmod_cases (n m : Int) (h : 0 < m) : n.tmod m < m ∧ -m < n.tmod m ∧ n % m = (n.tmod m) % m := by
  refine ⟨Int.tmod_lt_of_pos n h, ?_, ?_⟩
  · have := Int.lt_tmod_of_pos n h; omega
  · conv => lhs; rw [← Int.tmod_add_mul_tdiv n m]
    rw [Int.add_mul_emod_self_left]
theorem rest_neg (n m : Int) (h : 0 < m) (hm : m ≤ 9223372036854775807) (hn : n.tmod m < 0) : wrap64 (n.tmod m + m) = n % m := by
  obtain ⟨h1, h2, h3⟩ := tmod_cases n m h
  rw [h3]
  generalize n.tmod m = r at *
  have e : r % m = r + m := by
    rw [← Int.add_emod_right, Int.emod_eq_of_lt (by omega) (by omega)]
  rw [e]; unfold wrap64; omega
theorem rest_pos (n m : Int) (h : 0 < m) (hn : 0 ≤ n.tmod m) : n.tmod m = n % m := by
  obtain ⟨h1, h2, h3⟩ := tmod_cases n m h
  rw [h3, Int.emod_eq_of_lt hn h1]
theorem rest_any (n m : Int) (w : World) (h1 : 0 < m) (h2 : m ≤ 9223372036854775807) (hn : -9223372036854775808 ≤ n ∧ n ≤ 9223372036854775807) :
    Calls Try.prog 14 #[.int .i64 n, .int .i64 m] w fun e w' => e = .returned (.int .i64 (n % m)) ∧ w = w' := by
  go_enter Try.func14, Try.ntmps14
  go_wp2
  · go_ret
    exact ⟨congrArg (fun x => Ending.returned (.int .i64 x)) (rest_neg n m h1 h2 ‹_›), rfl⟩
  · go_ret
    exact ⟨congrArg (fun x => Ending.returned (.int .i64 x)) (rest_pos n m h1 ‹_›), rfl⟩
end Go.Proofs.Ytebfacbhldjpdaa

/- What tint's To and From are to do, and the keep's closed fact. -/
namespace Go.Proofs.Ytebfacbhldjpdaa
open Go.RowKit
set_option linter.unusedVariables false
set_option linter.unusedSimpArgs false
set_option maxRecDepth 100000

/-- tint.To's contract. -/
def TToSpec : Prop := ∀ (r g b : Int) (w : World), In64 r → In64 g → In64 b →
    Calls Try.prog 9 #[.int .i64 r, .int .i64 g, .int .i64 b] w fun e w' => e = .returned (toV r g b) ∧ Below w.heap.size w w'
theorem toV_ok {r g b : Int} (hr : B8 r) (hg : B8 g) (hb : B8 b) : toV r g b = .tuple #[.int .i64 (tY r g b), .int .i64 (tU r g b), .int .i64 (tV r g b), .int .i64 0] := if_pos ⟨hr, hg, hb⟩
theorem b8_64 {n : Int} (h : B8 n) : In64 n := by unfold B8 at h; unfold In64; omega
theorem b8_mod (n : Int) : B8 (n % 256) := by unfold B8; omega
set_option maxHeartbeats 1000000 in
theorem tinted_any (HT : TToSpec) (w : World) : Calls Try.prog 13 #[] w fun e w' => e = .returned (.bool true) ∧ Below w.heap.size w w' := by
  have h8 : B8 255 := by unfold B8; omega
  have H1 := HT 255 255 255 w (b8_64 h8) (b8_64 h8) (b8_64 h8)
  rw [toV_ok h8 h8 h8, tint_white.1, tint_white.2.1, tint_white.2.2] at H1
  have H2 := veil H1
  clear H1 h8 HT
  go_enter Try.func13, Try.ntmps13
  go_wp2_with fail
  refine H2.out.mono ?_
  rintro e w1 ⟨rfl, hb1⟩
  clear H2
  go_wp2_with fail
  go_ret
  exact ⟨rfl, hb1⟩
end Go.Proofs.Ytebfacbhldjpdaa

/- quant.Round: its contract. -/
namespace Go.Proofs.Ytebfacbhldjpdaa
open Go.RowKit
set_option linter.unusedVariables false
set_option linter.unusedSimpArgs false
set_option maxRecDepth 100000

set_option maxHeartbeats 1000000 in
theorem round_any (n d : Int) (w : World) (h1 : -1152921504606846976 ≤ n) (h2 : n ≤ 1152921504606846976) (hd1 : 1 ≤ d) (hd2 : d ≤ 1152921504606846976) :
    Calls Try.prog 22 #[.int .i64 n, .int .i64 d] w fun e w' => e = .returned (.int .i64 (rnd n d)) ∧ ∃ q, w' = w.drewN q := by
  have hne : d ≠ 0 := by omega
  have hlt : ¬ d < 1 := by omega
  have h3 := Int.tmod_lt_of_pos n (show 0 < d by omega)
  have h4 := Int.lt_tmod_of_pos n (show 0 < d by omega)
  have h5 := tdiv_small (d := d) h1 h2
  have h6 : Hid (rnd n d = _) := rnd.eq_1 n d
  generalize rnd n d = R at *
  go_enter Try.func22, Try.ntmps22
  go_wp2
  go_quiet (fail)
  go_wp2
  all_goals
    go_ret
    refine ⟨retI ?_, _, rfl⟩
    rw [h6.out]
    generalize n.tmod d = r at *
    generalize n.tdiv d = m at *
    split <;> (try split) <;> (try unfold wrap64) <;> omega
end Go.Proofs.Ytebfacbhldjpdaa

/- tint.isSample, areSamples, sample: their contracts. -/
namespace Go.Proofs.Ytebfacbhldjpdaa
open Go.RowKit
set_option linter.unusedVariables false
set_option linter.unusedSimpArgs false
set_option maxRecDepth 100000

theorem tnIs_yes (n : Int) (h : B8 n) (w : World) : Calls Try.prog 21 #[.int .i64 n] w fun e w' => e = .returned (.bool true) ∧ w' = w := by
  have h1 : 0 ≤ n := h.1
  have h2 : n ≤ 255 := h.2
  clear h
  go_enter Try.func21, Try.ntmps21
  go_wp2
  go_ret
  exact ⟨rfl, rfl⟩
theorem tnIs_no (n : Int) (h : ¬ B8 n) (w : World) : Calls Try.prog 21 #[.int .i64 n] w fun e w' => e = .returned (.bool false) ∧ w' = w := by
  by_cases h1 : 0 ≤ n
  · have h2 : ¬ n ≤ 255 := fun h3 => h ⟨h1, h3⟩
    clear h
    go_enter Try.func21, Try.ntmps21
    go_wp2
    go_ret
    exact ⟨rfl, rfl⟩
  · clear h
    go_enter Try.func21, Try.ntmps21
    go_wp2
    go_ret
    exact ⟨rfl, rfl⟩
theorem tnIs_any (n : Int) (w : World) : Calls Try.prog 21 #[.int .i64 n] w fun e w' => e = .returned (.bool (decide (B8 n))) ∧ w' = w := by
  by_cases h : B8 n
  · rw [decide_eq_true h]; exact tnIs_yes n h w
  · rw [decide_eq_false h]; exact tnIs_no n h w
theorem tnAre_any (a b c : Int) (w : World) : Calls Try.prog 17 #[.int .i64 a, .int .i64 b, .int .i64 c] w fun e w' => e = .returned (.bool (decide (B8 a ∧ B8 b ∧ B8 c))) ∧ w' = w := by
  obtain ⟨V, hV⟩ : ∃ V, V = decide (B8 a ∧ B8 b ∧ B8 c) := ⟨_, rfl⟩
  rw [← hV]
  have HA := veil (tnIs_any a w)
  have HB := veil (tnIs_any b w)
  have HC := veil (tnIs_any c w)
  by_cases ha : B8 a
  · rw [decide_eq_true ha] at HA
    by_cases hb : B8 b
    · rw [decide_eq_true hb] at HB
      obtain ⟨Y, hY⟩ : ∃ Y, Y = decide (B8 c) := ⟨_, rfl⟩
      have e : V = Y := by rw [hV, hY]; simp [ha, hb]
      rw [← hY] at HC
      subst e
      clear hV hY ha hb
      go_enter Try.func17, Try.ntmps17
      go_wp2_with fail
      refine HA.out.mono ?_
      rintro e _ ⟨rfl, rfl⟩
      clear HA
      go_wp2_with fail
      refine HB.out.mono ?_
      rintro e _ ⟨rfl, rfl⟩
      clear HB
      go_wp2_with fail
      refine HC.out.mono ?_
      rintro e _ ⟨rfl, rfl⟩
      clear HC
      go_wp2
      go_ret
      exact ⟨rfl, rfl⟩
    · rw [decide_eq_false hb] at HB
      have e : V = false := by rw [hV]; simp [hb]
      subst e
      clear hV HC ha hb
      go_enter Try.func17, Try.ntmps17
      go_wp2_with fail
      refine HA.out.mono ?_
      rintro e _ ⟨rfl, rfl⟩
      clear HA
      go_wp2_with fail
      refine HB.out.mono ?_
      rintro e _ ⟨rfl, rfl⟩
      clear HB
      go_wp2
      go_ret
      exact ⟨rfl, rfl⟩
  · rw [decide_eq_false ha] at HA
    have e : V = false := by rw [hV]; simp [ha]
    subst e
    clear hV HB HC ha
    go_enter Try.func17, Try.ntmps17
    go_wp2_with fail
    refine HA.out.mono ?_
    rintro e _ ⟨rfl, rfl⟩
    clear HA
    go_wp2
    go_ret
    exact ⟨rfl, rfl⟩
theorem tnSample_any (n : Int) (w : World) (h1 : -1152921504606846976 ≤ n) (h2 : n ≤ 1152921504606846976) : Calls Try.prog 18 #[.int .i64 n] w fun e w' => e = .returned (.int .i64 (smp n)) ∧ Below w.heap.size w w' := by
  have HR := veil (round_any n 65536 w h1 h2 (by omega) (by omega))
  have HS := veil (show smp n = clampZ (rnd n 65536) 0 255 from rfl)
  clear h1 h2
  generalize rnd n 65536 = R at *
  generalize smp n = S at *
  go_enter Try.func18, Try.ntmps18
  go_wp2_with fail
  refine HR.out.mono ?_
  rintro e _ ⟨rfl, q, rfl⟩
  clear HR
  go_wp2
  all_goals
    go_ret
    exact ⟨retI (by rw [HS.out]; unfold clampZ; clear HS; split <;> (try split) <;> omega), (Below.refl _ _).drewN _⟩
end Go.Proofs.Ytebfacbhldjpdaa

/- tint.To: its contract. -/
namespace Go.Proofs.Ytebfacbhldjpdaa
open Go.RowKit
set_option linter.unusedVariables false
set_option linter.unusedSimpArgs false
set_option maxRecDepth 100000

set_option maxHeartbeats 2000000 in
theorem tnTo_any : TToSpec := by
  intro r g b w h1 h2 h3
  clear h1 h2 h3
  have HA := veil (tnAre_any r g b w)
  obtain ⟨V, hV⟩ : ∃ V, V = toV r g b := ⟨_, rfl⟩
  rw [← hV]
  unfold toV at hV
  by_cases h3 : B8 r ∧ B8 g ∧ B8 b
  · rw [decide_eq_true h3] at HA
    rw [if_pos h3] at hV
    unfold tY tU tV at hV
    unfold B8 at h3
    have S1 := veil (fun W => tnSample_any (19595 * r + 38470 * g + 7471 * b) W (by omega) (by omega))
    have S2 := veil (fun W => tnSample_any (8388608 + 32768 * b - 11059 * r - 21709 * g) W (by omega) (by omega))
    have S3 := veil (fun W => tnSample_any (8388608 + 32768 * r - 27439 * g - 5329 * b) W (by omega) (by omega))
    have HVt := veil hV
    clear hV
    go_enter Try.func9, Try.ntmps9
    go_wp2_with fail
    refine HA.out.mono ?_
    rintro e wq ⟨rfl, hwq⟩
    obtain rfl : w = wq := hwq.symm
    clear HA hwq
    go_wp2_with fail
    refine (S1.out w).mono ?_
    rintro e w1 ⟨rfl, hb1⟩
    have HB1 := veil hb1
    clear S1 hb1
    go_wp2_with fail
    refine (S2.out w1).mono ?_
    rintro e w2 ⟨rfl, hb2⟩
    have HB2 := veil (HB1.out.trans (hb2.mono HB1.out.size))
    clear S2 hb2 HB1
    go_wp2_with fail
    refine (S3.out w2).mono ?_
    rintro e w3 ⟨rfl, hb3⟩
    have HB3 := veil (HB2.out.trans (hb3.mono HB2.out.size))
    clear S3 hb3 HB2
    go_wp2_with fail
    (try simp only [Exit.inBlock, Exit.then]); refine bodyPost_ret (results_tmp4 rfl _ _ _) rfl ?_
    exact ⟨by rw [HVt.out]; exact ret_four rfl rfl rfl rfl, HB3.out⟩
  · rw [decide_eq_false h3] at HA
    rw [if_neg h3] at hV
    have HVt := veil hV
    clear hV h3
    go_enter Try.func9, Try.ntmps9
    go_wp2_with fail
    refine HA.out.mono ?_
    rintro e wq ⟨rfl, hwq⟩
    obtain rfl : w = wq := hwq.symm
    clear HA hwq
    go_wp2_with fail
    (try simp only [Exit.inBlock, Exit.then]); refine bodyPost_ret (results_tmp4 rfl _ _ _) rfl ?_
    exact ⟨by rw [HVt.out]; exact ret_four rfl rfl rfl rfl, Below.refl _ _⟩
end Go.Proofs.Ytebfacbhldjpdaa

/- From the form's readings of the arguments to the words of Mem: slices of integers, slices of structs of integers. -/
namespace Go.Proofs.Ytebfacbhldjpdaa
open Go.RowKit Go.ChangeShapes Go.WideShapes Go.ChangeAt Go.Deep
set_option linter.unusedVariables false
set_option linter.unusedSimpArgs false
set_option maxRecDepth 100000

theorem own : ownKnob Try.prog.godebug = none := by kernel_rfl
section
variable {H : Type} {enc : TypeId × Value → H}

end
end Go.Proofs.Ytebfacbhldjpdaa
