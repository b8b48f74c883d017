/- The transform and its inverse as sums: what is odd, added, mirrored, turned, flat, single. -/
import Derived.Test.YtgnpjejjnhdejaaDoorWaveMath
namespace Go.Proofs.YtgnpjejjnhdejaaDoor
set_option linter.unusedVariables false
set_option linter.unusedSimpArgs false

/-- One row into waves, and back. -/
def fw (h : Nat → Int) (u : Nat) : Int := sumN 8 (fun x => cW u x * h x)
def bw (h : Nat → Int) (x : Nat) : Int := sumN 8 (fun u => cW u x * h u)
/-- A block (row, column) into waves (row v, column u), and back. -/
def toS (f : Nat → Nat → Int) (v u : Nat) : Int := fw (fun y => fw (f y) u) v
def frS (g : Nat → Nat → Int) (y x : Nat) : Int := bw (fun v => bw (g v) x) y
section
variable {h k : Nat → Int} {f g : Nat → Nat → Int}
theorem fw_congr (e : ∀ x, x < 8 → h x = k x) (u : Nat) : fw h u = fw k u := sumN_congr fun x hx => by rw [e x hx]
theorem bw_congr (e : ∀ x, x < 8 → h x = k x) (u : Nat) : bw h u = bw k u := sumN_congr fun x hx => by rw [e x hx]
theorem toS_congr (e : ∀ y x, y < 8 → x < 8 → f y x = g y x) (v u : Nat) : toS f v u = toS g v u := fw_congr (fun y hy => fw_congr (fun x hx => e y x hy hx) u) v
theorem frS_congr (e : ∀ y x, y < 8 → x < 8 → f y x = g y x) (v u : Nat) : frS f v u = frS g v u := bw_congr (fun y hy => bw_congr (fun x hx => e y x hy hx) u) v
theorem fw_add (u : Nat) : fw (fun x => h x + k x) u = fw h u + fw k u := by
  unfold fw; rw [← sumN_add]; exact sumN_congr fun x _ => Int.mul_add _ _ _
theorem bw_add (u : Nat) : bw (fun x => h x + k x) u = bw h u + bw k u := by
  unfold bw; rw [← sumN_add]; exact sumN_congr fun x _ => Int.mul_add _ _ _
theorem fw_mul (c : Int) (u : Nat) : fw (fun x => c * h x) u = c * fw h u := by
  unfold fw; rw [← sumN_mul]; exact sumN_congr fun x _ => Int.mul_left_comm _ _ _
theorem bw_mul (c : Int) (u : Nat) : bw (fun x => c * h x) u = c * bw h u := by
  unfold bw; rw [← sumN_mul]; exact sumN_congr fun x _ => Int.mul_left_comm _ _ _
theorem fw_neg (u : Nat) : fw (fun x => - h x) u = - fw h u := by
  unfold fw; rw [← sumN_neg]; exact sumN_congr fun x _ => Int.mul_neg _ _
theorem bw_neg (u : Nat) : bw (fun x => - h x) u = - bw h u := by
  unfold bw; rw [← sumN_neg]; exact sumN_congr fun x _ => Int.mul_neg _ _
theorem toS_add (v u : Nat) : toS (fun y x => f y x + g y x) v u = toS f v u + toS g v u := by
  unfold toS; rw [← fw_add]; exact fw_congr (fun y _ => fw_add u) v
theorem frS_add (v u : Nat) : frS (fun y x => f y x + g y x) v u = frS f v u + frS g v u := by
  unfold frS; rw [← bw_add]; exact bw_congr (fun y _ => bw_add u) v
theorem frS_mul (c : Int) (v u : Nat) : frS (fun y x => c * f y x) v u = c * frS f v u := by
  unfold frS; rw [← bw_mul]; exact bw_congr (fun y _ => bw_mul c u) v
theorem toS_neg (v u : Nat) : toS (fun y x => - f y x) v u = - toS f v u := by
  unfold toS; rw [← fw_neg]; exact fw_congr (fun y _ => fw_neg u) v
theorem frS_neg (v u : Nat) : frS (fun y x => - f y x) v u = - frS f v u := by
  unfold frS; rw [← bw_neg]; exact bw_congr (fun y _ => bw_neg u) v
/-- Two of them, along rows and along columns, in whichever order. -/
theorem fw_fw (v u : Nat) : fw (fun y => fw (f y) u) v = fw (fun x => fw (fun y => f y x) v) u := by
  unfold fw
  have e1 : ∀ y, y < 8 → cW v y * sumN 8 (fun x => cW u x * f y x) = sumN 8 (fun x => cW v y * (cW u x * f y x)) := fun y _ => (sumN_mul 8 _ _).symm
  have e2 : ∀ x, x < 8 → cW u x * sumN 8 (fun y => cW v y * f y x) = sumN 8 (fun y => cW v y * (cW u x * f y x)) := fun x _ => by
    rw [← sumN_mul]; exact sumN_congr fun y _ => Int.mul_left_comm _ _ _
  rw [sumN_congr e1, sumN_congr e2, sumN_swap]
theorem bw_bw (v u : Nat) : bw (fun y => bw (f y) u) v = bw (fun x => bw (fun y => f y x) v) u := by
  unfold bw
  have e1 : ∀ y, y < 8 → cW y v * sumN 8 (fun x => cW x u * f y x) = sumN 8 (fun x => cW y v * (cW x u * f y x)) := fun y _ => (sumN_mul 8 _ _).symm
  have e2 : ∀ x, x < 8 → cW x u * sumN 8 (fun y => cW y v * f y x) = sumN 8 (fun y => cW y v * (cW x u * f y x)) := fun x _ => by
    rw [← sumN_mul]; exact sumN_congr fun y _ => Int.mul_left_comm _ _ _
  rw [sumN_congr e1, sumN_congr e2, sumN_swap]
theorem bw_fw (x v : Nat) : bw (fun u => fw (fun y => f y u) v) x = fw (fun y => bw (f y) x) v := by
  unfold bw fw
  have e1 : ∀ u, u < 8 → cW u x * sumN 8 (fun y => cW v y * f y u) = sumN 8 (fun y => cW v y * (cW u x * f y u)) := fun u _ => by
    rw [← sumN_mul]; exact sumN_congr fun y _ => Int.mul_left_comm _ _ _
  have e2 : ∀ y, y < 8 → cW v y * sumN 8 (fun u => cW u x * f y u) = sumN 8 (fun u => cW v y * (cW u x * f y u)) := fun y _ => (sumN_mul 8 _ _).symm
  rw [sumN_congr e1, sumN_congr e2, sumN_swap]
theorem toS_across (v u : Nat) : toS (fun y x => f x y) v u = toS f u v := by unfold toS; exact fw_fw v u
theorem frS_across (v u : Nat) : frS (fun y x => f x y) v u = frS f u v := by unfold frS; exact bw_bw v u
theorem fw_turn {u : Nat} (hu : u < 8) : fw (fun x => h (7 - x)) u = if u % 2 = 0 then fw h u else - fw h u := by
  have e0 : fw (fun x => h (7 - x)) u = sumN 8 (fun x => cW u (7 - x) * h x) := by
    unfold fw
    rw [sumN_turn 8]
    refine sumN_congr fun x hx => ?_
    show cW u (8 - 1 - x) * h (7 - (8 - 1 - x)) = _
    rw [show 8 - 1 - x = 7 - x by omega, show 7 - (7 - x) = x by omega]
  rw [e0]
  split
  · refine sumN_congr fun x hx => ?_
    have := cW_turn ⟨u, hu⟩ ⟨x, hx⟩
    simp only at this
    rw [this, if_pos (by assumption)]
  · unfold fw
    rw [← sumN_neg]
    refine sumN_congr fun x hx => ?_
    have := cW_turn ⟨u, hu⟩ ⟨x, hx⟩
    simp only at this
    rw [this, if_neg (by assumption), Int.neg_mul]
theorem toS_turn {u : Nat} (hu : u < 8) (v : Nat) : toS (fun y x => f y (7 - x)) v u = if u % 2 = 0 then toS f v u else - toS f v u := by
  unfold toS
  by_cases e : u % 2 = 0
  · rw [if_pos e]
    refine fw_congr (fun y _ => ?_) v
    have := fw_turn (h := f y) hu
    rw [if_pos e] at this; exact this
  · rw [if_neg e, ← fw_neg]
    refine fw_congr (fun y _ => ?_) v
    have := fw_turn (h := f y) hu
    rw [if_neg e] at this; exact this
theorem fw_flat (c : Int) {u : Nat} (hu : u < 8) : fw (fun _ => c) u = if u = 0 then 23168 * c else 0 := by
  unfold fw
  rw [sumN_mulR, cW_sum ⟨u, hu⟩]
  simp only
  split <;> simp
theorem toS_line {l : Nat → Int} {v u : Nat} (hv : v < 8) (h0 : v ≠ 0) : toS (fun _ x => l x) v u = 0 := by
  unfold toS
  rw [fw_flat _ hv, if_neg h0]
theorem toS_flat (c : Int) {v u : Nat} (hv : v < 8) (hu : u < 8) : toS (fun _ _ => c) v u = if v = 0 ∧ u = 0 then 536756224 * c else 0 := by
  unfold toS
  rw [fw_flat _ hv, fw_flat _ hu]
  by_cases e1 : v = 0 <;> by_cases e2 : u = 0 <;> simp [e1, e2] <;> omega
theorem bw_one {a : Nat} (ha : a < 8) (h0 : ∀ u, u < 8 → u ≠ a → h u = 0) (x : Nat) : bw h x = cW a x * h a := by
  unfold bw
  exact sumN_one ha fun u hu hne => by rw [h0 u hu hne, Int.mul_zero]
theorem frS_one {a b : Nat} (ha : a < 8) (hb : b < 8) (h0 : ∀ v u, v < 8 → u < 8 → (v ≠ a ∨ u ≠ b) → f v u = 0) (y x : Nat) : frS f y x = cW a y * (cW b x * f a b) := by
  unfold frS
  rw [bw_one ha (h := fun v => bw (f v) x) (fun v hv hne => ?_) y, bw_one hb (h := f a) (fun u hu hne => h0 a u ha hu (.inr hne)) x]
  rw [bw_congr (k := fun _ => 0) (fun u hu => h0 v u hv hu (.inl hne)) x, bw, sumN_congr (g := fun _ => 0) (fun u _ => Int.mul_zero _), sumN_nil]
end
/-- Of two added, each rounded. -/
theorem rnd_adds {a b d : Int} (hd : 0 < d) : -1 ≤ rnd (a + b) d - rnd a d - rnd b d ∧ rnd (a + b) d - rnd a d - rnd b d ≤ 1 := by
  have key : ∀ n, 2 * n - d ≤ 2 * (rnd n d * d) ∧ 2 * (rnd n d * d) ≤ 2 * n + d := fun n => by
    obtain ⟨h1, h2⟩ := rnd_spec n d hd
    by_cases h : 0 ≤ n
    · have := h1 h; omega
    · have := h2 (by omega); omega
  have k1 := key (a + b)
  have k2 := key a
  have k3 := key b
  have e : (rnd (a + b) d - rnd a d - rnd b d) * d = rnd (a + b) d * d - rnd a d * d - rnd b d * d := by rw [Int.sub_mul, Int.sub_mul]
  generalize rnd (a + b) d - rnd a d - rnd b d = z at *
  generalize rnd (a + b) d * d = p at *
  generalize rnd a d * d = q at *
  generalize rnd b d * d = r at *
  constructor
  · refine Int.not_lt.1 fun h => ?_
    have := mul_step hd h
    omega
  · refine Int.not_lt.1 fun h => ?_
    have := mul_step hd h
    omega
end Go.Proofs.YtgnpjejjnhdejaaDoor
