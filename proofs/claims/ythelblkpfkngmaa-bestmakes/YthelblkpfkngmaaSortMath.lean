/- Merging in place (Kim, Kutzner) on arrays: exchanges of ranges, rotations, and that what is merged is sorted. No program is named here. -/
import Derived.Sort.LotA
namespace Go.Proofs.Ythelblkpfkngmaa
open Go.Sort
set_option linter.unusedVariables false
set_option linter.unusedSimpArgs false
variable {α : Type} [Inhabited α]

/-- i exchanges, from a and b on. -/
def sw (d : Array α) (a b : Nat) : Nat → Array α
  | 0 => d
  | i + 1 => swp (sw d a b i) (a + i) (b + i)
theorem sw_size (d : Array α) (a b i : Nat) : (sw d a b i).size = d.size := by
  induction i with
  | zero => rfl
  | succ i ih => rw [sw, size_swp, ih]
theorem sw_get (d : Array α) (a b n : Nat) (h : a + n ≤ b) (hb : b + n ≤ d.size) (t : Nat) :
    (sw d a b n)[t]! = if a ≤ t ∧ t < a + n then d[b + (t - a)]! else if b ≤ t ∧ t < b + n then d[a + (t - b)]! else d[t]! := by
  induction n generalizing t with
  | zero => rw [if_neg (by omega), if_neg (by omega)]; rfl
  | succ n ih =>
    have hs := sw_size d a b n
    have ih := fun t => ih (by omega) (by omega) t
    rw [sw]
    by_cases h1 : t = a + n
    · subst h1
      rw [swp_left _ _ _ (by omega) (by omega), ih, if_neg (by omega), if_neg (by omega), if_pos (by omega)]
      congr 1; omega
    · by_cases h2 : t = b + n
      · subst h2
        rw [swp_right _ _ _ (by omega), ih, if_neg (by omega), if_neg (by omega), if_neg (by omega), if_pos (by omega)]
        congr 1; omega
      · rw [swp_other _ _ _ _ h1 h2, ih]
        by_cases h3 : a ≤ t ∧ t < a + n
        · rw [if_pos h3, if_pos (by omega)]
        · rw [if_neg h3, if_neg (c := a ≤ t ∧ t < a + (n + 1)) (by omega)]
          by_cases h4 : b ≤ t ∧ t < b + n
          · rw [if_pos h4, if_pos (by omega)]
          · rw [if_neg h4, if_neg (by omega)]
theorem sw_perm (d : Array α) (a b n lo hi : Nat) (h1 : lo ≤ a) (h2 : a + n ≤ hi) (h3 : lo ≤ b) (h4 : b + n ≤ hi) (h5 : hi ≤ d.size) : PermIn lo hi d (sw d a b n) := by
  induction n with
  | zero => exact permIn_refl _ _ _
  | succ n ih => exact permIn_trans _ _ _ _ _ (ih (by omega) (by omega)) (swp_permIn _ _ _ _ _ (by omega) (by omega) (by omega) (by omega) (by rw [sw_size]; exact h5))

/-- What lies at t when a .. m and m .. b have changed places. -/
def rg (d : Array α) (a m b t : Nat) : α := if a ≤ t ∧ t < b then if t < a + (b - m) then d[t + (m - a)]! else d[t - (b - m)]! else d[t]!
theorem rg_out (d : Array α) {a m b t : Nat} (h : t < a ∨ b ≤ t) : rg d a m b t = d[t]! := if_neg (by omega)
theorem rg_left (d : Array α) {a m b t : Nat} (h1 : a ≤ t) (h2 : t < a + (b - m)) (h3 : a ≤ m) (h4 : m ≤ b) : rg d a m b t = d[t + (m - a)]! := by
  unfold rg; rw [if_pos (by omega), if_pos h2]
theorem rg_right (d : Array α) {a m b t : Nat} (h1 : a + (b - m) ≤ t) (h2 : t < b) (h3 : a ≤ m) (h4 : m ≤ b) : rg d a m b t = d[t - (b - m)]! := by
  unfold rg; rw [if_pos (by omega), if_neg (by omega)]
theorem rg_none (d : Array α) {a b t : Nat} : rg d a a b t = d[t]! ∧ (a ≤ b → rg d a b b t = d[t]!) := by
  constructor
  · unfold rg; split
    · rw [if_pos (by omega)]; congr 1; omega
    · rfl
  · intro h; unfold rg; split
    · rw [if_neg (by omega)]; congr 1; omega
    · rfl
/-- The first part is longer. -/
theorem rg_more (d : Array α) {i j m t : Nat} (hij : j < i) (hj : 0 < j) (him : i ≤ m) (hs : m + j ≤ d.size) : rg (sw d (m - i) m j) (m - (i - j)) m (m + j) t = rg d (m - i) m (m + j) t := by
  have g := sw_get d (m - i) m j (by omega) (by omega)
  by_cases h1 : t < m - i ∨ m + j ≤ t
  · rw [rg_out _ (by omega), rg_out _ h1, g, if_neg (by omega), if_neg (by omega)]
  · by_cases h2 : t < m - (i - j)
    · rw [rg_out _ (by omega), g, if_pos (by omega), rg_left _ (by omega) (by omega) (by omega) (by omega)]
      congr 1; omega
    · by_cases h3 : t < m - (i - j) + j
      · rw [rg_left _ (by omega) (by omega) (by omega) (by omega), g, if_neg (by omega), if_pos (by omega), rg_right _ (by omega) (by omega) (by omega) (by omega)]
        congr 1; omega
      · rw [rg_right _ (by omega) (by omega) (by omega) (by omega), g, if_neg (by omega), if_neg (by omega), rg_right _ (by omega) (by omega) (by omega) (by omega)]
/-- The second part is longer. -/
theorem rg_less (d : Array α) {i j m t : Nat} (hij : i < j) (hi : 0 < i) (him : i ≤ m) (hs : m + j ≤ d.size) : rg (sw d (m - i) (m + j - i) i) (m - i) m (m + (j - i)) t = rg d (m - i) m (m + j) t := by
  have g := sw_get d (m - i) (m + j - i) i (by omega) (by omega)
  by_cases h1 : t < m - i ∨ m + j ≤ t
  · rw [rg_out _ (by omega), rg_out _ h1, g, if_neg (by omega), if_neg (by omega)]
  · by_cases h2 : m + (j - i) ≤ t
    · rw [rg_out _ (by omega), g, if_neg (by omega), if_pos (by omega), rg_right _ (by omega) (by omega) (by omega) (by omega)]
      congr 1; omega
    · by_cases h3 : t < m - i + (j - i)
      · rw [rg_left _ (by omega) (by omega) (by omega) (by omega), g, if_neg (by omega), if_neg (by omega), rg_left _ (by omega) (by omega) (by omega) (by omega)]
      · rw [rg_right _ (by omega) (by omega) (by omega) (by omega), g, if_pos (by omega), rg_left _ (by omega) (by omega) (by omega) (by omega)]
        congr 1; omega
/-- Both are as long. -/
theorem rg_same (d : Array α) {i m t : Nat} (him : i ≤ m) (hs : m + i ≤ d.size) : (sw d (m - i) m i)[t]! = rg d (m - i) m (m + i) t := by
  rw [sw_get d (m - i) m i (by omega) (by omega)]
  by_cases h1 : t < m - i ∨ m + i ≤ t
  · rw [rg_out _ h1, if_neg (by omega), if_neg (by omega)]
  · by_cases h2 : t < m
    · rw [if_pos (by omega), rg_left _ (by omega) (by omega) (by omega) (by omega)]; congr 1; omega
    · rw [if_neg (by omega), if_pos (by omega), rg_right _ (by omega) (by omega) (by omega) (by omega)]; congr 1; omega
/-- One element goes up, step by step. -/
theorem rg_up (d dk : Array α) {a k t : Nat} (hs : dk.size = d.size) (hk : k + 1 < d.size) (hak : a ≤ k) (h : ∀ t, dk[t]! = rg d a (a + 1) (k + 1) t) : (swp dk k (k + 1))[t]! = rg d a (a + 1) (k + 2) t := by
  by_cases h1 : t = k
  · subst h1
    rw [swp_left _ _ _ (by omega) (by omega), h, rg_out _ (by omega), rg_left _ (by omega) (by omega) (by omega) (by omega)]; congr 1; omega
  · by_cases h2 : t = k + 1
    · subst h2
      rw [swp_right _ _ _ (by omega), h, rg_right _ (by omega) (by omega) (by omega) (by omega), rg_right _ (by omega) (by omega) (by omega) (by omega)]; congr 1; omega
    · rw [swp_other _ _ _ _ h1 h2, h]
      by_cases h3 : t < a ∨ k + 2 ≤ t
      · rw [rg_out _ (by omega), rg_out _ h3]
      · rw [rg_left _ (by omega) (by omega) (by omega) (by omega), rg_left _ (by omega) (by omega) (by omega) (by omega)]
/-- One element goes down, step by step. -/
theorem rg_down (d dk : Array α) {k m t : Nat} (hs : dk.size = d.size) (hm : m < d.size) (hk : 0 < k) (hkm : k ≤ m) (h : ∀ t, dk[t]! = rg d k m (m + 1) t) : (swp dk k (k - 1))[t]! = rg d (k - 1) m (m + 1) t := by
  by_cases h1 : t = k
  · subst h1
    rw [swp_left _ _ _ (by omega) (by omega), h, rg_out _ (by omega), rg_right _ (by omega) (by omega) (by omega) (by omega)]; congr 1; omega
  · by_cases h2 : t = k - 1
    · subst h2
      rw [swp_right _ _ _ (by omega), h, rg_left _ (by omega) (by omega) (by omega) (by omega), rg_left _ (by omega) (by omega) (by omega) (by omega)]; congr 1; omega
    · rw [swp_other _ _ _ _ h1 h2, h]
      by_cases h3 : t < k - 1 ∨ m + 1 ≤ t
      · rw [rg_out _ (by omega), rg_out _ h3]
      · rw [rg_right _ (by omega) (by omega) (by omega) (by omega), rg_right _ (by omega) (by omega) (by omega) (by omega)]

/-! ### sorted by a number -/
def SortK (key : α → Int) (a b : Nat) (d : Array α) : Prop := ∀ i j, a ≤ i → i < j → j < b → key d[i]! ≤ key d[j]!
section
variable {key : α → Int} {d d' : Array α} {a b m i : Nat}
theorem SortK.le (h : SortK key a b d) {i j : Nat} (h1 : a ≤ i) (h2 : i ≤ j) (h3 : j < b) : key d[i]! ≤ key d[j]! := by
  rcases Nat.eq_or_lt_of_le h2 with rfl | h2
  · exact Int.le_refl _
  · exact h i j h1 h2 h3
theorem SortK.part (h : SortK key a b d) {a' b' : Nat} (h1 : a ≤ a') (h2 : b' ≤ b) : SortK key a' b' d := fun i j hi hij hj => h i j (by omega) hij (by omega)
theorem SortK.congr (h : SortK key a b d) (he : ∀ i, a ≤ i → i < b → d'[i]! = d[i]!) : SortK key a b d' := fun i j hi hij hj => by
  rw [he i hi (by omega), he j (by omega) hj]; exact h i j hi hij hj
theorem SortK.one (key : α → Int) (d : Array α) {a b : Nat} (h : b ≤ a + 1) : SortK key a b d := fun i j hi hij hj => by omega
/-- One element in front, brought to its place. -/
theorem sorted_up (hs : SortK key (a + 1) b d) (h1 : a + 1 ≤ i) (hib : i ≤ b) (hlo : ∀ h, a + 1 ≤ h → h < i → key d[h]! < key d[a]!) (hhi : ∀ h, i ≤ h → h < b → key d[a]! ≤ key d[h]!) (he : ∀ t, d'[t]! = rg d a (a + 1) i t) : SortK key a b d' := by
  intro x y hx hxy hy
  rw [he, he]
  by_cases c1 : y < i - 1
  · rw [rg_left _ (by omega) (by omega) (by omega) (by omega), rg_left _ (by omega) (by omega) (by omega) (by omega)]
    exact hs.le (by omega) (by omega) (by omega)
  · by_cases c2 : y = i - 1
    · subst c2
      rw [rg_left _ (by omega) (by omega) (by omega) (by omega), rg_right _ (by omega) (by omega) (by omega) (by omega), show i - 1 - (i - (a + 1)) = a by omega]
      have := hlo (x + (a + 1 - a)) (by omega) (by omega); omega
    · rw [rg_out _ (t := y) (by omega)]
      by_cases c3 : x < i - 1
      · rw [rg_left _ (by omega) (by omega) (by omega) (by omega)]
        exact hs.le (by omega) (by omega) (by omega)
      · by_cases c4 : x = i - 1
        · subst c4
          rw [rg_right _ (by omega) (by omega) (by omega) (by omega), show i - 1 - (i - (a + 1)) = a by omega]
          exact hhi y (by omega) (by omega)
        · rw [rg_out _ (by omega)]
          exact hs.le (by omega) (by omega) (by omega)
/-- One element behind, brought to its place. -/
theorem sorted_down (hs : SortK key a m d) (h1 : a ≤ i) (him : i ≤ m) (hlo : ∀ h, a ≤ h → h < i → key d[h]! ≤ key d[m]!) (hhi : ∀ h, i ≤ h → h < m → key d[m]! < key d[h]!) (he : ∀ t, d'[t]! = rg d i m (m + 1) t) : SortK key a (m + 1) d' := by
  intro x y hx hxy hy
  rw [he, he]
  by_cases c1 : y < i
  · rw [rg_out _ (by omega), rg_out _ (by omega)]
    exact hs.le (by omega) (by omega) (by omega)
  · by_cases c2 : y = i
    · subst c2
      rw [rg_out _ (t := x) (by omega), rg_left _ (by omega) (by omega) (by omega) (by omega), show y + (m - y) = m by omega]
      exact hlo x (by omega) (by omega)
    · rw [rg_right (t := y) _ (by omega) (by omega) (by omega) (by omega)]
      by_cases c3 : x < i
      · rw [rg_out _ (by omega)]
        exact hs.le (by omega) (by omega) (by omega)
      · by_cases c4 : x = i
        · subst c4
          rw [rg_left _ (by omega) (by omega) (by omega) (by omega), show x + (m - x) = m by omega]
          have := hhi (y - (m + 1 - m)) (by omega) (by omega); omega
        · rw [rg_right _ (by omega) (by omega) (by omega) (by omega)]
          exact hs.le (by omega) (by omega) (by omega)
/-- Two sorted halves, no element of the first above one of the second. -/
theorem sorted_join (h1 : SortK key a m d) (h2 : SortK key m b d) (h3 : ∀ x y, a ≤ x → x < m → m ≤ y → y < b → key d[x]! ≤ key d[y]!) : SortK key a b d := by
  intro x y hx hxy hy
  by_cases c1 : y < m
  · exact h1 x y hx hxy c1
  · by_cases c2 : x < m
    · exact h3 x y hx c2 (by omega) hy
    · exact h2 x y (by omega) hxy hy
/-- What the search for the middle has found. -/
structure Cut (key : α → Int) (d : Array α) (a m b mid start : Nat) : Prop where
  h1 : a ≤ start
  h2 : start ≤ m
  h3 : start ≤ mid
  h4 : m ≤ mid + m - start
  h5 : mid ≤ mid + m - start
  h6 : mid + m - start ≤ b
  lo : ∀ x y, a ≤ x → x < start → mid + m - start ≤ y → y < b → key d[x]! ≤ key d[y]!
  hi : ∀ x y, m ≤ x → x < mid + m - start → start ≤ y → y < m → key d[x]! ≤ key d[y]!
/-- When it ends. -/
theorem Cut.of (hU : SortK key a m d) (hV : SortK key m b d) {mid s0 r0 start : Nat} (ham : a < m) (hmb : m < b) (hmid : mid = (a + b) / 2)
    (h0 : if mid < m then s0 = mid + m - b ∧ r0 = mid else s0 = a ∧ r0 = m) (hs : s0 ≤ start) (hr : start ≤ r0)
    (hlo : ∀ c, s0 ≤ c → c < start → key d[c]! ≤ key d[mid + m - 1 - c]!) (hhi : ∀ c, start ≤ c → c < r0 → key d[mid + m - 1 - c]! < key d[c]!) : Cut key d a m b mid start := by
  have hc : s0 = (if mid < m then mid + m - b else a) ∧ r0 = if mid < m then mid else m := by
    split at h0
    · rename_i h; rw [if_pos h, if_pos h]; exact h0
    · rename_i h; rw [if_neg h, if_neg h]; exact h0
  obtain ⟨e1, e2⟩ := hc
  have b1 : a ≤ s0 := by rw [e1]; split <;> omega
  have b2 : r0 ≤ m := by rw [e2]; split <;> omega
  have b3 : r0 ≤ mid := by rw [e2]; split <;> omega
  have b4 : mid + m - start ≤ b := by
    split at e1 <;> omega
  refine ⟨by omega, by omega, by omega, by omega, by omega, b4, fun x y hx hxs hy hyb => ?_, fun x y hx hxe hy hym => ?_⟩
  · by_cases h : s0 < start
    · have := hlo (start - 1) (by omega) (by omega)
      have h2 := hU.le (i := x) (j := start - 1) hx (by omega) (by omega)
      have h3 := hV.le (i := mid + m - 1 - (start - 1)) (j := y) (by omega) (by omega) hyb
      omega
    · split at e1 <;> omega
  · by_cases h : start < r0
    · have := hhi start (Nat.le_refl _) h
      have h2 := hV.le (i := x) (j := mid + m - 1 - start) hx (by omega) (by omega)
      have h3 := hU.le (i := start) (j := y) (by omega) hy hym
      omega
    · split at e2 <;> omega
theorem Cut.rot {mid start : Nat} (hc : Cut key d a m b mid start) (hU : SortK key a m d) (hV : SortK key m b d) (he : ∀ t, d'[t]! = rg d start m (mid + m - start) t) :
    SortK key a start d' ∧ SortK key start mid d' ∧ SortK key mid (mid + m - start) d' ∧ SortK key (mid + m - start) b d' ∧ ∀ x y, a ≤ x → x < mid → mid ≤ y → y < b → key d'[x]! ≤ key d'[y]! := by
  obtain ⟨h1, h2, h3, h4, h5, h6, lo, hi⟩ := hc
  have g1 : ∀ t, t < start → d'[t]! = d[t]! := fun t ht => by rw [he, rg_out _ (by omega)]
  have g2 : ∀ t, start ≤ t → t < mid → d'[t]! = d[t + (m - start)]! := fun t h7 h8 => by rw [he, rg_left _ h7 (by omega) h2 h4]
  have g3 : ∀ t, mid ≤ t → t < mid + m - start → d'[t]! = d[t - (mid - start)]! := fun t h7 h8 => by
    rw [he, rg_right _ (by omega) h8 h2 h4]; congr 1; omega
  have g4 : ∀ t, mid + m - start ≤ t → d'[t]! = d[t]! := fun t ht => by rw [he, rg_out _ (by omega)]
  refine ⟨?_, ?_, ?_, ?_, ?_⟩
  · exact (hU.part (Nat.le_refl _) h2).congr fun i _ h => g1 i h
  · intro x y hx hxy hy; rw [g2 x hx (by omega), g2 y (by omega) hy]; exact hV.le (by omega) (by omega) (by omega)
  · intro x y hx hxy hy; rw [g3 x hx (by omega), g3 y (by omega) hy]; exact hU.le (by omega) (by omega) (by omega)
  · exact (hV.part h4 (Nat.le_refl _)).congr fun i h _ => g4 i h
  · intro x y hx hxm hy hyb
    by_cases c1 : x < start
    · rw [g1 x c1]
      by_cases c2 : y < mid + m - start
      · rw [g3 y hy c2]; exact hU.le hx (by omega) (by omega)
      · rw [g4 y (by omega)]; exact lo x y hx c1 (by omega) hyb
    · rw [g2 x (by omega) hxm]
      by_cases c2 : y < mid + m - start
      · rw [g3 y hy c2]; exact hi _ _ (by omega) (by omega) (by omega) (by omega)
      · rw [g4 y (by omega)]; exact hV.le (by omega) (by omega) hyb
/-- Both halves sorted: the whole. -/
theorem merge_done {mid : Nat} {d1 d2 d3 : Array α} (hb : b ≤ d1.size) (ham : a ≤ mid) (hmb : mid ≤ b) (hx : ∀ x y, a ≤ x → x < mid → mid ≤ y → y < b → key d1[x]! ≤ key d1[y]!)
    (p1 : PermIn a mid d1 d2) (s1 : SortK key a mid d2) (p2 : PermIn mid b d2 d3) (s2 : SortK key mid b d3) : PermIn a b d1 d3 ∧ SortK key a b d3 := by
  have hs2 : d2.size = d1.size := p1.1
  refine ⟨permIn_trans _ _ _ _ _ (permIn_mono _ _ _ _ _ _ (Nat.le_refl _) hmb (by omega) p1) (permIn_mono _ _ _ _ _ _ ham (Nat.le_refl _) (by omega) p2), ?_⟩
  refine sorted_join (s1.congr fun i _ h => p2.2.1 i (.inl h)) s2 ?_
  intro x y hx1 hx2 hy1 hy2
  rw [p2.2.1 x (.inl hx2)]
  have q1 : ∀ y, mid ≤ y → y < b → key d2[x]! ≤ key d2[y]! := by
    intro y h1 h2
    rw [p1.2.1 y (.inr h1)]
    exact permIn_all d1 d2 a mid (fun z => key z ≤ key d1[y]!) (by omega) p1 (fun i h3 h4 => hx i y h3 h4 h1 h2) x hx1 hx2
  exact permIn_all d2 d3 mid b (fun z => key d2[x]! ≤ key z) (by omega) p2 q1 y hy1 hy2
/-- All blocks of B are sorted. -/
def Blocks (key : α → Int) (n B : Nat) (d : Array α) : Prop := ∀ s, SortK key (s * B) (min (s * B + B) n) d
/-- Blocks of 2 B up to a, of B from a on. -/
def Half (key : α → Int) (n B a : Nat) (d : Array α) : Prop := (∀ s, s * (2 * B) < a → SortK key (s * (2 * B)) (min (s * (2 * B) + 2 * B) n) d) ∧ ∀ s, a ≤ s * B → SortK key (s * B) (min (s * B + B) n) d
end
end Go.Proofs.Ythelblkpfkngmaa
