/- Bits of numbers, the highest first, and bytes: plain mathematics. -/
import Derived.Test.YtjphfbapekdjmaaMem
namespace Go.Proofs.Ytjphfbapekdjmaa
set_option linter.unusedVariables false
set_option linter.unusedSimpArgs false
set_option maxRecDepth 100000

def bitsN : Nat → Nat → List Bool
  | 0, _ => []
  | w + 1, v => bitsN w (v / 2) ++ [decide (v % 2 = 1)]
def valB (l : List Bool) : Nat := l.foldl (fun n b => 2 * n + b.toNat) 0

theorem bitsN_length (w v : Nat) : (bitsN w v).length = w := by
  induction w generalizing v with
  | zero => rfl
  | succ w ih => simp [bitsN, ih]
theorem valB_snoc (l : List Bool) (b : Bool) : valB (l ++ [b]) = 2 * valB l + b.toNat := by simp [valB]
theorem valB_nil : valB [] = 0 := rfl
theorem valB_bitsN (w v : Nat) (h : v < 2 ^ w) : valB (bitsN w v) = v := by
  induction w generalizing v with
  | zero => simp at h; subst h; rfl
  | succ w ih =>
    rw [bitsN, valB_snoc, ih _ (by rw [Nat.pow_succ] at h; omega)]
    rcases Nat.mod_two_eq_zero_or_one v with hv | hv <;> simp [hv] <;> omega
theorem list_snoc {α : Type} (l : List α) (h : l ≠ []) : ∃ a b, l = a ++ [b] := ⟨l.dropLast, l.getLast h, (List.dropLast_concat_getLast h).symm⟩
theorem valB_lt (l : List Bool) : valB l < 2 ^ l.length := by
  suffices H : ∀ n (l : List Bool), l.length = n → valB l < 2 ^ n from H _ l rfl
  intro n
  induction n with
  | zero => intro l hl; have := List.eq_nil_of_length_eq_zero hl; subst this; decide
  | succ n ih =>
    intro l hl
    obtain ⟨a, b, rfl⟩ := list_snoc l (by intro e; subst e; simp at hl)
    have := ih a (by simpa using hl)
    rw [valB_snoc, Nat.pow_succ]
    cases b <;> simp <;> omega
theorem bitsN_valB (l : List Bool) : bitsN l.length (valB l) = l := by
  suffices H : ∀ n (l : List Bool), l.length = n → bitsN n (valB l) = l from H _ l rfl
  intro n
  induction n with
  | zero => intro l hl; have := List.eq_nil_of_length_eq_zero hl; subst this; rfl
  | succ n ih =>
    intro l hl
    obtain ⟨a, b, rfl⟩ := list_snoc l (by intro e; subst e; simp at hl)
    rw [bitsN, valB_snoc]
    have h1 : (2 * valB a + b.toNat) / 2 = valB a := by cases b <;> simp <;> omega
    have h2 : decide ((2 * valB a + b.toNat) % 2 = 1) = b := by cases b <;> simp <;> omega
    rw [h1, h2, ih a (by simpa using hl)]
theorem bitsN_inj {w a b : Nat} (ha : a < 2 ^ w) (hb : b < 2 ^ w) (h : bitsN w a = bitsN w b) : a = b := by
  rw [← valB_bitsN w a ha, ← valB_bitsN w b hb, h]
theorem bitsN_add (a b v : Nat) : bitsN (a + b) v = bitsN a (v / 2 ^ b) ++ bitsN b v := by
  induction b generalizing v with
  | zero => simp [bitsN]
  | succ b ih =>
    rw [← Nat.add_assoc, bitsN, ih, bitsN, List.append_assoc]
    congr 1
    rw [Nat.div_div_eq_div_mul, ← Nat.pow_succ', ]
theorem bitsN_mod (b v : Nat) : bitsN b (v % 2 ^ b) = bitsN b v := by
  induction b generalizing v with
  | zero => rfl
  | succ b ih =>
    rw [bitsN, bitsN]
    have h1 : v % 2 ^ (b + 1) / 2 = (v / 2) % 2 ^ b := by
      rw [Nat.pow_succ', Nat.mod_mul_right_div_self]
    have h2 : v % 2 ^ (b + 1) % 2 = v % 2 := Nat.mod_mod_of_dvd _ ⟨2 ^ b, by rw [Nat.pow_succ']⟩
    rw [h1, h2, ih]
/-- Two fields one behind the other. -/
theorem bitsN_join (a b p v : Nat) (hv : v < 2 ^ b) : bitsN (a + b) (p * 2 ^ b + v) = bitsN a p ++ bitsN b v := by
  have h1 : (p * 2 ^ b + v) / 2 ^ b = p := by
    rw [Nat.add_comm, Nat.add_mul_div_right _ _ (Nat.two_pow_pos b), Nat.div_eq_of_lt hv, Nat.zero_add]
  have h2 : (p * 2 ^ b + v) % 2 ^ b = v := by
    rw [Nat.add_comm, Nat.add_mul_mod_self_right, Nat.mod_eq_of_lt hv]
  rw [bitsN_add, h1, ← bitsN_mod b (p * 2 ^ b + v), h2]
theorem bitsN_ones (b : Nat) : bitsN b (2 ^ b - 1) = List.replicate b true := by
  induction b with
  | zero => rfl
  | succ b ih =>
    have hp := Nat.two_pow_pos b
    rw [bitsN, List.replicate_succ', Nat.pow_succ]
    have h1 : (2 ^ b * 2 - 1) / 2 = 2 ^ b - 1 := by omega
    have h2 : (2 ^ b * 2 - 1) % 2 = 1 := by omega
    rw [h1, h2, ih]; rfl

def unpack (bs : List Int) : List Bool := bs.flatMap fun x => bitsN 8 x.toNat
def Bytes (bs : List Int) : Prop := ∀ x ∈ bs, 0 ≤ x ∧ x ≤ 255
def fieldBits (l : List (Int × Int)) : List Bool := l.flatMap fun f => bitsN f.1.toNat f.2.toNat
def okF (f : Int × Int) : Prop := (0 ≤ f.1 ∧ f.1 ≤ 24) ∧ 0 ≤ f.2 ∧ f.2 < 2 ^ f.1.toNat
instance (f : Int × Int) : Decidable (okF f) := by unfold okF; infer_instance

theorem unpack_nil : unpack [] = [] := rfl
theorem unpack_append (a b : List Int) : unpack (a ++ b) = unpack a ++ unpack b := by simp [unpack]
theorem unpack_snoc (a : List Int) (x : Int) : unpack (a ++ [x]) = unpack a ++ bitsN 8 x.toNat := by simp [unpack]
theorem unpack_cons (x : Int) (a : List Int) : unpack (x :: a) = bitsN 8 x.toNat ++ unpack a := by simp [unpack]
theorem unpack_length (a : List Int) : (unpack a).length = 8 * a.length := by
  induction a with
  | nil => rfl
  | cons x a ih => rw [unpack_cons, List.length_append, bitsN_length, ih, List.length_cons]; omega
theorem Bytes.snoc {a : List Int} {x : Int} (h : Bytes a) (hx : 0 ≤ x ∧ x ≤ 255) : Bytes (a ++ [x]) := by
  intro y hy
  rcases List.mem_append.1 hy with hy | hy
  · exact h y hy
  · simp at hy; subst hy; exact hx
theorem unpack_inj : ∀ {a b : List Int}, Bytes a → Bytes b → unpack a = unpack b → a = b
  | [], [], _, _, _ => rfl
  | [], y :: b, _, _, h => by have := congrArg List.length h; simp [unpack_length] at this
  | x :: a, [], _, _, h => by have := congrArg List.length h; simp [unpack_length] at this
  | x :: a, y :: b, ha, hb, h => by
    rw [unpack_cons, unpack_cons] at h
    obtain ⟨h1, h2⟩ := List.append_inj h (by rw [bitsN_length, bitsN_length])
    have hx := ha x (by simp)
    have hy := hb y (by simp)
    have e := bitsN_inj (w := 8) (by omega) (by omega) h1
    have := unpack_inj (fun z hz => ha z (by simp [hz])) (fun z hz => hb z (by simp [hz])) h2
    rw [this]; congr 1; omega
theorem fieldBits_append (a b : List (Int × Int)) : fieldBits (a ++ b) = fieldBits a ++ fieldBits b := by simp [fieldBits]
theorem fieldBits_snoc (a : List (Int × Int)) (f : Int × Int) : fieldBits (a ++ [f]) = fieldBits a ++ bitsN f.1.toNat f.2.toNat := by simp [fieldBits]
theorem fieldBits_cons (f : Int × Int) (a : List (Int × Int)) : fieldBits (f :: a) = bitsN f.1.toNat f.2.toNat ++ fieldBits a := by simp [fieldBits]

/-- What Write answers: the error's number. -/
def writeErr (l : List (Int × Int)) : Int := if 20000 < l.length then 2 else if ∀ f ∈ l, okF f then 0 else 1
/-- What Write makes: whole bytes, the fields' bits, then ones. -/
def Written (l : List (Int × Int)) (out : List Int) : Prop :=
  (writeErr l ≠ 0 → out = []) ∧ (writeErr l = 0 → Bytes out ∧ ∃ p, p < 8 ∧ unpack out = fieldBits l ++ List.replicate p true)
theorem Written.same {l : List (Int × Int)} {a b : List Int} (ha : Written l a) (hb : Written l b) : a = b := by
  by_cases h : writeErr l = 0
  · obtain ⟨ba, p, hp, ea⟩ := ha.2 h
    obtain ⟨bb, q, hq, eb⟩ := hb.2 h
    have h1 := congrArg List.length ea
    have h2 := congrArg List.length eb
    simp [unpack_length] at h1 h2
    have : p = q := by omega
    subst this
    exact unpack_inj ba bb (ea.trans eb.symm)
  · rw [ha.1 h, hb.1 h]

/-- Numbers of given widths off a row of bits. -/
def readB : List Bool → List Int → List Int
  | _, [] => []
  | bs, w :: ws => (valB (bs.take w.toNat) : Int) :: readB (bs.drop w.toNat) ws
def sumW (ws : List Int) : Int := ws.foldr (· + ·) 0
end Go.Proofs.Ytjphfbapekdjmaa
