/- Texts shared by the claims of this seat, in one. -/
import Derived.Test.YtbboakdfnjjddaaBd1
import Derived.Test.YtbboakdfnjjddaaRows
import Derived.Test.YtbboakdfnjjddaaChecked
import Derived.Laws.MakeOwn
import Derived.OpenShut
import Derived.Laws.ResultCell
/- Bits of numbers, the highest first, and bytes: plain mathematics. -/
namespace Go.Proofs.Ytbboakdfnjjddaa
set_option linter.unusedVariables false
set_option linter.unusedSimpArgs false
set_option maxRecDepth 100000

def bitsN : Nat → Nat → List Bool
  | 0, _ => []
  | w + 1, v => bitsN w (v / 2) ++ [decide (v % 2 = 1)]
def valB (l : List Bool) : Nat := l.foldl (fun n b => 2 * n + b.toNat) 0

theorem bitsN_length (w v : Nat) : (bitsN w v).length = w := by
  induction w generalizing v with
  | zero => rfl
  | succ w ih => simp [bitsN, ih]
theorem valB_snoc (l : List Bool) (b : Bool) : valB (l ++ [b]) = 2 * valB l + b.toNat := by simp [valB]
theorem valB_nil : valB [] = 0 := rfl
theorem valB_bitsN (w v : Nat) (h : v < 2 ^ w) : valB (bitsN w v) = v := by
  induction w generalizing v with
  | zero => simp at h; subst h; rfl
  | succ w ih =>
    rw [bitsN, valB_snoc, ih _ (by rw [Nat.pow_succ] at h; omega)]
    rcases Nat.mod_two_eq_zero_or_one v with hv | hv <;> simp [hv] <;> omega
theorem list_snoc {α : Type} (l : List α) (h : l ≠ []) : ∃ a b, l = a ++ [b] := ⟨l.dropLast, l.getLast h, (List.dropLast_concat_getLast h).symm⟩
theorem valB_lt (l : List Bool) : valB l < 2 ^ l.length := by
  suffices H : ∀ n (l : List Bool), l.length = n → valB l < 2 ^ n from H _ l rfl
  intro n
  induction n with
  | zero => intro l hl; have := List.eq_nil_of_length_eq_zero hl; subst this; decide
  | succ n ih =>
    intro l hl
    obtain ⟨a, b, rfl⟩ := list_snoc l (by intro e; subst e; simp at hl)
    have := ih a (by simpa using hl)
    rw [valB_snoc, Nat.pow_succ]
    cases b <;> simp <;> omega
theorem bitsN_valB (l : List Bool) : bitsN l.length (valB l) = l := by
  suffices H : ∀ n (l : List Bool), l.length = n → bitsN n (valB l) = l from H _ l rfl
  intro n
  induction n with
  | zero => intro l hl; have := List.eq_nil_of_length_eq_zero hl; subst this; rfl
  | succ n ih =>
    intro l hl
    obtain ⟨a, b, rfl⟩ := list_snoc l (by intro e; subst e; simp at hl)
    rw [bitsN, valB_snoc]
    have h1 : (2 * valB a + b.toNat) / 2 = valB a := by cases b <;> simp <;> omega
    have h2 : decide ((2 * valB a + b.toNat) % 2 = 1) = b := by cases b <;> simp <;> omega
    rw [h1, h2, ih a (by simpa using hl)]
theorem bitsN_inj {w a b : Nat} (ha : a < 2 ^ w) (hb : b < 2 ^ w) (h : bitsN w a = bitsN w b) : a = b := by
  rw [← valB_bitsN w a ha, ← valB_bitsN w b hb, h]
theorem bitsN_add (a b v : Nat) : bitsN (a + b) v = bitsN a (v / 2 ^ b) ++ bitsN b v := by
  induction b generalizing v with
  | zero => simp [bitsN]
  | succ b ih =>
    rw [← Nat.add_assoc, bitsN, ih, bitsN, List.append_assoc]
    congr 1
    rw [Nat.div_div_eq_div_mul, ← Nat.pow_succ', ]
theorem bitsN_mod (b v : Nat) : bitsN b (v % 2 ^ b) = bitsN b v := by
  induction b generalizing v with
  | zero => rfl
  | succ b ih =>
    rw [bitsN, bitsN]
    have h1 : v % 2 ^ (b + 1) / 2 = (v / 2) % 2 ^ b := by
      rw [Nat.pow_succ', Nat.mod_mul_right_div_self]
    have h2 : v % 2 ^ (b + 1) % 2 = v % 2 := Nat.mod_mod_of_dvd _ ⟨2 ^ b, by rw [Nat.pow_succ']⟩
    rw [h1, h2, ih]
/-- Two fields one behind the other. -/
theorem bitsN_join (a b p v : Nat) (hv : v < 2 ^ b) : bitsN (a + b) (p * 2 ^ b + v) = bitsN a p ++ bitsN b v := by
  have h1 : (p * 2 ^ b + v) / 2 ^ b = p := by
    rw [Nat.add_comm, Nat.add_mul_div_right _ _ (Nat.two_pow_pos b), Nat.div_eq_of_lt hv, Nat.zero_add]
  have h2 : (p * 2 ^ b + v) % 2 ^ b = v := by
    rw [Nat.add_comm, Nat.add_mul_mod_self_right, Nat.mod_eq_of_lt hv]
  rw [bitsN_add, h1, ← bitsN_mod b (p * 2 ^ b + v), h2]
theorem bitsN_ones (b : Nat) : bitsN b (2 ^ b - 1) = List.replicate b true := by
  induction b with
  | zero => rfl
  | succ b ih =>
    have hp := Nat.two_pow_pos b
    rw [bitsN, List.replicate_succ', Nat.pow_succ]
    have h1 : (2 ^ b * 2 - 1) / 2 = 2 ^ b - 1 := by omega
    have h2 : (2 ^ b * 2 - 1) % 2 = 1 := by omega
    rw [h1, h2, ih]; rfl

def unpack (bs : List Int) : List Bool := bs.flatMap fun x => bitsN 8 x.toNat
def Bytes (bs : List Int) : Prop := ∀ x ∈ bs, 0 ≤ x ∧ x ≤ 255
def fieldBits (l : List (Int × Int)) : List Bool := l.flatMap fun f => bitsN f.1.toNat f.2.toNat
def okF (f : Int × Int) : Prop := (0 ≤ f.1 ∧ f.1 ≤ 24) ∧ 0 ≤ f.2 ∧ f.2 < 2 ^ f.1.toNat
instance (f : Int × Int) : Decidable (okF f) := by unfold okF; infer_instance

theorem unpack_nil : unpack [] = [] := rfl
theorem unpack_append (a b : List Int) : unpack (a ++ b) = unpack a ++ unpack b := by simp [unpack]
theorem unpack_snoc (a : List Int) (x : Int) : unpack (a ++ [x]) = unpack a ++ bitsN 8 x.toNat := by simp [unpack]
theorem unpack_cons (x : Int) (a : List Int) : unpack (x :: a) = bitsN 8 x.toNat ++ unpack a := by simp [unpack]
theorem unpack_length (a : List Int) : (unpack a).length = 8 * a.length := by
  induction a with
  | nil => rfl
  | cons x a ih => rw [unpack_cons, List.length_append, bitsN_length, ih, List.length_cons]; omega
theorem Bytes.snoc {a : List Int} {x : Int} (h : Bytes a) (hx : 0 ≤ x ∧ x ≤ 255) : Bytes (a ++ [x]) := by
  intro y hy
  rcases List.mem_append.1 hy with hy | hy
  · exact h y hy
  · simp at hy; subst hy; exact hx
theorem unpack_inj : ∀ {a b : List Int}, Bytes a → Bytes b → unpack a = unpack b → a = b
  | [], [], _, _, _ => rfl
  | [], y :: b, _, _, h => by have := congrArg List.length h; simp [unpack_length] at this
  | x :: a, [], _, _, h => by have := congrArg List.length h; simp [unpack_length] at this
  | x :: a, y :: b, ha, hb, h => by
    rw [unpack_cons, unpack_cons] at h
    obtain ⟨h1, h2⟩ := List.append_inj h (by rw [bitsN_length, bitsN_length])
    have hx := ha x (by simp)
    have hy := hb y (by simp)
    have e := bitsN_inj (w := 8) (by omega) (by omega) h1
    have := unpack_inj (fun z hz => ha z (by simp [hz])) (fun z hz => hb z (by simp [hz])) h2
    rw [this]; congr 1; omega
theorem fieldBits_append (a b : List (Int × Int)) : fieldBits (a ++ b) = fieldBits a ++ fieldBits b := by simp [fieldBits]
theorem fieldBits_snoc (a : List (Int × Int)) (f : Int × Int) : fieldBits (a ++ [f]) = fieldBits a ++ bitsN f.1.toNat f.2.toNat := by simp [fieldBits]
theorem fieldBits_cons (f : Int × Int) (a : List (Int × Int)) : fieldBits (f :: a) = bitsN f.1.toNat f.2.toNat ++ fieldBits a := by simp [fieldBits]

/-- What Write answers: the error's number. -/
def writeErr (l : List (Int × Int)) : Int := if 20000 < l.length then 2 else if ∀ f ∈ l, okF f then 0 else 1
/-- What Write makes: whole bytes, the fields' bits, then ones. -/
def Written (l : List (Int × Int)) (out : List Int) : Prop :=
  (writeErr l ≠ 0 → out = []) ∧ (writeErr l = 0 → Bytes out ∧ ∃ p, p < 8 ∧ unpack out = fieldBits l ++ List.replicate p true)
theorem Written.same {l : List (Int × Int)} {a b : List Int} (ha : Written l a) (hb : Written l b) : a = b := by
  by_cases h : writeErr l = 0
  · obtain ⟨ba, p, hp, ea⟩ := ha.2 h
    obtain ⟨bb, q, hq, eb⟩ := hb.2 h
    have h1 := congrArg List.length ea
    have h2 := congrArg List.length eb
    simp [unpack_length] at h1 h2
    have : p = q := by omega
    subst this
    exact unpack_inj ba bb (ea.trans eb.symm)
  · rw [ha.1 h, hb.1 h]

/-- Numbers of given widths off a row of bits. -/
def readB : List Bool → List Int → List Int
  | _, [] => []
  | bs, w :: ws => (valB (bs.take w.toNat) : Int) :: readB (bs.drop w.toNat) ws
def sumW (ws : List Int) : Int := ws.foldr (· + ·) 0
end Go.Proofs.Ytbboakdfnjjddaa

/- bits.isWidth and bits.fits. -/
namespace Go.Proofs.Ytbboakdfnjjddaa
open Go.RowKit
set_option linter.unusedVariables false
set_option linter.unusedSimpArgs false
set_option maxRecDepth 100000

/-- Is it a width? -/
def okW (x : Int) : Bool := decide (0 ≤ x ∧ x ≤ 24)
theorem isWidth_any (x : Int) (w : World) : Calls Try.prog 100 #[.int .i64 x] w fun e w' => e = .returned (.bool (okW x)) ∧ w = w' := by
  have Hd : Hid (okW x = (decide (0 ≤ x) && decide (x ≤ 24))) := by simp [Hid, okW]
  by_cases h1 : 0 ≤ x <;> by_cases h2 : x ≤ 24 <;>
  · go_enter Try.func100, Try.ntmps100
    go_wp2
    go_ret
    exact ⟨ret_bool (by rw [Hd.out]; symm; simp; omega), rfl⟩
theorem pow_le_24 (n : Nat) (h : n ≤ 24) : (2 : Int) ^ n ≤ 16777216 := by
  have : 2 ^ n ≤ 2 ^ 24 := Nat.pow_le_pow_right (by omega) h
  have h2 : ((2 ^ n : Nat) : Int) ≤ ((2 ^ 24 : Nat) : Int) := by omega
  simpa using h2
theorem pow_pos' (n : Nat) : (0 : Int) < 2 ^ n := Int.pow_pos (by decide)
theorem wrap_pow (n : Nat) (h : n ≤ 24) : IntKind.i64.wrap (2 ^ n) = 2 ^ n := by
  have h1 := pow_le_24 n h
  have h2 := pow_pos' n
  rw [IntKind.wrap_i64]; omega

def fitsB (f : Int × Int) : Bool := decide (okF f)
theorem fitsB_eq (x y : Int) : fitsB (x, y) = (okW x && (decide (0 ≤ y) && decide (y < 2 ^ x.toNat))) := by
  by_cases h1 : 0 ≤ x <;> by_cases h2 : x ≤ 24 <;> simp [fitsB, okF, okW, h1, h2]
set_option maxHeartbeats 400000 in
theorem fits_any (x y : Int) (w : World) :
    Calls Try.prog 81 #[.agg #[.int .i64 x, .int .i64 y]] w fun e w' => e = .returned (.bool (fitsB (x, y))) ∧ Below w.heap.size w w' := by
  by_cases h : okW x = true
  · by_cases h2 : 0 ≤ y
    · have hd : decide (0 ≤ y) = true := by simpa using h2
      go_enter Try.func81, Try.ntmps81
      have hx : 0 ≤ x ∧ x ≤ 24 := by simpa [okW] using h
      obtain ⟨hx0, hx1⟩ := hx
      go_wp2_with fail
      go_quiet ((go_at_call 100; exact Calls.quiet_of_same ((isWidth_any _ _).mono fun _ _ h => ⟨h.1, h.2.symm⟩)))
      go_wp2
      go_ret
      refine ⟨ret_bool ?_, (below1 _ _).drewN _⟩
      rw [wrap_pow _ (by omega)]
      rw [fitsB_eq, h, hd]; simp
    · have hd : decide (0 ≤ y) = false := by simpa using h2
      go_enter Try.func81, Try.ntmps81
      go_wp2_with fail
      go_quiet ((go_at_call 100; exact Calls.quiet_of_same ((isWidth_any _ _).mono fun _ _ h => ⟨h.1, h.2.symm⟩)))
      go_wp2
      go_ret
      refine ⟨ret_bool ?_, (below1 _ _).drewN _⟩
      rw [fitsB_eq, hd]; simp
  · have h' : okW x = false := by simpa using h
    go_enter Try.func81, Try.ntmps81
    clear h
    go_wp2_with fail
    go_quiet ((go_at_call 100; exact Calls.quiet_of_same ((isWidth_any _ _).mono fun _ _ h => ⟨h.1, h.2.symm⟩)))
    go_wp2
    go_ret
    refine ⟨ret_bool ?_, (below1 _ _).drewN _⟩
    rw [fitsB_eq, h']; simp
end Go.Proofs.Ytbboakdfnjjddaa

/- Two small facts on numbers. -/
namespace Go.Proofs.Ytbboakdfnjjddaa
open Go.RowKit
theorem wrap64_nat (n : Nat) (h : n < 9223372036854775808) : wrap64 (n : Int) = n := by unfold wrap64; omega
theorem two_pow_lt (a b : Nat) (h : a ≤ b) : 2 ^ a ≤ 2 ^ b := Nat.pow_le_pow_right (by omega) h
end Go.Proofs.Ytbboakdfnjjddaa

/- bits.Write: its contract. -/
namespace Go.Proofs.Ytbboakdfnjjddaa
open Go.RowKit
set_option linter.unusedVariables false
set_option linter.unusedSimpArgs false
set_option maxRecDepth 100000

structure WInv (w : World) (l : List (Int × Int)) (k : Nat) (v : Value) (p c : Nat) (out : List Int) (wr : World) : Prop where
  c31 : c ≤ 31
  pc : p < 2 ^ c
  by_ : Bytes out
  eq : unpack out ++ bitsN c p = fieldBits (l.take k)
  ok : ∀ f ∈ l.take k, okF f
  own : wr.ownsRow w.heap.size 5 1 v out.length (ints .u8 out)
  bel : Below w.heap.size w wr

theorem fieldBits_le (l : List (Int × Int)) (h : ∀ f ∈ l, okF f) : (fieldBits l).length ≤ 24 * l.length := by
  induction l with
  | nil => simp [fieldBits]
  | cons f l ih =>
    have h1 := (h f (by simp)).1
    have h2 := ih fun g hg => h g (by simp [hg])
    rw [fieldBits_cons, List.length_append, bitsN_length, List.length_cons]; omega
theorem WInv.len {w : World} {l : List (Int × Int)} {k : Nat} {v : Value} {p c : Nat} {out : List Int} {wr : World} (h : WInv w l k v p c out wr) : out.length ≤ 3 * l.length := by
  have h1 := congrArg List.length h.eq
  have h2 := fieldBits_le _ h.ok
  simp [unpack_length, bitsN_length] at h1 h2
  omega
theorem nat_or_low (a i b : Nat) (h : b < 2 ^ i) : a * 2 ^ i ||| b = a * 2 ^ i + b := by
  rw [Nat.mul_comm, Nat.two_pow_add_eq_or_of_lt h]
theorem i64_or (a b : Nat) (ha : a < 9223372036854775808) (hb : b < 9223372036854775808) : bits .or .i64 (a : Int) (b : Int) = ((a ||| b : Nat) : Int) := by
  have hx : a ||| b < 2 ^ 63 := Nat.or_lt_two_pow (by omega) (by omega)
  have e1 : (BitVec.ofInt 64 (a : Int)).toNat = a := by rw [BitVec.ofInt_natCast, BitVec.toNat_ofNat]; exact Nat.mod_eq_of_lt (by omega)
  have e2 : (BitVec.ofInt 64 (b : Int)).toNat = b := by rw [BitVec.ofInt_natCast, BitVec.toNat_ofNat]; exact Nat.mod_eq_of_lt (by omega)
  show IntKind.i64.wrap ((BitVec.ofInt 64 (a : Int) ||| BitVec.ofInt 64 (b : Int)).toNat : Int) = _
  rw [BitVec.toNat_or, e1, e2, IntKind.wrap_i64]
  omega
theorem i64_and (a b : Nat) (ha : a < 9223372036854775808) (hb : b < 9223372036854775808) : bits .and .i64 (a : Int) (b : Int) = ((a &&& b : Nat) : Int) := by
  have hx : a &&& b < 2 ^ 63 := Nat.and_lt_two_pow _ (by omega)
  have e1 : (BitVec.ofInt 64 (a : Int)).toNat = a := by rw [BitVec.ofInt_natCast, BitVec.toNat_ofNat]; exact Nat.mod_eq_of_lt (by omega)
  have e2 : (BitVec.ofInt 64 (b : Int)).toNat = b := by rw [BitVec.ofInt_natCast, BitVec.toNat_ofNat]; exact Nat.mod_eq_of_lt (by omega)
  show IntKind.i64.wrap ((BitVec.ofInt 64 (a : Int) &&& BitVec.ofInt 64 (b : Int)).toNat : Int) = _
  rw [BitVec.toNat_and, e1, e2, IntKind.wrap_i64]
  omega
theorem and_step (P D : Nat) (hP : P < 2 ^ (D + 8)) (hD : D + 8 ≤ 31) : bits BinOp.and IntKind.i64 (P : Int) (wrap64 (wrap64 (2 ^ D) - 1)) = ((P % 2 ^ D : Nat) : Int) := by
  have h1 : 2 ^ (D + 8) ≤ 2 ^ 31 := two_pow_lt _ _ hD
  have h2 : 2 ^ D ≤ 2 ^ 31 := two_pow_lt _ _ (by omega)
  have h3 := Nat.two_pow_pos D
  have e1 : wrap64 ((2 : Int) ^ D) = ((2 ^ D : Nat) : Int) := by rw [show ((2 : Int) ^ D) = ((2 ^ D : Nat) : Int) by simp]; exact wrap64_nat _ (by omega)
  have e2 : wrap64 (((2 ^ D : Nat) : Int) - 1) = ((2 ^ D - 1 : Nat) : Int) := by rw [show ((2 ^ D : Nat) : Int) - 1 = ((2 ^ D - 1 : Nat) : Int) by omega]; exact wrap64_nat _ (by omega)
  rw [e1, e2, i64_and _ _ (by omega) (by omega), Nat.and_two_pow_sub_one_eq_mod]
theorem or_step (p c X Y : Nat) (hp : p < 2 ^ c) (hY : Y < 2 ^ X) (hc : c < 8) (hX : X ≤ 24) :
    bits BinOp.or IntKind.i64 (wrap64 ((p : Int) * 2 ^ X)) (Y : Int) = ((p * 2 ^ X + Y : Nat) : Int) := by
  have h1 : 2 ^ c ≤ 2 ^ 8 := two_pow_lt _ _ (by omega)
  have h2 : 2 ^ X ≤ 2 ^ 24 := two_pow_lt _ _ hX
  have h3 : p * 2 ^ X ≤ 2 ^ 8 * 2 ^ 24 := Nat.mul_le_mul (by omega) h2
  have e1 : wrap64 ((p : Int) * 2 ^ X) = ((p * 2 ^ X : Nat) : Int) := by rw [show ((p : Int) * 2 ^ X) = ((p * 2 ^ X : Nat) : Int) by simp]; exact wrap64_nat _ (by omega)
  rw [e1, i64_or _ _ (by omega) (by omega), nat_or_low _ _ _ hY]
theorem pow_lt_join (p c X Y : Nat) (hp : p < 2 ^ c) (hY : Y < 2 ^ X) : p * 2 ^ X + Y < 2 ^ (c + X) := by
  have h : (p + 1) * 2 ^ X ≤ 2 ^ c * 2 ^ X := Nat.mul_le_mul_right _ hp
  rw [Nat.add_mul] at h
  rw [Nat.pow_add]; omega
theorem WInv.next {w : World} {l : List (Int × Int)} {k : Nat} {v : Value} {p c : Nat} {out : List Int} {wr wr' : World} (h : WInv w l k v p c out wr) {X Y : Nat} (hf : l[k]? = some ((X : Int), (Y : Int))) (hY : Y < 2 ^ X) (hc : c < 8) (hX : X ≤ 24)
    (hb : Below wr.heap.size wr wr') : WInv w l (k + 1) v (p * 2 ^ X + Y) (c + X) out wr' := by
  have ht := take_snoc hf
  refine ⟨by omega, pow_lt_join _ _ _ _ h.pc hY, h.by_, ?_, ?_, own_below h.own hb, h.bel.trans (hb.mono h.bel.size)⟩
  · rw [ht, fieldBits_snoc, ← h.eq, bitsN_join _ _ _ _ hY, List.append_assoc]; rfl
  · intro f hf'
    rw [ht] at hf'
    rcases List.mem_append.1 hf' with hf' | hf'
    · exact h.ok f hf'
    · simp at hf'; subst hf'
      refine ⟨⟨by simp, by simp; omega⟩, by simp, ?_⟩
      have : ((Y : Nat) : Int) < ((2 ^ X : Nat) : Int) := by omega
      simpa using this
theorem WInv.step {w : World} {l : List (Int × Int)} {k : Nat} {v v' : Value} {P D : Nat} {out : List Int} {wr w' : World} (h : WInv w l k v P (D + 8) out wr)
    (hown : w'.ownsRow w.heap.size 5 1 v' (out ++ [(P : Int) / 2 ^ D % 256]).length (ints .u8 (out ++ [(P : Int) / 2 ^ D % 256]))) (hb : Below w.heap.size wr w') :
    WInv w l k v' (P % 2 ^ D) D (out ++ [(P : Int) / 2 ^ D % 256]) w' := by
  have hc := h.c31
  have hq : P / 2 ^ D < 256 := by rw [Nat.div_lt_iff_lt_mul (Nat.two_pow_pos D)]; have := h.pc; rw [Nat.pow_add] at this; omega
  have e : (P : Int) / 2 ^ D % 256 = ((P / 2 ^ D : Nat) : Int) := by
    rw [show ((P : Int) / 2 ^ D) = ((P / 2 ^ D : Nat) : Int) by simp]; generalize P / 2 ^ D = q at *; omega
  refine ⟨by omega, Nat.mod_lt _ (Nat.two_pow_pos D), ?_, ?_, h.ok, hown, h.bel.trans hb⟩
  · exact h.by_.snoc (by rw [e]; omega)
  · rw [e, unpack_snoc, Int.toNat_natCast, ← h.eq, List.append_assoc, bitsN_mod, Nat.add_comm D 8, bitsN_add 8 D]
theorem last_byte (p c : Nat) (hp : p < 2 ^ c) (hc : c < 8) : wrap64 (wrap64 (wrap64 ((p : Int) + 1) * 2 ^ (8 - c)) - 1) % 256 = ((p * 2 ^ (8 - c) + (2 ^ (8 - c) - 1) : Nat) : Int) := by
  have h0 : 2 ^ c ≤ 2 ^ 8 := two_pow_lt _ _ (by omega)
  have e0 : wrap64 ((p : Int) + 1) = (p : Int) + 1 := by unfold wrap64; omega
  have h1 : (p + 1) * 2 ^ (8 - c) ≤ 2 ^ c * 2 ^ (8 - c) := Nat.mul_le_mul_right _ hp
  rw [← Nat.pow_add, show c + (8 - c) = 8 by omega] at h1
  have h2 := Nat.two_pow_pos (8 - c)
  have e1 : ((p : Int) + 1) * 2 ^ (8 - c) = (((p + 1) * 2 ^ (8 - c) : Nat) : Int) := by simp
  rw [e0, e1, wrap64_nat _ (by omega)]
  have e2 : (((p + 1) * 2 ^ (8 - c) : Nat) : Int) - 1 = (((p + 1) * 2 ^ (8 - c) - 1 : Nat) : Int) := by
    have : 0 < (p + 1) * 2 ^ (8 - c) := Nat.mul_pos (by omega) h2
    omega
  rw [e2, wrap64_nat _ (by omega)]
  rw [Nat.add_mul] at h1 ⊢
  omega
theorem WInv.last {w : World} {l : List (Int × Int)} {k : Nat} {v : Value} {p c : Nat} {out : List Int} {wr : World} (h : WInv w l k v p c out wr) (hc : c < 8) (hc0 : 0 < c) (hok : writeErr l = 0) (heq : unpack out ++ bitsN c p = fieldBits l) :
    Written l (out ++ [wrap64 (wrap64 (wrap64 ((p : Int) + 1) * 2 ^ (8 - c)) - 1) % 256]) := by
  refine ⟨fun e => absurd hok e, fun _ => ?_⟩
  rw [last_byte p c h.pc hc]
  have h2 := Nat.two_pow_pos (8 - c)
  have hlt : p * 2 ^ (8 - c) + (2 ^ (8 - c) - 1) < 2 ^ (c + (8 - c)) := pow_lt_join _ _ _ _ h.pc (by omega)
  rw [show c + (8 - c) = 8 by omega] at hlt
  refine ⟨h.by_.snoc (by omega), 8 - c, by omega, ?_⟩
  rw [unpack_snoc, Int.toNat_natCast, ← heq, List.append_assoc]
  have := bitsN_join c (8 - c) p (2 ^ (8 - c) - 1) (by omega)
  rw [show c + (8 - c) = 8 by omega] at this
  rw [this, bitsN_ones]
theorem written_err {l : List (Int × Int)} (h : writeErr l ≠ 0) : Written l [] := ⟨fun _ => rfl, fun e => absurd e h⟩
set_option maxHeartbeats 1000000 in
theorem write_any (A : Option Addr) (c G : Nat) (l : List (Int × Int)) (w : World) (hl : Seen w G A (pairCells l)) (hG : G ≤ w.heap.size) (hlen : l.length ≤ maxLen) :
    Calls Try.prog 58 #[.slice A l.length c] w fun e w' => ∃ v out, e = .returned (.tuple #[v, .int .i64 (writeErr l)]) ∧ w'.ownsRow w.heap.size 5 1 v out.length (ints .u8 out) ∧ Written l out ∧ Below w.heap.size w w' := by
  unfold maxLen at hlen
  by_cases hbig : 20000 < l.length
  · have hbig' : (20000 : Int) < (l.length : Int) := by omega
    have He : Hid (writeErr l = 2) := by show writeErr l = 2; unfold writeErr; rw [if_pos hbig]
    go_enter Try.func58, Try.ntmps58
    go_wp2
    go_ret2
    exact ⟨_, [], ret_two rfl (by rw [He.out]; rfl), World.ownsRow_nil _ _ _ _, written_err (by rw [He.out]; decide), Below.refl _ _⟩
  · have hbig' : ¬ (20000 : Int) < (l.length : Int) := by omega
    go_enter Try.func58, Try.ntmps58
    go_wp2_with fail
    go_loopg [4, 5, 6, 15] l.length (fun gk v pv cv i wr => ∃ (k p c : Nat) (out : List Int), gk = l.length - k ∧ k ≤ l.length ∧ c < 8 ∧ i = .int .i64 k ∧ pv = .int .i64 p ∧ cv = .int .i64 c ∧ WInv w l k v p c out wr)
    case atStart => exact ⟨0, 0, 0, [], by omega, Nat.zero_le _, by omega, rfl, rfl, rfl, by omega, by omega, by simp [Bytes], rfl, by simp, World.ownsRow_nil _ _ _ _, Below.refl _ _⟩
    case round =>
      obtain ⟨k, p, c, out, rfl, hk, hc8, rfl, rfl, rfl, hI⟩ := hrel
      by_cases hlt : k < l.length
      · obtain ⟨g, o, x, y, rfl, hg, hf, h1, h2⟩ := hl.pair hlt
        have Hf := veil hf; clear hf
        rw [← hI.bel.cell (by simp; omega)] at h1 h2
        by_cases hok : fitsB (x, y) = true
        · have hx : okF (x, y) := by simpa [fitsB] using hok
          obtain ⟨X, Y, hX, HY, rfl, rfl⟩ : ∃ X Y : Nat, X ≤ 24 ∧ Hid (Y < 2 ^ X) ∧ x = X ∧ y = Y := by
            obtain ⟨⟨hx0, hx1⟩, hy0, Hy1⟩ := hx
            refine ⟨x.toNat, y.toNat, by omega, ?_, by omega, by omega⟩
            have : ((y.toNat : Nat) : Int) < ((2 ^ x.toNat : Nat) : Int) := by simp; simp at Hy1; omega
            show y.toNat < 2 ^ x.toNat
            omega
          clear hx
          go_wp2_with fail
          refine (fits_any _ _ _).mono ?_
          rintro e w1 ⟨rfl, hb1⟩
          have c0 : w1.cell? ⟨wr.heap.size, 0, none⟩ = some (.int .i64 X) := by rw [hb1.cell (by simp)]; simp
          have c1 : w1.cell? ⟨wr.heap.size, 1, none⟩ = some (.int .i64 Y) := by rw [hb1.cell (by simp)]; simp
          go_wp2_with fail
          go_quiet (fail)
          go_wp2_with fail
          have e1 := or_step p c X Y hI.pc HY.out hc8 hX
          rw [e1]
          clear e1
          go_loopg [4, 5, 6] (c + X) (fun gk v pv cv wr2 => ∃ (P C : Nat) (out : List Int), C = gk ∧ pv = .int .i64 P ∧ cv = .int .i64 C ∧ WInv w l (k + 1) v P C out wr2)
          case atStart => exact ⟨p * 2 ^ X + Y, c + X, out, rfl, rfl, by go_num, hI.next Hf.out HY.out hc8 hX ((below1 _ _).trans (hb1.mono (by simp)) |>.drewN _)⟩
          case round =>
            obtain ⟨P, C, out2, rfl, rfl, rfl, hJ⟩ := hrel
            have hC := hJ.c31
            by_cases h8 : 8 ≤ C
            · obtain ⟨D, rfl⟩ : ∃ D, C = D + 8 := ⟨C - 8, by omega⟩
              have hL := hJ.len (k := k + 1)
              have hB := hJ.bel.size
              go_wp2_with (at_builtin; go_loud (refine wpList_app1 _ rfl (.tmp 37) (.tmp 42) _ rfl w.heap.size 5 .u8 1 Try.underlying37 info_byte _ out2 _ rfl hJ.own rfl (by omega) (by omega) (by omega) ?_); intro v' w' hown' hbel' hsz')
              go_roundg D
              case rel =>
                rw [and_step P D hJ.pc hC]
                exact ⟨P % 2 ^ D, D, _, rfl, rfl, rfl, hJ.step hown' hbel'⟩
              case measure => omega
            · have h8' : C < 8 := by omega
              go_wp2
              go_roundg (l.length - (k + 1))
              case rel => exact ⟨k + 1, P, C, out2, rfl, by omega, h8', by go_num, rfl, rfl, hJ⟩
              case measure => omega
        · have hok' : fitsB (x, y) = false := by simpa using hok
          have He : Hid (writeErr l = 1) := by
            show writeErr l = 1
            unfold writeErr
            rw [if_neg hbig, if_neg]
            intro hall
            have := hall (x, y) (List.mem_of_getElem? Hf.out)
            simp [fitsB] at hok'
            exact hok' this
          clear hok
          go_wp2_with fail
          refine (fits_any _ _ _).mono ?_
          rintro e w1 ⟨rfl, hb1⟩
          go_wp2
          go_ret2
          exact ⟨_, [], ret_two rfl (by rw [He.out]; rfl), World.ownsRow_nil _ _ _ _, written_err (by rw [He.out]; decide), hI.bel.trans (((below1 _ _).trans (hb1.mono (by simp))).mono hI.bel.size)⟩
      · have hke : k = l.length := by omega
        have Hok : Hid (writeErr l = 0) := by
          show writeErr l = 0
          unfold writeErr
          rw [if_neg hbig, if_pos]
          have := hI.ok
          rwa [List.take_of_length_le (by omega)] at this
        have Heq : Hid (unpack out ++ bitsN c p = fieldBits l) := by
          have := hI.eq
          rwa [List.take_of_length_le (by omega)] at this
        have hL := hI.len
        have hB := hI.bel.size
        by_cases hc0 : c = 0
        · subst hc0
          go_wp2
          go_ret2
          refine ⟨_, out, ret_two rfl (by rw [Hok.out]; rfl), hI.own, ⟨fun h => absurd Hok.out h, fun _ => ⟨hI.by_, 0, by omega, ?_⟩⟩, hI.bel⟩
          have := Heq.out
          simpa [bitsN] using this
        · go_wp2_with (at_builtin; go_loud (refine wpList_app1 _ rfl (.tmp 54) (.tmp 61) _ rfl w.heap.size 5 .u8 1 Try.underlying37 info_byte _ out _ rfl hI.own rfl (by omega) (by omega) (by omega) ?_); intro v' w' hown' hbel' hsz')
          go_ret2
          exact ⟨_, _, ret_two rfl (by rw [Hok.out]; rfl), hown', hI.last hc8 (by omega) Hok.out Heq.out, hI.bel.trans hbel'⟩
end Go.Proofs.Ytbboakdfnjjddaa

/- What a written list of fields is, in numbers; the fields' element. -/
namespace Go.Proofs.Ytbboakdfnjjddaa
open Go.RowKit
set_option linter.unusedVariables false
set_option linter.unusedSimpArgs false
set_option maxRecDepth 100000

theorem writeErr_zero' {l : List (Int × Int)} (h : writeErr l = 0) : l.length ≤ 20000 ∧ ∀ f ∈ l, okF f := by
  unfold writeErr at h
  by_cases h1 : 20000 < l.length
  · rw [if_pos h1] at h; cases h
  · rw [if_neg h1] at h
    by_cases h2 : ∀ f ∈ l, okF f
    · exact ⟨by omega, h2⟩
    · rw [if_neg h2] at h; cases h
theorem Written.alike {l m : List (Int × Int)} {a b : List Int} (ha : Written l a) (hb : Written m b) (hl : writeErr l = 0) (hm : writeErr m = 0) (h : fieldBits l = fieldBits m) : a = b := by
  refine ha.same ⟨fun e => absurd hl e, fun _ => ?_⟩
  rw [h]
  exact hb.2 hm
theorem okF_nat (X Y : Nat) : okF ((X : Int), (Y : Int)) ↔ X ≤ 24 ∧ Y < 2 ^ X := by
  unfold okF
  simp only [Int.toNat_natCast]
  constructor
  · rintro ⟨⟨_, h1⟩, _, h2⟩
    refine ⟨by omega, ?_⟩
    have : (Y : Int) < ((2 ^ X : Nat) : Int) := by simpa using h2
    omega
  · rintro ⟨h1, h2⟩
    refine ⟨⟨by omega, by omega⟩, by omega, ?_⟩
    have : (Y : Int) < ((2 ^ X : Nat) : Int) := by omega
    simpa using this
theorem out_len {l : List (Int × Int)} {out : List Int} (h : Written l out) (h0 : writeErr l = 0) : out.length ≤ maxLen := by
  obtain ⟨hl, hok⟩ := writeErr_zero' h0
  obtain ⟨_, p, hp, heq⟩ := h.2 h0
  have h1 := congrArg List.length heq
  have h2 := fieldBits_le l hok
  simp [unpack_length] at h1
  unfold maxLen; omega
theorem elem_field : ElemOf Try.prog 65 69 2 16 :=
  .mk' (z := .agg #[.int .i64 0, .int .i64 0]) Try.underlying65 (by kernel_rfl) rfl (by omega)
end Go.Proofs.Ytbboakdfnjjddaa

/- Small laws for two appends in one statement (a region that draws its order): where each source lies, in whatever order. No program is named here. -/
namespace Go.Proofs.Ytbboakdfnjjddaa
open Go.RowKit
set_option linter.unusedVariables false
set_option linter.unusedSimpArgs false
set_option maxRecDepth 100000

/-- A source that was laid before, behind an append onto another row. -/
theorem reg_grown {w w' : World} {q G : Nat} {xs : List Value} {row : Option Nat} (hs : Seen w G (some ⟨q, 0, none⟩) xs) (hg : w.grownBy w' row) (hr : ∀ g, row = some g → g < q) (hq : q < w.heap.size) : Seen w' G (some ⟨q, 0, none⟩) xs := by
  rcases hs with h | ⟨g, o, h, hlt, hc⟩
  · exact .inl h
  · injection h with h
    injection h with h1 h2
    subst h1 h2
    refine .inr ⟨_, _, rfl, hlt, fun j y hy => ?_⟩
    rw [hg.cell_far _ hq (fun e => by have := hr q e.symm; omega)]
    exact hc j y hy
theorem reg_far {w w' : World} {row : Option Nat} {B i : Nat} {u : Value} (hg : w.grownBy w' row) (hne : some B ≠ row) (hc : w.cell? ⟨B, i, none⟩ = some u) : w'.cell? ⟨B, i, none⟩ = some u :=
  (hg.cell_far _ (World.block_lt_of_cell? w _ hc) hne).trans hc
theorem reg_by0 (W : World) : W.drew.heap.size < W.heap.size + 2 := by show W.heap.size < _; omega
theorem reg_size (W : World) {o : Obj} : (W.drew.alloc o).heap.size = W.heap.size + 1 := by simp
theorem reg_lt0 (W : World) (o p : Obj) : W.heap.size < ((W.drew.alloc o).alloc p).heap.size := by simp; omega
theorem reg_lt1 (W : World) (o p : Obj) : W.heap.size + 1 < ((W.drew.alloc o).alloc p).heap.size := by simp
/-- The one laid second. -/
theorem reg_new1 (W : World) (o : Obj) (xs : List Value) {t : TypeId} : Seen ((W.drew.alloc o).alloc (.cells xs.toArray t)) (W.heap.size + 2) (some ⟨W.heap.size + 1, 0, none⟩) xs := by
  have h := Seen.new (W.drew.alloc o) xs t (W.heap.size + 2) (by simp)
  rw [reg_size] at h
  exact h
/-- The one laid first, another behind it. -/
theorem reg_new0 (W : World) (xs : List Value) {t : TypeId} (o : Obj) : Seen ((W.drew.alloc (.cells xs.toArray t)).alloc o) (W.heap.size + 1) (some ⟨W.heap.size, 0, none⟩) xs :=
  (Seen.new W.drew xs t (W.heap.size + 1) (Nat.lt_succ_self _)).alloc (Nat.le_of_eq (reg_size W).symm) _
theorem reg_below1 {B : Nat} {W w1 w2 : World} {o p : Obj} (h1 : Below B (W.drew.alloc o) w1) (h2 : Below B (w1.alloc p) w2) (hB : B ≤ W.heap.size) : Below B W w2 := by
  have h0 : Below B W (W.drew.alloc o) := ((Below.refl B W).drew).alloc hB o
  have h3 := h0.trans h1
  exact h3.trans (((Below.refl B w1).alloc (Nat.le_trans hB h3.size) p).trans h2)
theorem reg_below2 {B : Nat} {W w1 w2 : World} {o p : Obj} (h1 : Below B ((W.drew.alloc o).alloc p) w1) (h2 : Below B w1 w2) (hB : B ≤ W.heap.size) : Below B W w2 := by
  have h0 : Below B W ((W.drew.alloc o).alloc p) := (((Below.refl B W).drew).alloc hB o).alloc (by simp; omega) p
  exact (h0.trans h1).trans h2
/-- A part of a slice, as the model cuts it. -/
def cutV (A : Option Addr) (f h c : Nat) : Value := .slice (if c = f then A else A.map (·.add f)) (h - f) (c - f)
theorem cutV_seen {w : World} {G c f h : Nat} {A : Option Addr} {k : IntKind} {bs : List Int} (hs : Seen w G A (ints k bs)) (hf : f ≤ h) (hh : h ≤ bs.length) (hc : h ≤ c) :
    ∃ A', cutV A f h c = .slice A' (h - f) (c - f) ∧ Seen w G A' (ints k ((bs.drop f).take (h - f))) := by
  refine ⟨_, rfl, ?_⟩
  by_cases hcf : c = f
  · have : h - f = 0 := by omega
    rw [this]; exact .inl rfl
  · rw [if_neg hcf]
    rcases hs with hs | ⟨g, o, rfl, hg, hcell⟩
    · have : bs = [] := by simpa [ints] using hs
      subst this
      exact .inl (by simp [ints])
    · refine .inr ⟨g, o + f, by simp [addr_add], hg, fun j u hu => ?_⟩
      have hj := (List.getElem?_eq_some_iff.1 hu).1
      rw [ints_length, List.length_take, List.length_drop] at hj
      have e : (ints k bs)[f + j]? = some u := by
        rw [← hu]; simp only [ints, List.getElem?_map, List.getElem?_take, List.getElem?_drop]
        rw [if_pos (by omega)]
      have := hcell _ _ e
      rw [← this]; congr 2; omega
theorem cutV_length {bs : List Int} {f h : Nat} (hh : h ≤ bs.length) : ((bs.drop f).take (h - f)).length = h - f := by simp; omega
end Go.Proofs.Ytbboakdfnjjddaa

/- Parts of a slice of bytes. -/
namespace Go.Proofs.Ytbboakdfnjjddaa
open Go.RowKit
set_option linter.unusedVariables false
set_option linter.unusedSimpArgs false
set_option maxRecDepth 100000

theorem run_cutB_to (A : Option Addr) (n c h : Nat) (h2 : h ≤ c) (u : World) : (Instr.sliceAt 37 (.slice A n c) none (some (.int .i64 (h : Int))) none).run Try.prog u = .ok (.slice A h c) u := by
  have he : Try.prog.underlying 37 = some (.slice (Try.prog.elem 37)) := by kernel_rfl
  have hz : (sizeOf (Try.prog.elem 37)).run Try.prog u = .ok 1 u := by kernel_rfl
  rw [run_sliceAt_slice _ _ _ _ _ _ he, run_slice_h _ _ _ _ _ he _ _ (by omega) (by omega), hz]
  simp [Result.andThen, sliced]
  intro _
  cases A with
  | none => rfl
  | some a => simp [Addr.add]
theorem run_cutB_end (A : Option Addr) (n c f : Nat) (h1 : f ≤ n) (u : World) : (Instr.sliceAt 37 (.slice A n c) (some (.int .i64 (f : Int))) none none).run Try.prog u = .ok (cutV A f n c) u := by
  have he : Try.prog.underlying 37 = some (.slice (Try.prog.elem 37)) := by kernel_rfl
  have hz : (sizeOf (Try.prog.elem 37)).run Try.prog u = .ok 1 u := by kernel_rfl
  rw [run_sliceAt_slice _ _ _ _ _ _ he, run_slice_l _ _ _ _ _ he _ _ (by omega) (by omega), hz]
  simp [Result.andThen, sliced, cutV]
theorem cutB_drop {w : World} {G c f : Nat} {A : Option Addr} {bs : List Int} (hs : Seen w G A (ints .u8 bs)) (hf : f ≤ bs.length) (hc : bs.length ≤ c) :
    ∃ A', cutV A f bs.length c = .slice A' (bs.drop f).length (c - f) ∧ Seen w G A' (ints .u8 (bs.drop f)) := by
  obtain ⟨A', h1, h2⟩ := cutV_seen hs hf (Nat.le_refl _) hc
  refine ⟨A', by rw [h1, List.length_drop], ?_⟩
  rwa [List.take_of_length_le (by simp)] at h2
theorem cutB_take {w : World} {G h : Nat} {A : Option Addr} {bs : List Int} (hs : Seen w G A (ints .u8 bs)) : Seen w G A (ints .u8 (bs.take h)) := hs.takeInts h
theorem unpack_drop (bs : List Int) (q : Nat) : unpack (bs.drop q) = (unpack bs).drop (8 * q) := by
  by_cases h : q ≤ bs.length
  · have e := unpack_append (bs.take q) (bs.drop q)
    rw [List.take_append_drop] at e
    rw [e, List.drop_left' (by rw [unpack_length, List.length_take]; omega)]
  · rw [List.drop_of_length_le (by omega), unpack_nil, List.drop_of_length_le (by rw [unpack_length]; omega)]
theorem unpack_take (bs : List Int) (q : Nat) : unpack (bs.take q) = (unpack bs).take (8 * q) := by
  by_cases h : q ≤ bs.length
  · have e := unpack_append (bs.take q) (bs.drop q)
    rw [List.take_append_drop] at e
    rw [e, List.take_left' (by rw [unpack_length, List.length_take]; omega)]
  · rw [List.take_of_length_le (by omega), List.take_of_length_le (by rw [unpack_length]; omega)]
end Go.Proofs.Ytbboakdfnjjddaa

/- Stuffing, its undoing, and the division at markers, as functions of lists. No program is named here. -/
namespace Go.Proofs.Ytbboakdfnjjddaa
set_option linter.unusedVariables false
set_option linter.unusedSimpArgs false
set_option maxRecDepth 100000

def stuff1 (x : Int) : List Int := if x = 255 then [255, 0] else [x]
def stuffB (bs : List Int) : List Int := bs.flatMap stuff1
theorem stuffB_cons (x : Int) (bs : List Int) : stuffB (x :: bs) = stuff1 x ++ stuffB bs := by simp [stuffB]
theorem stuffB_append (a b : List Int) : stuffB (a ++ b) = stuffB a ++ stuffB b := by simp [stuffB]
theorem stuffB_one (x : Int) : stuffB [x] = stuff1 x := by simp [stuffB]
theorem stuffB_length_le (bs : List Int) : (stuffB bs).length ≤ 2 * bs.length := by
  induction bs with
  | nil => simp [stuffB]
  | cons x bs ih =>
    rw [stuffB_cons, List.length_append, List.length_cons]
    have : (stuff1 x).length ≤ 2 := by unfold stuff1; split <;> simp
    omega
theorem stuffB_length (bs : List Int) : (stuffB bs).length = bs.length + bs.countP (· == 255) := by
  induction bs with
  | nil => simp [stuffB]
  | cons x bs ih =>
    rw [stuffB_cons, List.length_append, List.length_cons, ih, List.countP_cons]
    unfold stuff1
    by_cases h : x = 255
    · simp [h]; omega
    · simp [h]; omega

/-- What the undoing gives; none: a byte 255 that no byte 0 follows. -/
def plainR : List Int → Option (List Int)
  | [] => some []
  | [x] => if x = 255 then none else some [x]
  | x :: y :: r => if x = 255 then (if y = 0 then (plainR r).map (255 :: ·) else none) else (plainR (y :: r)).map (x :: ·)
theorem plainR_other {x : Int} (h : x ≠ 255) (r : List Int) : plainR (x :: r) = (plainR r).map (x :: ·) := by
  cases r with
  | nil => simp [plainR, h]
  | cons y r => simp [plainR, h]
theorem plainR_lead (r : List Int) : plainR (255 :: 0 :: r) = (plainR r).map (255 :: ·) := by simp [plainR]
theorem plainR_bad {y : Int} (h : y ≠ 0) (r : List Int) : plainR (255 :: y :: r) = none := by simp [plainR, h]
theorem plainR_end : plainR [255] = none := by simp [plainR]
def plainOut (bs : List Int) : List Int := (plainR bs).getD []
def plainErr (bs : List Int) : Int := if (plainR bs).isSome then 0 else 4
theorem plain_some {bs p : List Int} (h : plainR bs = some p) : plainOut bs = p ∧ plainErr bs = 0 := by simp [plainOut, plainErr, h]
theorem plain_none {bs : List Int} (h : plainR bs = none) : plainOut bs = [] ∧ plainErr bs = 4 := by simp [plainOut, plainErr, h]
theorem plainR_stuffB (bs : List Int) : plainR (stuffB bs) = some bs := by
  induction bs with
  | nil => rfl
  | cons x bs ih =>
    rw [stuffB_cons]
    unfold stuff1
    by_cases h : x = 255
    · subst h; simp [plainR_lead, ih]
    · simp [h, plainR_other h, ih]
theorem stuffB_plainR : ∀ (bs p : List Int), plainR bs = some p → stuffB p = bs
  | [], p, h => by simp [plainR] at h; subst h; rfl
  | [x], p, h => by
    by_cases hx : x = 255
    · simp [plainR, hx] at h
    · simp [plainR, hx] at h; subst h; simp [stuffB, stuff1, hx]
  | x :: y :: r, p, h => by
    by_cases hx : x = 255
    · by_cases hy : y = 0
      · subst hx hy
        rw [plainR_lead] at h
        cases hr : plainR r with
        | none => rw [hr] at h; simp at h
        | some q =>
          rw [hr] at h
          simp at h
          subst h
          rw [stuffB_cons, stuffB_plainR r q hr]; rfl
      · subst hx; rw [plainR_bad hy] at h; cases h
    · rw [plainR_other hx] at h
      cases hr : plainR (y :: r) with
      | none => rw [hr] at h; simp at h
      | some q =>
        rw [hr] at h
        simp at h
        subst h
        rw [stuffB_cons, stuffB_plainR (y :: r) q hr]; simp [stuff1, hx]
theorem length_le_stuffB (p : List Int) : p.length ≤ (stuffB p).length := by rw [stuffB_length]; omega

/-- The division at markers; the second list: the piece so far. -/
def splitR : List Int → List Int → Option (List (List Int) × List Int)
  | [], cur => some ([cur], [])
  | [x], cur => if x = 255 then none else some ([cur ++ [x]], [])
  | x :: y :: r, cur =>
    if x = 255 then (if y = 255 then none else if y = 0 then splitR r (cur ++ [255, 0]) else (splitR r []).map fun q => (cur :: q.1, y :: q.2))
    else splitR (y :: r) (cur ++ [x])
theorem splitR_other {x : Int} (h : x ≠ 255) (r cur : List Int) : splitR (x :: r) cur = splitR r (cur ++ [x]) := by
  cases r with
  | nil => simp [splitR, h]
  | cons y r => simp [splitR, h]
theorem splitR_pad (r cur : List Int) : splitR (255 :: 0 :: r) cur = splitR r (cur ++ [255, 0]) := by simp [splitR]
theorem splitR_mark {y : Int} (h : y ≠ 255) (h0 : y ≠ 0) (r cur : List Int) : splitR (255 :: y :: r) cur = (splitR r []).map fun q => (cur :: q.1, y :: q.2) := by simp [splitR, h, h0]
theorem splitR_end (cur : List Int) : splitR [255] cur = none := by simp [splitR]
theorem splitR_two (r cur : List Int) : splitR (255 :: 255 :: r) cur = none := by simp [splitR]
def splitP (bs : List Int) : List (List Int) := ((splitR bs []).map (·.1)).getD []
def splitM (bs : List Int) : List Int := ((splitR bs []).map (·.2)).getD []
def splitErr (bs : List Int) : Int := if (splitR bs []).isSome then 0 else 4
theorem split_some {bs : List Int} {q : List (List Int) × List Int} (h : splitR bs [] = some q) : splitP bs = q.1 ∧ splitM bs = q.2 ∧ splitErr bs = 0 := by simp [splitP, splitM, splitErr, h]
theorem split_none {bs : List Int} (h : splitR bs [] = none) : splitP bs = [] ∧ splitM bs = [] ∧ splitErr bs = 4 := by simp [splitP, splitM, splitErr, h]

/-- Where a division stands: what is done, and what is left. -/
structure SInv (bs : List Int) (k : Nat) (ps : List (List Int)) (ms cur : List Int) : Prop where
  eq : splitR bs [] = (splitR (bs.drop k) cur).map fun q => (ps ++ q.1, ms ++ q.2)
  few : ps.length = ms.length
  room : 2 * ps.length + cur.length ≤ k
theorem drop_one {xs : List Int} {k : Nat} {x : Int} (h : xs[k]? = some x) : xs.drop k = x :: xs.drop (k + 1) := by
  obtain ⟨hk, rfl⟩ := List.getElem?_eq_some_iff.1 h
  exact List.drop_eq_getElem_cons hk
section
variable {bs ms cur : List Int} {k : Nat} {ps : List (List Int)} {x y : Int}
theorem SInv.start (bs : List Int) : SInv bs 0 [] [] [] := ⟨by simp, rfl, by simp⟩
theorem SInv.other (h : SInv bs k ps ms cur) (hx : bs[k]? = some x) (hn : x ≠ 255) : SInv bs (k + 1) ps ms (cur ++ [x]) :=
  ⟨by rw [h.eq, drop_one hx, splitR_other hn], h.few, by have := h.room; simp; omega⟩
theorem SInv.pad (h : SInv bs k ps ms cur) (hx : bs[k]? = some 255) (hy : bs[k + 1]? = some 0) : SInv bs (k + 2) ps ms (cur ++ [255, 0]) :=
  ⟨by rw [h.eq, drop_one hx, drop_one hy, splitR_pad], h.few, by have := h.room; simp; omega⟩
theorem SInv.mark (h : SInv bs k ps ms cur) (hx : bs[k]? = some 255) (hy : bs[k + 1]? = some y) (h1 : y ≠ 255) (h0 : y ≠ 0) : SInv bs (k + 2) (ps ++ [cur]) (ms ++ [y]) [] :=
  ⟨by rw [h.eq, drop_one hx, drop_one hy, splitR_mark h1 h0, Option.map_map]; simp [Function.comp_def], by simp [h.few], by have := h.room; simp; omega⟩
theorem SInv.two (h : SInv bs k ps ms cur) (hx : bs[k]? = some 255) (hy : bs[k + 1]? = some 255) : splitR bs [] = none := by rw [h.eq, drop_one hx, drop_one hy, splitR_two]; rfl
theorem SInv.last (h : SInv bs k ps ms cur) (hx : bs[k]? = some 255) (hl : k + 1 = bs.length) : splitR bs [] = none := by rw [h.eq, drop_one hx, hl, List.drop_length, splitR_end]; rfl
theorem SInv.done (h : SInv bs bs.length ps ms cur) : splitR bs [] = some (ps ++ [cur], ms) := by rw [h.eq, List.drop_length]; simp [splitR]
end
/-- Where an undoing stands. -/
structure PlInv (bs : List Int) (k : Nat) (acc : List Int) : Prop where
  eq : plainR bs = (plainR (bs.drop k)).map (acc ++ ·)
  room : acc.length ≤ k
section
variable {bs acc : List Int} {k : Nat} {x y : Int}
theorem PlInv.start (bs : List Int) : PlInv bs 0 [] := ⟨by simp, Nat.le_refl _⟩
theorem PlInv.other (h : PlInv bs k acc) (hx : bs[k]? = some x) (hn : x ≠ 255) : PlInv bs (k + 1) (acc ++ [x]) :=
  ⟨by rw [h.eq, drop_one hx, plainR_other hn, Option.map_map]; simp [Function.comp_def], by have := h.room; simp; omega⟩
theorem PlInv.lead (h : PlInv bs k acc) (hx : bs[k]? = some 255) (hy : bs[k + 1]? = some 0) : PlInv bs (k + 2) (acc ++ [255]) :=
  ⟨by rw [h.eq, drop_one hx, drop_one hy, plainR_lead, Option.map_map]; simp [Function.comp_def], by have := h.room; simp; omega⟩
theorem PlInv.bad (h : PlInv bs k acc) (hx : bs[k]? = some 255) (hy : bs[k + 1]? = some y) (hn : y ≠ 0) : plainR bs = none := by rw [h.eq, drop_one hx, drop_one hy, plainR_bad hn]; rfl
theorem PlInv.last (h : PlInv bs k acc) (hx : bs[k]? = some 255) (hl : k + 1 = bs.length) : plainR bs = none := by rw [h.eq, drop_one hx, hl, List.drop_length, plainR_end]; rfl
theorem PlInv.done (h : PlInv bs bs.length acc) : plainR bs = some acc := by rw [h.eq, List.drop_length]; simp [plainR]
end
theorem splitR_stuffB (bs cur : List Int) : splitR (stuffB bs) cur = some ([cur ++ stuffB bs], []) := by
  induction bs generalizing cur with
  | nil => simp [stuffB, splitR]
  | cons x bs ih =>
    rw [stuffB_cons]
    unfold stuff1
    by_cases h : x = 255
    · subst h; simp [splitR_pad, ih]
    · simp [h, splitR_other h, ih]
/-- The pieces with the markers between them. -/
def joinP : List (List Int) → List Int → List Int
  | [], _ => []
  | p :: ps, ms => p ++ match ps, ms with
    | [], _ => []
    | q :: qs, [] => []
    | q :: qs, m :: ms => [255, m] ++ joinP (q :: qs) ms
theorem plainR_snoc : ∀ (a : List Int) (x : Int), (plainR a).isSome = true → x ≠ 255 → (plainR (a ++ [x])).isSome = true
  | [], x, _, hx => by simp [plainR, hx]
  | [y], x, h, hx => by
    by_cases hy : y = 255
    · simp [plainR, hy] at h
    · simp [plainR, hy, hx]
  | y :: z :: r, x, h, hx => by
    by_cases hy : y = 255
    · by_cases hz : z = 0
      · subst hy hz
        rw [plainR_lead] at h
        rw [List.cons_append, List.cons_append, plainR_lead]
        simp at h ⊢
        exact plainR_snoc r x h hx
      · subst hy; rw [plainR_bad hz] at h; cases h
    · rw [plainR_other hy] at h
      rw [List.cons_append, plainR_other hy]
      simp at h ⊢
      simpa using plainR_snoc (z :: r) x h hx
theorem plainR_pad : ∀ (a : List Int), (plainR a).isSome = true → (plainR (a ++ [255, 0])).isSome = true
  | [], _ => by simp [plainR]
  | [y], h => by
    by_cases hy : y = 255
    · simp [plainR, hy] at h
    · simp [plainR, hy]
  | y :: z :: r, h => by
    by_cases hy : y = 255
    · by_cases hz : z = 0
      · subst hy hz
        rw [plainR_lead] at h
        rw [List.cons_append, List.cons_append, plainR_lead]
        simp at h ⊢
        exact plainR_pad r h
      · subst hy; rw [plainR_bad hz] at h; cases h
    · rw [plainR_other hy] at h
      rw [List.cons_append, plainR_other hy]
      simp at h ⊢
      simpa using plainR_pad (z :: r) h
/-- What a division gives: one piece more than markers, each piece plain, each marker neither 0 nor 255, and all together what there was. -/
theorem splitR_back : ∀ (bs cur : List Int) (q : List (List Int) × List Int), splitR bs cur = some q → (plainR cur).isSome = true → (∀ x ∈ bs, 0 ≤ x ∧ x ≤ 255) →
    q.1.length = q.2.length + 1 ∧ (∀ p ∈ q.1, (plainR p).isSome = true) ∧ (∀ m ∈ q.2, 1 ≤ m ∧ m ≤ 254) ∧ joinP q.1 q.2 = cur ++ bs
  | [], cur, q, h, hc, _ => by
    simp [splitR] at h; subst h
    refine ⟨rfl, by simpa using hc, by simp, by simp [joinP]⟩
  | [x], cur, q, h, hc, _ => by
    by_cases hx : x = 255
    · simp [splitR, hx] at h
    · simp [splitR, hx] at h; subst h
      refine ⟨rfl, by simpa using plainR_snoc cur x hc hx, by simp, by simp [joinP]⟩
  | x :: y :: r, cur, q, h, hc, hb => by
    by_cases hx : x = 255
    · subst hx
      by_cases hy : y = 255
      · subst hy; rw [splitR_two] at h; cases h
      · by_cases h0 : y = 0
        · subst h0
          rw [splitR_pad] at h
          obtain ⟨h1, h2, h3, h4⟩ := splitR_back r _ q h (plainR_pad cur hc) fun z hz => hb z (by simp [hz])
          exact ⟨h1, h2, h3, by rw [h4]; simp⟩
        · rw [splitR_mark hy h0] at h
          cases hr : splitR r [] with
          | none => rw [hr] at h; cases h
          | some q' =>
            rw [hr] at h
            simp at h
            obtain ⟨h1, h2, h3, h4⟩ := splitR_back r [] q' hr rfl fun z hz => hb z (by simp [hz])
            subst h
            have hyb := hb y (by simp)
            refine ⟨by simp [h1], ?_, ?_, ?_⟩
            · intro p hp
              rcases List.mem_cons.1 hp with rfl | hp
              · exact hc
              · exact h2 p hp
            · intro m hm
              rcases List.mem_cons.1 hm with rfl | hm
              · omega
              · exact h3 m hm
            · obtain ⟨ps, ms⟩ := q'
              cases ps with
              | nil => simp at h1
              | cons p ps =>
                simp only [joinP] at h4 ⊢
                rw [h4]; simp
    · rw [splitR_other hx] at h
      obtain ⟨h1, h2, h3, h4⟩ := splitR_back (y :: r) _ q h (plainR_snoc cur x hc hx) fun z hz => hb z (by simp [hz])
      exact ⟨h1, h2, h3, by rw [h4]; simp⟩
end Go.Proofs.Ytbboakdfnjjddaa

/- stuff.Stuff and stuff.Plain: their contracts. -/
namespace Go.Proofs.Ytbboakdfnjjddaa
open Go.RowKit
set_option linter.unusedVariables false
set_option linter.unusedSimpArgs false
set_option maxRecDepth 100000

theorem elem_byte : ElemOf Try.prog 37 5 1 1 := .mk' (z := .int .u8 0) Try.underlying37 (by kernel_rfl) rfl (by omega)
theorem info_byteS : (Try.prog.info? 5).map (fun i => (i.zero, i.size, i.bytes)) = some (some (.int .u8 0), 1, 1) := by kernel_rfl
theorem run_make_bytes (n : Nat) (h : n ≤ 140737488355328) (u : World) : (Instr.makeSlice 37 (.int .i64 0) (.int .i64 (n : Int))).run Try.prog u =
    .ok (.slice (some ⟨u.heap.size, 0, none⟩) 0 n) (u.alloc (.cells (madeCells #[.int .u8 0] n) 5)) := by
  obtain ⟨i0, hi, hz0, hz1, hz2⟩ := info_parts info_byteS
  have h := run_make (P := Try.prog) u 37 5 i0 (.int .u8 0) Try.underlying37 hi hz0 .i64 .i64 0 n (by omega) (by omega) (by rw [hz2]; omega) (by omega)
  simpa [hz1, Value.cells] using h

abbrev byteRow (v : Value) (l : List Int) : Row := intRow 5 .u8 v l

theorem stuff_room {bs : List Int} {k : Nat} {x : Int} (h : bs[k]? = some x) : (stuffB (bs.take k)).length + (stuff1 x).length ≤ (stuffB bs).length := by
  have e : bs = bs.take k ++ [x] ++ bs.drop (k + 1) := by rw [← take_snoc h, List.take_append_drop]
  have h2 := congrArg List.length (congrArg stuffB e)
  rw [stuffB_append, stuffB_append, stuffB_one] at h2
  simp only [List.length_append] at h2
  omega
theorem stuff_snoc {bs : List Int} {k : Nat} {x : Int} (h : bs[k]? = some x) : stuffB (bs.take (k + 1)) = stuffB (bs.take k) ++ stuff1 x := by rw [take_snoc h, stuffB_append, stuffB_one]

set_option maxHeartbeats 1000000 in
theorem stuff_any (A : Option Addr) (c G : Nat) (bs : List Int) (w : World) (hb : Seen w G A (ints .u8 bs)) (hG : G ≤ w.heap.size) (hl : (stuffB bs).length ≤ 140737488355328) :
    Calls Try.prog 31 #[.slice A bs.length c] w fun e w' => ∃ v, e = .returned v ∧ Owns w.heap.size [byteRow v (stuffB bs)] w' ∧ Below w.heap.size w w' := by
  have hl0 : bs.length ≤ 140737488355328 := Nat.le_trans (length_le_stuffB bs) hl
  have hmk := run_make_bytes bs.length (by omega)
  go_enter Try.func31, Try.ntmps31
  go_wp2_with fail
  clear hmk
  go_loopg [3, 5, 11] bs.length (fun gk v x i wr => ∃ k : Nat, gk = bs.length - k ∧ k ≤ bs.length ∧ i = .int .i64 k ∧ Owns w.heap.size [byteRow v (stuffB (bs.take k))] wr ∧ Below w.heap.size w wr)
  case atStart => exact ⟨0, rfl, Nat.zero_le _, rfl, (Owns.start w).made _ _ _ _ (by unfold maxLen; omega) (by rw [size_madeCells, Nat.mul_one]), below1 _ _⟩
  case round =>
    obtain ⟨k, rfl, hk, rfl, HO, hbel⟩ := hrel
    have hB := hbel.size
    by_cases hlt : k < bs.length
    · obtain ⟨g, o, x, rfl, hg, hx, h1⟩ := hb.int hlt
      have hroom := stuff_room hx
      have hsn := stuff_snoc hx
      have Hsn := veil hsn; clear hsn hx
      rw [← hbel.cell (by simp; omega)] at h1
      generalize stuffB (bs.take k) = out at *
      by_cases h255 : x = 255
      · subst h255
        have hs1 : (stuff1 255).length = 2 := rfl
        rw [hs1] at hroom
        go_wp2_with (first
          | (at_builtin; go_loud (refine wpList_ownI _ rfl (.tmp 15) (.tmp 17) _ rfl w.heap.size 5 .u8 1 elem_byte u3 out [] rfl HO [255] rfl (by unfold maxLen; simp; omega) (by simp; omega) ?_); intro v1 w1 HO1 hb1 hz1)
          | (at_builtin; go_loud (refine wpList_ownI _ rfl (.tmp 21) (.tmp 22) _ rfl w.heap.size 5 .u8 1 elem_byte v1 (out ++ [255]) [] rfl HO1 [0] rfl (by unfold maxLen; simp; omega) (by simp; omega) ?_); intro v2 w2 HO2 hb2 hz2))
        go_roundg (bs.length - (k + 1))
        case rel => exact ⟨k + 1, rfl, by omega, by go_num, by rw [Hsn.out]; simpa [stuff1] using HO2, (hbel.trans hb1).trans hb2⟩
        case measure => omega
      · have hb0 : (x == 255) = false := by simpa using h255
        have hs1 : stuff1 x = [x] := by unfold stuff1; rw [if_neg h255]
        have Hs1 := veil hs1
        rw [hs1] at hroom
        simp at hroom
        clear hs1 h255
        go_wp2_with (at_builtin; go_loud (refine wpList_ownI _ rfl (.tmp 15) (.tmp 17) _ rfl w.heap.size 5 .u8 1 elem_byte u3 out [] rfl HO [x] rfl (by unfold maxLen; simp; omega) (by simp; omega) ?_); intro v1 w1 HO1 hb1 hz1)
        go_roundg (bs.length - (k + 1))
        case rel => exact ⟨k + 1, rfl, by omega, by go_num, by rw [Hsn.out, Hs1.out]; exact HO1, hbel.trans hb1⟩
        case measure => omega
    · obtain rfl : k = bs.length := by omega
      rw [List.take_length] at HO
      go_wp2
      go_ret
      exact ⟨_, rfl, HO, hbel⟩

set_option maxHeartbeats 1000000 in
theorem plain_any (A : Option Addr) (c G : Nat) (bs : List Int) (w : World) (hb : Seen w G A (ints .u8 bs)) (hG : G ≤ w.heap.size) (hl : bs.length ≤ 140737488355328) :
    Calls Try.prog 22 #[.slice A bs.length c] w fun e w' => ∃ v, e = .returned (.tuple #[v, .int .i64 (plainErr bs)]) ∧ Owns w.heap.size [byteRow v (plainOut bs)] w' ∧ Below w.heap.size w w' := by
  have hmk := run_make_bytes bs.length (by omega)
  go_enter Try.func22, Try.ntmps22
  go_wp2_with fail
  clear hmk
  go_loopg [4, 5] bs.length (fun gk v i wr => ∃ (k : Nat) (acc : List Int), gk = bs.length - k ∧ k ≤ bs.length ∧ i = .int .i64 k ∧ Hid (PlInv bs k acc) ∧ acc.length ≤ k ∧ Owns w.heap.size [byteRow v acc] wr ∧ Below w.heap.size w wr)
  case atStart => exact ⟨0, [], rfl, Nat.zero_le _, rfl, veil (PlInv.start bs), Nat.zero_le _, (Owns.start w).made _ _ _ _ (by unfold maxLen; omega) (by rw [size_madeCells, Nat.mul_one]), below1 _ _⟩
  case round =>
    obtain ⟨k, acc, rfl, hk, rfl, HI, hacc, HO, hbel⟩ := hrel
    have hB := hbel.size
    by_cases hlt : k < bs.length
    · obtain ⟨g, o, x, rfl, hg, hx, h1⟩ := hb.int hlt
      have Hx := veil hx; clear hx
      rw [← hbel.cell (by simp; omega)] at h1
      by_cases h255 : x = 255
      · subst h255
        by_cases hlast : k + 1 = bs.length
        · have hpn := HI.out.last Hx.out hlast
          have hpo := plain_none hpn
          have Ho := veil hpo.1; have He := veil hpo.2
          have hlast' : (k : Int) + 1 = (bs.length : Int) := by omega
          clear hpn hpo
          go_wp2_with (first
            | (at_builtin; go_loud (refine wpList_ownI _ rfl (.tmp 15) (.tmp 20) _ rfl w.heap.size 5 .u8 1 elem_byte u4 acc [] rfl HO [255] rfl (by unfold maxLen; simp; omega) (by simp; omega) ?_); intro v1 w1 HO1 hb1 hz1; have h1' := h1; rw [← hb1.cell (by simp; omega)] at h1'))
          go_ret2
          exact ⟨_, ret_two rfl (by rw [He.out]; rfl), by rw [Ho.out]; exact (Owns.nil (hbel.trans hb1).size).fresh _ _, hbel.trans hb1⟩
        · obtain ⟨g2, o2, y, e2, hg2, hy, h2⟩ := hb.int (k := k + 1) (by omega)
          injection e2 with e2
          injection e2 with e3 e4
          subst e3 e4
          have Hy := veil hy; clear hy
          rw [← hbel.cell (by simp; omega)] at h2
          have hne : ¬ ((k : Int) + 1 = (bs.length : Int)) := by omega
          have hlt2 : (k : Int) + 1 < (bs.length : Int) := by omega
          by_cases hy0 : y = 0
          · subst hy0
            go_wp2_with (first
              | (at_builtin; go_loud (refine wpList_ownI _ rfl (.tmp 15) (.tmp 20) _ rfl w.heap.size 5 .u8 1 elem_byte u4 acc [] rfl HO [255] rfl (by unfold maxLen; simp; omega) (by simp; omega) ?_); intro v1 w1 HO1 hb1 hz1; have h1' := h1; have h2' := h2; rw [← hb1.cell (by simp; omega)] at h1' h2'))
            go_roundg (bs.length - (k + 2))
            case rel => exact ⟨k + 2, _, rfl, by omega, by go_num, veil (HI.out.lead Hx.out Hy.out), by simp; omega, HO1, hbel.trans hb1⟩
            case measure => omega
          · have hpn := HI.out.bad Hx.out Hy.out hy0
            have hpo := plain_none hpn
            have Ho := veil hpo.1; have He := veil hpo.2
            have hyb : (y != 0) = true := by simpa using hy0
            clear hpn hpo hy0
            go_wp2_with (first
              | (at_builtin; go_loud (refine wpList_ownI _ rfl (.tmp 15) (.tmp 20) _ rfl w.heap.size 5 .u8 1 elem_byte u4 acc [] rfl HO [255] rfl (by unfold maxLen; simp; omega) (by simp; omega) ?_); intro v1 w1 HO1 hb1 hz1; have h1' := h1; have h2' := h2; rw [← hb1.cell (by simp; omega)] at h1' h2'))
            go_ret2
            exact ⟨_, ret_two rfl (by rw [He.out]; rfl), by rw [Ho.out]; exact (Owns.nil (hbel.trans hb1).size).fresh _ _, hbel.trans hb1⟩
      · have hxb : (x != 255) = true := by simpa using h255
        have hxb' : (x == 255) = false := by simpa using h255
        have H255 := veil h255; clear h255
        go_wp2_with (first
          | (at_builtin; go_loud (refine wpList_ownI _ rfl (.tmp 15) (.tmp 20) _ rfl w.heap.size 5 .u8 1 elem_byte u4 acc [] rfl HO [x] rfl (by unfold maxLen; simp; omega) (by simp; omega) ?_); intro v1 w1 HO1 hb1 hz1; have h1' := h1; rw [← hb1.cell (by simp; omega)] at h1'))
        go_roundg (bs.length - (k + 1))
        case rel => exact ⟨k + 1, _, rfl, by omega, by go_num, veil (HI.out.other Hx.out H255.out), by simp; omega, HO1, hbel.trans hb1⟩
        case measure => omega
    · obtain rfl : k = bs.length := by omega
      have hpo := plain_some HI.out.done
      have Ho := veil hpo.1; have He := veil hpo.2
      clear hpo
      go_wp2
      go_ret2
      exact ⟨_, ret_two rfl (by rw [He.out]; rfl), by rw [Ho.out]; exact HO, hbel⟩
end Go.Proofs.Ytbboakdfnjjddaa

/- seg's writer: its state in numbers and in memory. -/
namespace Go.Proofs.Ytbboakdfnjjddaa
open Go.RowKit
set_option linter.unusedVariables false
set_option linter.unusedSimpArgs false
set_option maxRecDepth 100000

abbrev fieldRow (v : Value) (l : List (Int × Int)) : Row := ⟨69, 2, v, l.length, pairCells l⟩
theorem fieldRow_append (v : Value) (l m : List (Int × Int)) : (⟨69, 2, v, l.length + m.length, pairCells l ++ pairCells m⟩ : Row) = fieldRow v (l ++ m) := by simp [fieldRow, pairCells]
/-- Block g is a writer: bytes that are done, fields that are not. -/
structure Wr (B g : Nat) (D : List Int) (P : List (Int × Int)) (vd vp : Value) (w : World) : Prop where
  blk : Blk w g [vd, vp, .int .i64 ((fieldBits P).length : Int)] 67
  own : Owns B [byteRow vd D, fieldRow vp P] w
  low : g < B
  byt : Bytes D
  ok : ∀ f ∈ P, okF f
  few : P.length ≤ 20000
/-- The blocks that it may write. -/
def wrF (g : Nat) (vd vp : Value) (q : Nat) : Prop := q = g ∨ vd.ownBlock = some q ∨ vp.ownBlock = some q
section
variable {B g : Nat} {D : List Int} {P : List (Int × Int)} {vd vp : Value} {w w' : World}
theorem Wr.below (h : Wr B g D P vd vp w) (hb : Below w.heap.size w w') : Wr B g D P vd vp w' := ⟨h.blk.below hb h.blk.lt, h.own.below hb, h.low, h.byt, h.ok, h.few⟩
theorem Wr.only {F : Nat → Prop} (h : Wr B g D P vd vp w) (hb : Only F w w') (hF : ∀ q, wrF g vd vp q → ¬ F q) : Wr B g D P vd vp w' :=
  ⟨hb.blk h.blk (hF g (.inl rfl)), h.own.only hb (fun r hr q hq => hF q (by
    rcases List.mem_cons.1 hr with rfl | hr
    · exact .inr (.inl hq)
    · rw [List.mem_singleton.1 hr] at hq; exact .inr (.inr hq))), h.low, h.byt, h.ok, h.few⟩
theorem Wr.foot (h : Wr B g D P vd vp w) {q : Nat} (hq : wrF g vd vp q) : q < w.heap.size ∧ g ≤ q := by
  rcases hq with rfl | hq | hq
  · exact ⟨h.blk.lt, Nat.le_refl _⟩
  · have := h.own.head.lt q hq; have := h.low; omega
  · have := h.own.tail.head.lt q hq; have := h.low; omega
end
/-- In a walk: append of a field just laid; the new slice written out. -/
theorem wpList_ownF {ops : Array Oper} {rest : List Oper} {o : Oper} {a : Act} {Q : Exit → Act → World → Prop} (w0 : World) (n : Nat) (hn : w0.heap.size = n) (hgd : Region.wanted o (yielded ops a.tmps) = true) (s x : Operand)
    (ho : o.op = .call { callee := .builtin .append, args := #[s, x], argTypes := #[65, 65] })
    (B : Nat) (v : Value) (l : List (Int × Int)) (rs : List Row) (hs : a.eval s = v) (HO : Owns B (fieldRow v l :: rs) w0) (f1 f2 : Int) (hx : a.eval x = .slice (some ⟨n, 0, none⟩) 1 1)
    (h63 : l.length + 1 ≤ 1000000)
    (h : ∀ A' c' w', Owns B (fieldRow (.slice A' (l.length + 1) c') (l ++ [(f1, f2)]) :: rs) w' → (w0.alloc (.cells #[.int .i64 f1, .int .i64 f2] 69)).grownBy w' v.ownBlock → Below B (w0.alloc (.cells #[.int .i64 f1, .int .i64 f2] 69)) w' → ((Value.slice A' (l.length + 1) c').ownBlock = v.ownBlock ∨ (Value.slice A' (l.length + 1) c').ownBlock = some (w0.heap.size + 1)) → wpList Try.prog ops Q rest (a.put o.dst (.slice A' (l.length + 1) c')) w') : wpList Try.prog ops Q (o :: rest) a (w0.alloc (.cells #[.int .i64 f1, .int .i64 f2] 69)) := by
  subst hn
  refine wpList_ownV2 _ hgd s x 65 ho B 69 2 16 elem_field v l.length (pairCells l) rs hs (HO.alloc _) (w0.heap.size + 1) (some ⟨w0.heap.size, 0, none⟩) 1 1 (pairCells [(f1, f2)]) hx (Seen.new w0 (pairCells [(f1, f2)]) _ _ (Nat.lt_succ_self _)) (by simp [pairCells]) (by intro u hu; simp [pairCells] at hu; rcases hu with rfl | rfl <;> rfl) (by unfold maxLen; omega) (by omega) ?_
  intro v' w' h2 hg h4 h5
  obtain ⟨A', c', hv, _, _, _⟩ := h2.seen (List.mem_cons_self ..)
  simp only at hv
  subst hv
  rw [World.size_alloc] at h5
  refine h A' c' w' ?_ hg h4 h5
  rw [← fieldRow_append]
  exact h2
theorem fieldBits_len_le (P : List (Int × Int)) (h : ∀ f ∈ P, okF f) : (fieldBits P).length ≤ 24 * P.length := fieldBits_le P h
theorem bits_take_done {P : List (Int × Int)} {out : List Int} {p : Nat} (h : unpack out = fieldBits P ++ List.replicate p true) (hp : p < 8) :
    8 * ((fieldBits P).length / 8) ≤ (fieldBits P).length ∧ (fieldBits P).length / 8 ≤ out.length ∧ unpack (out.take ((fieldBits P).length / 8)) = (fieldBits P).take (8 * ((fieldBits P).length / 8)) := by
  have hl := congrArg List.length h
  rw [unpack_length, List.length_append, List.length_replicate] at hl
  refine ⟨by omega, by omega, ?_⟩
  rw [unpack_take, h, List.take_append_of_le_length (by omega)]
/-- The bits behind the last full byte. -/
theorem bits_left {P : List (Int × Int)} {out : List Int} {p : Nat} (hby : Bytes out) (h : unpack out = fieldBits P ++ List.replicate p true) (hp : p < 8) (ho : 0 < (fieldBits P).length % 8) :
    ∃ x : Nat, out[(fieldBits P).length / 8]? = some (x : Int) ∧ x < 256 ∧ bitsN ((fieldBits P).length % 8) (x / 2 ^ (8 - (fieldBits P).length % 8)) = (fieldBits P).drop (8 * ((fieldBits P).length / 8)) ∧ x / 2 ^ (8 - (fieldBits P).length % 8) < 2 ^ ((fieldBits P).length % 8) := by
  have hl := congrArg List.length h
  rw [unpack_length, List.length_append, List.length_replicate] at hl
  obtain ⟨n, hn⟩ : ∃ n, n = (fieldBits P).length := ⟨_, rfl⟩
  rw [← hn] at hl ho ⊢
  obtain ⟨y, hy⟩ := some_at (xs := out) (j := n / 8) (by omega)
  have hyb := hby y (List.mem_of_getElem? hy)
  obtain ⟨x, rfl⟩ := Int.eq_ofNat_of_zero_le hyb.1
  have hx : x < 256 := by omega
  have e1 : bitsN 8 x = ((unpack out).drop (8 * (n / 8))).take 8 := by
    have e := unpack_drop out (n / 8)
    rw [← e]
    obtain ⟨hk, hk2⟩ := List.getElem?_eq_some_iff.1 hy
    rw [List.drop_eq_getElem_cons hk, hk2, unpack_cons, List.take_append_of_le_length (by rw [bitsN_length]; exact Nat.le_refl _), List.take_of_length_le (by rw [bitsN_length]; exact Nat.le_refl _), Int.toNat_natCast]
  have hd : 8 = n % 8 + (8 - n % 8) := by omega
  have e2 := bitsN_add (n % 8) (8 - n % 8) x
  rw [← hd, e1] at e2
  have e3 := congrArg (List.take (n % 8)) e2
  rw [List.take_left' (bitsN_length _ _), List.take_take, Nat.min_eq_left (by omega), h, List.drop_append_of_le_length (by omega), List.take_append_of_le_length (by rw [List.length_drop]; omega), List.take_of_length_le (by rw [List.length_drop]; omega)] at e3
  refine ⟨x, hy, hx, e3.symm, ?_⟩
  rw [Nat.div_lt_iff_lt_mul (Nat.two_pow_pos _), ← Nat.pow_add, ← hd]
  exact hx
end Go.Proofs.Ytbboakdfnjjddaa

/- A call of a function that was handed over, its number a letter; a block and two numbers handed back; what a call may do to one block. No program is named here. -/
namespace Go.Proofs.Ytbboakdfnjjddaa
open Go.RowKit
set_option linter.unusedVariables false
set_option linter.unusedSimpArgs false
set_option maxRecDepth 100000

/-- A call of this function enters its body. -/
def Enters (P : Program) (f : FuncId) : Prop := ∀ (args : Array Value) (w : World), (callFunc f args).run P w = .ok (.enter f args) w
theorem Enters.of {P : Program} {f : FuncId} {fn : Func} (h : P.funcs[f]? = some fn) (hn : (fn.name == "runtime.NumGoroutine") = false) (hb : fn.body.isNone = false) : Enters P f := by
  intro args w
  have h1 : ¬ fn.name = "runtime.NumGoroutine" := by simpa using hn
  have h2 : ¬ fn.body = none := by intro e; rw [e] at hb; cases hb
  simp [callFunc, h, h1, h2]
/-- In a walk: the function behind a value. -/
theorem wpList_callV {P : Program} {ops : Array Oper} {rest : List Oper} {o : Oper} {a : Act} {w : World} {Q : Exit → Act → World → Prop} (hgd : o.guard = none) (x : Operand) (xs : Array Operand) (ats : Array TypeId)
    (ho : o.op = .call { callee := .value x, args := xs, argTypes := ats }) (f : FuncId) (caps : Array Value) (hx : a.eval x = .func (.func f) #[] caps) (he : Enters P f)
    (R : Ending → World → Prop) (hc : Calls P f (xs.map a.eval ++ caps) w R)
    (h : ∀ e w', R e w' → ∃ v, e = .returned v ∧ wpList P ops Q rest (a.put o.dst v) w') : wpList P ops Q (o :: rest) a w := by
  refine wpList_plain hgd fun K hK => ?_
  unfold Oper.wp execOp
  simp only [ho, resolve, hx, Deferred.ofValue, invoke, Sem.run_bind, Sem.run_pure, Result.andThen_ok, Array.empty_append, he _ _]
  refine hc.mono fun e w' hr => ?_
  obtain ⟨v, rfl, h2⟩ := h e w' hr
  exact hK _ _ h2
theorem results_row_tmp2 {P : Program} {fn : Func} {p u u2 : Tmp} {ty : TypeId} (h : fn.results = #[.cell p ty, .tmp u, .tmp u2]) (tmps : Array Value) (w : World) (g : Nat) (t : TypeId) (cs : Array Value) (fr : Nat × Nat) (d : TypeDesc) (x y : Value)
    (hp : tmps.getD p undef = .pointer (some ⟨g, 0, none⟩)) (hx : tmps.getD u undef = x) (hy : tmps.getD u2 undef = y) (hg : w.heap[g]? = some (.cells cs t fr))
    (hu : P.underlying ty = some d) (hd : (match d with | .struct _ | .array _ _ => true | _ => false) = true) (hi : (P.info? ty).map (·.size) = some cs.size) :
    (results fn tmps).run P w = .ok (.tuple #[.agg cs, x, y]) w := by
  have hp' : tmps[p]?.getD undef = .pointer (some ⟨g, 0, none⟩) := by simpa using hp
  have hx' : tmps[u]?.getD undef = x := by simpa using hx
  have hy' : tmps[u2]?.getD undef = y := by simpa using hy
  simp [results, h, hp', hx', hy', asAddr, run_loadVar_row w g t ty cs fr d hg hu hd hi, Sem.run_bind, Result.andThen]
/-- Only block g of those that were there has changed. -/
theorem grown_below {w w1 w2 : World} {B g : Nat} (h : w.grownBy w1 (some g)) (hb : Below B w1 w2) (hB : w.heap.size ≤ B) : w.grownBy w2 (some g) :=
  ⟨hb.os.trans h.os, hb.tape.trans h.tape, hb.output.trans h.output, Nat.le_trans h.size hb.size, fun i hi hr => (hb.block i (by omega)).trans (h.block i hi hr)⟩
theorem grown_set {w w1 : World} {g b k : Nat} {v : Value} (h : w.grownBy w1 (some g)) (hb : w.heap.size ≤ b) : w.grownBy (w1.setCell ⟨b, k, none⟩ v) (some g) :=
  ⟨h.os, h.tape, h.output, by have := h.size; simpa [World.setCell] using this, fun i hi hr => (Below.heap_setCell _ _ _ _ (by simp; omega)).trans (h.block i hi hr)⟩
theorem grown_grown {w w1 w2 : World} {g b : Nat} (h : w.grownBy w1 (some g)) (h2 : w1.grownBy w2 (some b)) (hb : w.heap.size ≤ b) : w.grownBy w2 (some g) :=
  ⟨h2.os.trans h.os, h2.tape.trans h.tape, h2.output.trans h.output, Nat.le_trans h.size h2.size, fun i hi hr => (h2.block i (by have := h.size; omega) (by simp; omega)).trans (h.block i hi hr)⟩
theorem grown_setCell (w : World) (g k : Nat) (v : Value) : w.grownBy (w.setCell ⟨g, k, none⟩ v) (some g) := ⟨rfl, rfl, rfl, by simp [World.setCell], fun i _ hi => Below.heap_setCell _ _ _ _ (fun e => hi (by rw [e]))⟩
theorem Seen.grown {w w' : World} {G g : Nat} {A : Option Addr} {xs : List Value} (h : Seen w G A xs) (hg : w.grownBy w' (some g)) (h1 : G ≤ g) (h2 : G ≤ w.heap.size) : Seen w' G A xs :=
  h.of w w' fun p hp => World.cell?_of_block (hg.block p.block (by omega) (by simp; omega))
end Go.Proofs.Ytbboakdfnjjddaa
