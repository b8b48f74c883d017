/- Texts shared by the claims of this seat, in one. -/
import Derived.Test.YtddkhkpdbjjboaaBd1
import Derived.Test.YtddkhkpdbjjboaaChecked
import Derived.Laws.MakeOwn
import Derived.Laws.ResultCell
import Derived.OpenShut
import Derived.Maps.OwnSet
import Derived.Maps.OwnOps
import Derived.DeepKeys4
import Derived.MapViews
import Derived.Lib.SmallJoins
/- What Tokens and Block answer, in numbers. No program is named here. -/
namespace Go.Proofs.Ytddkhkpdbjjboaa
set_option linter.unusedVariables false
set_option linter.unusedSimpArgs false
set_option maxRecDepth 100000

/-- A token's value. -/
def tokV (t : Int × Int × Int) : Value := .agg #[.int .i64 t.1, .int .i64 t.2.1, .int .i64 t.2.2]
def eT (b : Int) (cs : List Int) : Int := if -2047 ≤ b ∧ b ≤ 2047 ∧ inB (-2047) 2047 cs = true then 0 else 1
def oT (b : Int) (cs : List Int) : List (Int × Int × Int) := if eT b cs = 0 then toksZ b (toL cs) else []
theorem eT_ok {b : Int} {cs : List Int} (h1 : -2047 ≤ b) (h2 : b ≤ 2047) (h3 : inB (-2047) 2047 cs = true) : eT b cs = 0 := if_pos ⟨h1, h2, h3⟩
theorem eT_bad {b : Int} {cs : List Int} (h : ¬ (-2047 ≤ b ∧ b ≤ 2047 ∧ inB (-2047) 2047 cs = true)) : eT b cs = 1 := if_neg h
theorem oT_ok {b : Int} {cs : List Int} (h : eT b cs = 0) : oT b cs = toksZ b (toL cs) := if_pos h
theorem oT_bad {b : Int} {cs : List Int} (h : eT b cs ≠ 0) : oT b cs = [] := if_neg h
theorem toL_length (cs : List Int) : (toL cs).length = 64 := toK_length _ _
theorem fromL_length (cs : List Int) : (fromL cs).length = 64 := fromK_length _ _
theorem toL_mem {cs : List Int} (hc : cs.length = 64) {z : Int} (h : z ∈ toL cs) : z ∈ cs := by
  obtain ⟨k, hk⟩ := List.getElem?_of_mem h
  have h64 : k < 64 := by have := (List.getElem?_eq_some_iff.1 hk).1; rw [toL_length] at this; exact this
  obtain ⟨⟨n, hn⟩, h1, _⟩ := zz_at ⟨k, h64⟩
  rw [toL_at h64 h1] at hk
  injection hk with hk
  have := getD_some (cs := cs) (k := n) (by omega)
  rw [hk] at this
  exact List.mem_of_getElem? this
theorem fromL_mem {cs : List Int} (hc : cs.length = 64) {z : Int} (h : z ∈ fromL cs) : z ∈ cs := by
  obtain ⟨k, hk⟩ := List.getElem?_of_mem h
  have h64 : k < 64 := by have := (List.getElem?_eq_some_iff.1 hk).1; rw [fromL_length] at this; exact this
  rw [fromL_at h64] at hk
  injection hk with hk
  have := getD_some (cs := cs) (k := zz.idxOf (k : Int)) (by have := (zz_back ⟨k, h64⟩).1; simp only at this; omega)
  rw [hk] at this
  exact List.mem_of_getElem? this
theorem toL_in {cs : List Int} (hc : cs.length = 64) (h : inB (-2047) 2047 cs = true) : ∀ z ∈ toL cs, -2047 ≤ z ∧ z ≤ 2047 := fun z hz => inB_mem.1 h z (toL_mem hc hz)
theorem toks_len (b : Int) {zs : List Int} (h : zs.length = 64) : (toksZ b zs).length ≤ 64 := by
  match zs, h with
  | z :: zs, h =>
    have := len_rest zs 0
    rw [List.length_cons] at h
    rw [toksZ, List.length_cons]; omega
end Go.Proofs.Ytddkhkpdbjjboaa

/- The reader of a block's tokens out of any source. No program is named here. -/
namespace Go.Proofs.Ytddkhkpdbjjboaa
set_option linter.unusedVariables false
set_option linter.unusedSimpArgs false
set_option maxRecDepth 100000
section
variable {σ : Type} (step : Bool → σ → Int ⊕ ((Int × Int × Int) × σ))
/-- k numbers out of a source: an error's code, the numbers, the tokens, what is left. -/
def gR : Nat → σ → Int × List Int × List (Int × Int × Int) × Option σ
  | 0, s => (0, [], [], some s)
  | k + 1, s =>
    match step false s with
    | .inl e => (e, [], [], none)
    | .inr (t, s2) =>
      if okT t = true then
        if t.1 = 0 then (0, List.replicate (k + 1) 0, [t], some s2)
        else if k + 1 < farT t then (4, [], [], none)
        else
          let d := gR (k + 1 - farT t) s2
          if d.1 = 0 then (0, List.replicate (farT t - 1) 0 ++ numT t :: d.2.1, t :: d.2.2.1, d.2.2.2) else (d.1, [], [], none)
      else (4, [], [], none)
termination_by k => k
decreasing_by unfold farT; omega
/-- Numbers read so far, and what is still to read. -/
def joinG (pre : List Int) (all : List (Int × Int × Int)) (d : Int × List Int × List (Int × Int × Int) × Option σ) : Int × List Int × List (Int × Int × Int) × Option σ :=
  if d.1 = 0 then (0, pre ++ d.2.1, all ++ d.2.2.1, d.2.2.2) else (d.1, [], [], none)
/-- Are they the tokens of the block? -/
def finG (before : Int) (d : Int × List Int × List (Int × Int × Int) × Option σ) : Int × List Int × List (Int × Int × Int) × Option σ :=
  if d.1 = 0 then (if toksZ before d.2.1 = d.2.2.1 then d else (4, [], [], none)) else d
def firstT (before : Int) (t : Int × Int × Int) : Prop := fitT t = true ∧ t.1 = t.2.1 ∧ -2047 ≤ before + numT t ∧ before + numT t ≤ 2047
instance (before : Int) (t : Int × Int × Int) : Decidable (firstT before t) := by unfold firstT; infer_instance
/-- A block out of a source. -/
def gB (before : Int) (s : σ) : Int × List Int × List (Int × Int × Int) × Option σ :=
  match step true s with
  | .inl e => (e, [], [], none)
  | .inr (t, s2) => if firstT before t then finG before (joinG [before + numT t] [t] (gR step 63 s2)) else (4, [], [], none)
variable {step}
theorem gB_none {before e : Int} {s : σ} (h : step true s = .inl e) : gB step before s = (e, [], [], none) := by unfold gB; rw [h]
theorem gB_bad {before : Int} {t : Int × Int × Int} {s s2 : σ} (h : step true s = .inr (t, s2)) (hf : ¬ firstT before t) : gB step before s = (4, [], [], none) := by unfold gB; rw [h]; simp only []; rw [if_neg hf]
theorem gB_go {before : Int} {t : Int × Int × Int} {s s2 : σ} (h : step true s = .inr (t, s2)) (hf : firstT before t) : gB step before s = finG before (joinG [before + numT t] [t] (gR step 63 s2)) := by unfold gB; rw [h]; simp only []; rw [if_pos hf]
theorem joinG_none (pre : List Int) (all : List (Int × Int × Int)) {k : Nat} {s : σ} {e : Int} (hk : 0 < k) (he : e ≠ 0) (h : step false s = .inl e) : joinG pre all (gR step k s) = (e, [], [], none) := by
  obtain ⟨k, rfl⟩ : ∃ j, k = j + 1 := ⟨k - 1, by omega⟩
  rw [gR, h]; unfold joinG; simp [he]
end
end Go.Proofs.Ytddkhkpdbjjboaa

/- What run.Block answers, in numbers: as RunMath's reader, but that a symbol above 255 is no fault of its own. No program is named here. -/
namespace Go.Proofs.Ytddkhkpdbjjboaa
set_option linter.unusedVariables false
set_option linter.unusedSimpArgs false
set_option maxRecDepth 100000

/-- May a token come behind the first one? -/
def okQ (t : Int × Int × Int) : Bool := fitT t && decide (0 ≤ t.1 ∧ t.1 % 16 = t.2.1 ∧ t.2.1 ≤ 11 ∧ (t.2.1 = 0 → t.1 = 0 ∨ t.1 = 240))
/-- k numbers out of tokens: an error's code, the numbers, how many tokens were taken. -/
def decQ : Nat → List (Int × Int × Int) → Int × List Int × Nat
  | 0, _ => (0, [], 0)
  | _ + 1, [] => (3, [], 0)
  | k + 1, t :: l =>
    if okQ t = true then
      if t.1 = 0 then (0, List.replicate (k + 1) 0, 1)
      else if k + 1 < farT t then (4, [], 0)
      else
        let d := decQ (k + 1 - farT t) l
        if d.1 = 0 then (0, List.replicate (farT t - 1) 0 ++ numT t :: d.2.1, d.2.2 + 1) else (d.1, [], 0)
    else (4, [], 0)
theorem decQ_zero (l : List (Int × Int × Int)) : decQ 0 l = (0, [], 0) := by cases l <;> rfl
theorem okT_okQ {t : Int × Int × Int} (h : okT t = true) : okQ t = true := by
  unfold okT at h
  unfold okQ
  rw [Bool.and_eq_true] at h ⊢
  have h2 := of_decide_eq_true h.2
  exact ⟨h.1, decide_eq_true ⟨h2.1, h2.2.2⟩⟩
theorem okQ_fit {t : Int × Int × Int} (h : okQ t = true) : (0 ≤ t.2.1 ∧ t.2.1 ≤ 12 ∧ 0 ≤ t.2.2 ∧ t.2.2 < pw t.2.1.toNat) ∧ 0 ≤ t.1 ∧ t.1 % 16 = t.2.1 ∧ t.2.1 ≤ 11 ∧ (t.2.1 = 0 → t.1 = 0 ∨ t.1 = 240) := by
  unfold okQ at h
  rw [Bool.and_eq_true] at h
  have h1 := h.1
  unfold fitT at h1
  exact ⟨of_decide_eq_true h1, of_decide_eq_true h.2⟩
theorem okQ_num {t : Int × Int × Int} (h : okQ t = true) : -2047 ≤ numT t ∧ numT t ≤ 2047 := by
  obtain ⟨h5, h6⟩ := okQ_fit h
  have h7 := bk_in h5.2.2.1 h5.2.2.2
  have h8 := pw_mono (a := t.2.1.toNat) (b := 11) (by omega)
  have h9 : pw 11 = 2048 := by decide
  unfold numT; omega
/-- Numbers read so far, and what is still to read: an error's code, all numbers, how many tokens. -/
def joinQ (pre : List Int) (n : Nat) (d : Int × List Int × Nat) : Int × List Int × Nat :=
  if d.1 = 0 then (0, pre ++ d.2.1, n + d.2.2) else (d.1, [], 0)
theorem joinQ_next (pre : List Int) (n : Nat) {k : Nat} {t : Int × Int × Int} {l : List (Int × Int × Int)} (ht : okQ t = true) (h0 : t.1 ≠ 0) (hf : farT t ≤ k) : joinQ pre n (decQ k (t :: l)) = joinQ (pre ++ (List.replicate (farT t - 1) 0 ++ [numT t])) (n + 1) (decQ (k - farT t) l) := by
  have hp : 0 < farT t := by unfold farT; omega
  obtain ⟨k, rfl⟩ : ∃ j, k = j + 1 := ⟨k - 1, by omega⟩
  rw [decQ, if_pos ht, if_neg h0, if_neg (by omega)]
  unfold joinQ
  by_cases e : (decQ (k + 1 - farT t) l).1 = 0
  · simp only [if_pos e, if_true]
    simp only [Prod.mk.injEq, true_and]
    exact ⟨by simp, by omega⟩
  · simp only [if_neg e]
end Go.Proofs.Ytddkhkpdbjjboaa

/- Bits of numbers, the highest first, and bytes: plain mathematics. -/
namespace Go.Proofs.Ytddkhkpdbjjboaa
set_option linter.unusedVariables false
set_option linter.unusedSimpArgs false
set_option maxRecDepth 100000

def bitsN : Nat → Nat → List Bool
  | 0, _ => []
  | w + 1, v => bitsN w (v / 2) ++ [decide (v % 2 = 1)]
def valB (l : List Bool) : Nat := l.foldl (fun n b => 2 * n + b.toNat) 0

theorem bitsN_length (w v : Nat) : (bitsN w v).length = w := by
  induction w generalizing v with
  | zero => rfl
  | succ w ih => simp [bitsN, ih]
theorem valB_snoc (l : List Bool) (b : Bool) : valB (l ++ [b]) = 2 * valB l + b.toNat := by simp [valB]
theorem valB_bitsN (w v : Nat) (h : v < 2 ^ w) : valB (bitsN w v) = v := by
  induction w generalizing v with
  | zero => simp at h; subst h; rfl
  | succ w ih =>
    rw [bitsN, valB_snoc, ih _ (by rw [Nat.pow_succ] at h; omega)]
    rcases Nat.mod_two_eq_zero_or_one v with hv | hv <;> simp [hv] <;> omega
theorem list_snoc {α : Type} (l : List α) (h : l ≠ []) : ∃ a b, l = a ++ [b] := ⟨l.dropLast, l.getLast h, (List.dropLast_concat_getLast h).symm⟩
theorem valB_lt (l : List Bool) : valB l < 2 ^ l.length := by
  suffices H : ∀ n (l : List Bool), l.length = n → valB l < 2 ^ n from H _ l rfl
  intro n
  induction n with
  | zero => intro l hl; have := List.eq_nil_of_length_eq_zero hl; subst this; decide
  | succ n ih =>
    intro l hl
    obtain ⟨a, b, rfl⟩ := list_snoc l (by intro e; subst e; simp at hl)
    have := ih a (by simpa using hl)
    rw [valB_snoc, Nat.pow_succ]
    cases b <;> simp <;> omega
theorem bitsN_valB (l : List Bool) : bitsN l.length (valB l) = l := by
  suffices H : ∀ n (l : List Bool), l.length = n → bitsN n (valB l) = l from H _ l rfl
  intro n
  induction n with
  | zero => intro l hl; have := List.eq_nil_of_length_eq_zero hl; subst this; rfl
  | succ n ih =>
    intro l hl
    obtain ⟨a, b, rfl⟩ := list_snoc l (by intro e; subst e; simp at hl)
    rw [bitsN, valB_snoc]
    have h1 : (2 * valB a + b.toNat) / 2 = valB a := by cases b <;> simp <;> omega
    have h2 : decide ((2 * valB a + b.toNat) % 2 = 1) = b := by cases b <;> simp <;> omega
    rw [h1, h2, ih a (by simpa using hl)]
theorem bitsN_inj {w a b : Nat} (ha : a < 2 ^ w) (hb : b < 2 ^ w) (h : bitsN w a = bitsN w b) : a = b := by
  rw [← valB_bitsN w a ha, ← valB_bitsN w b hb, h]
theorem bitsN_add (a b v : Nat) : bitsN (a + b) v = bitsN a (v / 2 ^ b) ++ bitsN b v := by
  induction b generalizing v with
  | zero => simp [bitsN]
  | succ b ih =>
    rw [← Nat.add_assoc, bitsN, ih, bitsN, List.append_assoc]
    congr 1
    rw [Nat.div_div_eq_div_mul, ← Nat.pow_succ', ]
theorem bitsN_mod (b v : Nat) : bitsN b (v % 2 ^ b) = bitsN b v := by
  induction b generalizing v with
  | zero => rfl
  | succ b ih =>
    rw [bitsN, bitsN]
    have h1 : v % 2 ^ (b + 1) / 2 = (v / 2) % 2 ^ b := by
      rw [Nat.pow_succ', Nat.mod_mul_right_div_self]
    have h2 : v % 2 ^ (b + 1) % 2 = v % 2 := Nat.mod_mod_of_dvd _ ⟨2 ^ b, by rw [Nat.pow_succ']⟩
    rw [h1, h2, ih]
/-- Two fields one behind the other. -/
theorem bitsN_join (a b p v : Nat) (hv : v < 2 ^ b) : bitsN (a + b) (p * 2 ^ b + v) = bitsN a p ++ bitsN b v := by
  have h1 : (p * 2 ^ b + v) / 2 ^ b = p := by
    rw [Nat.add_comm, Nat.add_mul_div_right _ _ (Nat.two_pow_pos b), Nat.div_eq_of_lt hv, Nat.zero_add]
  have h2 : (p * 2 ^ b + v) % 2 ^ b = v := by
    rw [Nat.add_comm, Nat.add_mul_mod_self_right, Nat.mod_eq_of_lt hv]
  rw [bitsN_add, h1, ← bitsN_mod b (p * 2 ^ b + v), h2]
theorem bitsN_ones (b : Nat) : bitsN b (2 ^ b - 1) = List.replicate b true := by
  induction b with
  | zero => rfl
  | succ b ih =>
    have hp := Nat.two_pow_pos b
    rw [bitsN, List.replicate_succ', Nat.pow_succ]
    have h1 : (2 ^ b * 2 - 1) / 2 = 2 ^ b - 1 := by omega
    have h2 : (2 ^ b * 2 - 1) % 2 = 1 := by omega
    rw [h1, h2, ih]; rfl

def unpack (bs : List Int) : List Bool := bs.flatMap fun x => bitsN 8 x.toNat
def Bytes (bs : List Int) : Prop := ∀ x ∈ bs, 0 ≤ x ∧ x ≤ 255
def fieldBits (l : List (Int × Int)) : List Bool := l.flatMap fun f => bitsN f.1.toNat f.2.toNat
def okF (f : Int × Int) : Prop := (0 ≤ f.1 ∧ f.1 ≤ 24) ∧ 0 ≤ f.2 ∧ f.2 < 2 ^ f.1.toNat
instance (f : Int × Int) : Decidable (okF f) := by unfold okF; infer_instance

theorem unpack_nil : unpack [] = [] := rfl
theorem unpack_append (a b : List Int) : unpack (a ++ b) = unpack a ++ unpack b := by simp [unpack]
theorem unpack_snoc (a : List Int) (x : Int) : unpack (a ++ [x]) = unpack a ++ bitsN 8 x.toNat := by simp [unpack]
theorem unpack_cons (x : Int) (a : List Int) : unpack (x :: a) = bitsN 8 x.toNat ++ unpack a := by simp [unpack]
theorem unpack_length (a : List Int) : (unpack a).length = 8 * a.length := by
  induction a with
  | nil => rfl
  | cons x a ih => rw [unpack_cons, List.length_append, bitsN_length, ih, List.length_cons]; omega
theorem Bytes.snoc {a : List Int} {x : Int} (h : Bytes a) (hx : 0 ≤ x ∧ x ≤ 255) : Bytes (a ++ [x]) := by
  intro y hy
  rcases List.mem_append.1 hy with hy | hy
  · exact h y hy
  · simp at hy; subst hy; exact hx
theorem unpack_inj : ∀ {a b : List Int}, Bytes a → Bytes b → unpack a = unpack b → a = b
  | [], [], _, _, _ => rfl
  | [], y :: b, _, _, h => by have := congrArg List.length h; simp [unpack_length] at this
  | x :: a, [], _, _, h => by have := congrArg List.length h; simp [unpack_length] at this
  | x :: a, y :: b, ha, hb, h => by
    rw [unpack_cons, unpack_cons] at h
    obtain ⟨h1, h2⟩ := List.append_inj h (by rw [bitsN_length, bitsN_length])
    have hx := ha x (by simp)
    have hy := hb y (by simp)
    have e := bitsN_inj (w := 8) (by omega) (by omega) h1
    have := unpack_inj (fun z hz => ha z (by simp [hz])) (fun z hz => hb z (by simp [hz])) h2
    rw [this]; congr 1; omega
theorem fieldBits_snoc (a : List (Int × Int)) (f : Int × Int) : fieldBits (a ++ [f]) = fieldBits a ++ bitsN f.1.toNat f.2.toNat := by simp [fieldBits]
theorem fieldBits_cons (f : Int × Int) (a : List (Int × Int)) : fieldBits (f :: a) = bitsN f.1.toNat f.2.toNat ++ fieldBits a := by simp [fieldBits]

/-- What Write answers: the error's number. -/
def writeErr (l : List (Int × Int)) : Int := if 20000 < l.length then 2 else if ∀ f ∈ l, okF f then 0 else 1
/-- What Write makes: whole bytes, the fields' bits, then ones. -/
def Written (l : List (Int × Int)) (out : List Int) : Prop :=
  (writeErr l ≠ 0 → out = []) ∧ (writeErr l = 0 → Bytes out ∧ ∃ p, p < 8 ∧ unpack out = fieldBits l ++ List.replicate p true)
theorem Written.same {l : List (Int × Int)} {a b : List Int} (ha : Written l a) (hb : Written l b) : a = b := by
  by_cases h : writeErr l = 0
  · obtain ⟨ba, p, hp, ea⟩ := ha.2 h
    obtain ⟨bb, q, hq, eb⟩ := hb.2 h
    have h1 := congrArg List.length ea
    have h2 := congrArg List.length eb
    simp [unpack_length] at h1 h2
    have : p = q := by omega
    subst this
    exact unpack_inj ba bb (ea.trans eb.symm)
  · rw [ha.1 h, hb.1 h]

/-- Numbers of given widths off a row of bits. -/
def readB : List Bool → List Int → List Int
  | _, [] => []
  | bs, w :: ws => (valB (bs.take w.toNat) : Int) :: readB (bs.drop w.toNat) ws
def sumW (ws : List Int) : Int := ws.foldr (· + ·) 0
end Go.Proofs.Ytddkhkpdbjjboaa

/- Canonical prefix codes in numbers: which counts have codewords, what these are, that none begins another. No program is named here. -/
namespace Go.Proofs.Ytddkhkpdbjjboaa
set_option linter.unusedVariables false
set_option linter.unusedSimpArgs false
set_option maxRecDepth 100000

/-- From words of k + 1 bits on, c being the next code: the lengths and codes. -/
def codesFrom : Nat → Nat → List Nat → Option (List (Nat × Nat))
  | _, _, [] => some []
  | k, c, n :: ns => if c + n ≤ 2 ^ (k + 1) - 1 then (codesFrom (k + 1) (2 * (c + n)) ns).map ((List.range n).map (fun i => (k + 1, c + i)) ++ ·) else none
def codes (ns : List Nat) : Option (List (Nat × Nat)) := codesFrom 0 0 ns

/-- What has been handed out, and what is to come. -/
def CInv (ns : List Nat) (k c : Nat) (acc : List (Nat × Nat)) : Prop := codes ns = (codesFrom k c (ns.drop k)).map (acc ++ ·) ∧ c < 2 ^ (k + 1) - 1 ∧ acc.length = (ns.take k).sum
theorem CInv.start (ns : List Nat) : CInv ns 0 0 [] := ⟨by show codesFrom 0 0 ns = _; rw [List.drop_zero]; cases h : codesFrom 0 0 ns <;> simp, by decide, rfl⟩
def wordsTo (k c i : Nat) : List (Nat × Nat) := (List.range i).map fun j => (k + 1, c + j)
theorem wordsTo_length (k c i : Nat) : (wordsTo k c i).length = i := by simp [wordsTo]
theorem wordsTo_snoc (k c i : Nat) : wordsTo k c (i + 1) = wordsTo k c i ++ [(k + 1, c + i)] := by simp [wordsTo, List.range_succ]
theorem drop_nat {ns : List Nat} {k n : Nat} (h : ns[k]? = some n) : ns.drop k = n :: ns.drop (k + 1) := by
  obtain ⟨hk, e⟩ := List.getElem?_eq_some_iff.1 h
  rw [List.drop_eq_getElem_cons hk, e]
theorem CInv.fail {ns : List Nat} {k c n : Nat} {acc : List (Nat × Nat)} (h : CInv ns k c acc) (hn : ns[k]? = some n) {i : Nat} (hi : i < n) (hc : 2 ^ (k + 1) - 1 ≤ c + i) : codes ns = none := by
  rw [h.1, drop_nat hn]
  unfold codesFrom
  rw [if_neg (by omega)]
  rfl
theorem take_sum {ns : List Nat} {k n : Nat} (h : ns[k]? = some n) : (ns.take (k + 1)).sum = (ns.take k).sum + n := by
  rw [List.take_add_one, h]; simp [List.sum_append]
theorem CInv.next {ns : List Nat} {k c n : Nat} {acc : List (Nat × Nat)} (h : CInv ns k c acc) (hn : ns[k]? = some n) (hc : c + n ≤ 2 ^ (k + 1) - 1) : CInv ns (k + 1) (2 * (c + n)) (acc ++ wordsTo k c n) := by
  refine ⟨?_, ?_, ?_⟩
  · rw [h.1, drop_nat hn]
    conv => lhs; unfold codesFrom
    rw [if_pos hc]
    cases codesFrom (k + 1) (2 * (c + n)) (ns.drop (k + 1)) <;> simp [wordsTo]
  · have : 2 ^ (k + 1 + 1) = 2 * 2 ^ (k + 1) := by rw [Nat.pow_succ]; omega
    have h2 : 0 < 2 ^ (k + 1) := Nat.pow_pos (by omega)
    omega
  · rw [List.length_append, h.2.2, wordsTo_length, take_sum hn]
theorem CInv.done {ns : List Nat} {c : Nat} {acc : List (Nat × Nat)} (h : CInv ns ns.length c acc) : codes ns = some acc := by
  rw [h.1, List.drop_length]
  simp [codesFrom]
theorem codes_length {ns : List Nat} {l : List (Nat × Nat)} (h : codes ns = some l) : l.length = ns.sum := by
  have key : ∀ (ns : List Nat) (k c : Nat) (l : List (Nat × Nat)), codesFrom k c ns = some l → l.length = ns.sum := by
    intro ns
    induction ns with
    | nil => intro k c l h; simp [codesFrom] at h; subst h; rfl
    | cons n ns ih =>
      intro k c l h
      unfold codesFrom at h
      split at h
      · cases hq : codesFrom (k + 1) (2 * (c + n)) ns with
        | none => simp [hq] at h
        | some m => simp [hq] at h; subst h; simp [ih _ _ _ hq]
      · cases h
  exact key ns 0 0 l h

/-- Each word lies right behind the one ahead; all of them leave room. -/
def Kr : Nat → List (Nat × Nat) → Prop
  | R, [] => R < 65536
  | R, p :: l => 1 ≤ p.1 ∧ p.1 ≤ 16 ∧ p.2 * 2 ^ (16 - p.1) = R ∧ (∀ q ∈ l, p.1 ≤ q.1) ∧ Kr (R + 2 ^ (16 - p.1)) l
theorem Kr.level {k : Nat} (hk : k < 16) (rest : List (Nat × Nat)) (hlong : ∀ q ∈ rest, k + 1 ≤ q.1) : ∀ (n c : Nat), Kr ((c + n) * 2 ^ (15 - k)) rest → Kr (c * 2 ^ (15 - k)) (wordsTo k c n ++ rest) := by
  intro n
  induction n with
  | zero => intro c h; simpa [wordsTo] using h
  | succ n ih =>
    intro c h
    have e : wordsTo k c (n + 1) = (k + 1, c) :: wordsTo k (c + 1) n := by
      simp only [wordsTo, List.range_succ_eq_map, List.map_cons, List.map_map, Nat.add_zero]
      congr 1
      apply List.map_congr_left
      intro j _
      simp only [Function.comp_apply, Prod.mk.injEq, true_and]
      omega
    rw [e, List.cons_append]
    refine ⟨by simp, by simp; omega, by show c * 2 ^ (16 - (k + 1)) = _; rw [show 16 - (k + 1) = 15 - k by omega], ?_, ?_⟩
    · intro q hq
      rcases List.mem_append.1 hq with hq | hq
      · simp [wordsTo] at hq
        obtain ⟨_, _, rfl⟩ := hq
        simp
      · exact hlong q hq
    · have h2 := ih (c + 1) (by rw [show c + 1 + n = c + (n + 1) by omega]; exact h)
      have e2 : c * 2 ^ (15 - k) + 2 ^ (16 - (k + 1)) = (c + 1) * 2 ^ (15 - k) := by rw [Nat.add_mul, Nat.one_mul, show 16 - (k + 1) = 15 - k by omega]
      simp only
      rw [e2]
      exact h2
theorem codesFrom_kr : ∀ (ns : List Nat) (k c : Nat) (l : List (Nat × Nat)), k + ns.length = 16 → c < 2 ^ (k + 1) - 1 → codesFrom k c ns = some l → Kr (if k < 16 then c * 2 ^ (15 - k) else c / 2) l ∧ (∀ q ∈ l, k + 1 ≤ q.1) := by
  intro ns
  induction ns with
  | nil =>
    intro k c l hk hc h
    simp at hk
    subst hk
    simp [codesFrom] at h
    subst h
    refine ⟨?_, by simp⟩
    show _ < 65536
    simp only [Nat.lt_irrefl, if_false]
    have : 2 ^ (16 + 1) = 131072 := by decide
    omega
  | cons n ns ih =>
    intro k c l hk hc h
    simp at hk
    have hk16 : k < 16 := by omega
    unfold codesFrom at h
    split at h
    · rename_i hcn
      cases hq : codesFrom (k + 1) (2 * (c + n)) ns with
      | none => simp [hq] at h
      | some m =>
        simp [hq] at h
        subst h
        have hp : 2 ^ (k + 1 + 1) = 2 * 2 ^ (k + 1) := by rw [Nat.pow_succ]; omega
        have h0 : 0 < 2 ^ (k + 1) := Nat.pow_pos (by omega)
        obtain ⟨h1, h2⟩ := ih (k + 1) (2 * (c + n)) m (by omega) (by omega) hq
        have hR : (if k + 1 < 16 then 2 * (c + n) * 2 ^ (15 - (k + 1)) else 2 * (c + n) / 2) = (c + n) * 2 ^ (15 - k) := by
          split
          · rename_i h15
            rw [show 15 - k = (15 - (k + 1)) + 1 by omega, Nat.pow_succ]
            rw [Nat.mul_comm 2, Nat.mul_assoc, Nat.mul_comm 2]
          · have : k = 15 := by omega
            subst this
            simp
        rw [hR] at h1
        rw [if_pos hk16]
        refine ⟨Kr.level hk16 m (fun q hq' => by have := h2 q hq'; omega) n c h1, ?_⟩
        intro q hq'
        rcases List.mem_append.1 hq' with hq' | hq'
        · simp at hq'
          obtain ⟨_, _, rfl⟩ := hq'
          simp
        · have := h2 q hq'; omega
    · cases h
theorem codes_kr {ns : List Nat} {l : List (Nat × Nat)} (hn : ns.length = 16) (h : codes ns = some l) : Kr 0 l := by
  have := (codesFrom_kr ns 0 0 l (by omega) (by decide) h).1
  simpa using this
/-! ### no word begins another one -/
theorem Kr.lt {R : Nat} {l : List (Nat × Nat)} (h : Kr R l) : R < 65536 := by
  induction l generalizing R with
  | nil => exact h
  | cons p l ih => exact Nat.lt_of_le_of_lt (Nat.le_add_right _ _) (ih h.2.2.2.2)
theorem Kr.ge {R : Nat} {l : List (Nat × Nat)} (h : Kr R l) : ∀ p ∈ l, 1 ≤ p.1 ∧ p.1 ≤ 16 ∧ R ≤ p.2 * 2 ^ (16 - p.1) ∧ p.2 * 2 ^ (16 - p.1) + 2 ^ (16 - p.1) < 65536 := by
  induction l generalizing R with
  | nil => simp
  | cons q l ih =>
    obtain ⟨h1, h2, h3, h4, h5⟩ := h
    intro p hp
    rcases List.mem_cons.1 hp with rfl | hp
    · exact ⟨h1, h2, by omega, by have := h5.lt; omega⟩
    · have := ih h5 p hp
      exact ⟨this.1, this.2.1, Nat.le_trans (Nat.le_add_right _ _) this.2.2.1, this.2.2.2⟩
theorem Kr.small {R : Nat} {l : List (Nat × Nat)} (h : Kr R l) {p : Nat × Nat} (hp : p ∈ l) : p.2 + 1 < 2 ^ p.1 := by
  obtain ⟨h1, h2, h3, h4⟩ := h.ge p hp
  have e : 2 ^ p.1 * 2 ^ (16 - p.1) = 65536 := by rw [← Nat.pow_add, show p.1 + (16 - p.1) = 16 by omega]
  rcases Nat.lt_or_ge (p.2 + 1) (2 ^ p.1) with h5 | h5
  · exact h5
  · have := Nat.mul_le_mul_right (2 ^ (16 - p.1)) h5
    rw [Nat.add_mul, e] at this
    omega
/-- Of two words the later one lies behind the earlier one. -/
theorem Kr.apart {R : Nat} {l : List (Nat × Nat)} (h : Kr R l) : l.Pairwise fun p q => p.1 ≤ q.1 ∧ p.2 * 2 ^ (16 - p.1) + 2 ^ (16 - p.1) ≤ q.2 * 2 ^ (16 - q.1) := by
  induction l generalizing R with
  | nil => exact .nil
  | cons p l ih =>
    obtain ⟨h1, h2, h3, h4, h5⟩ := h
    refine List.pairwise_cons.2 ⟨fun q hq => ⟨h4 q hq, ?_⟩, ih h5⟩
    have := (h5.ge q hq).2.2.1
    omega
theorem shift_ne {a b c d : Nat} (hab : a ≤ b) (hb : b ≤ 16) (h : c * 2 ^ (16 - a) + 2 ^ (16 - a) ≤ d * 2 ^ (16 - b)) : c < d / 2 ^ (b - a) := by
  have e : 2 ^ (16 - a) = 2 ^ (b - a) * 2 ^ (16 - b) := by rw [← Nat.pow_add]; congr 1; omega
  have h0 : 0 < 2 ^ (16 - b) := Nat.pow_pos (by omega)
  have h1 : 0 < 2 ^ (b - a) := Nat.pow_pos (by omega)
  rw [e] at h
  have h2 : (c + 1) * 2 ^ (b - a) * 2 ^ (16 - b) ≤ d * 2 ^ (16 - b) := by
    rw [Nat.add_mul, Nat.add_mul, Nat.one_mul, Nat.mul_assoc]; exact h
  have h3 := Nat.le_of_mul_le_mul_right h2 h0
  have := (Nat.le_div_iff_mul_le h1).2 h3
  omega
/-- No word begins another one. -/
theorem Kr.noFront {R : Nat} {l : List (Nat × Nat)} (h : Kr R l) {i k : Nat} {p q : Nat × Nat} (hp : l[i]? = some p) (hq : l[k]? = some q) (hne : i ≠ k) (hle : p.1 ≤ q.1) : q.2 / 2 ^ (q.1 - p.1) ≠ p.2 := by
  have ha := List.pairwise_iff_getElem.1 h.apart
  obtain ⟨hi, rfl⟩ := List.getElem?_eq_some_iff.1 hp
  obtain ⟨hk, rfl⟩ := List.getElem?_eq_some_iff.1 hq
  rcases Nat.lt_or_gt_of_ne hne with hlt | hlt
  · have h1 := ha i k hi hk hlt
    have h2 := (h.ge _ (List.getElem_mem hk)).2.1
    have := shift_ne h1.1 h2 h1.2
    omega
  · have h1 := ha k i hk hi hlt
    have h2 := (h.ge _ (List.getElem_mem hi)).2.1
    have h3 : (l[i]).1 = (l[k]).1 := by omega
    have := shift_ne h1.1 h2 h1.2
    rw [h3] at this ⊢
    simp at this ⊢
    omega
/-- The bits of one begin those of another: they are one. -/
theorem Kr.bits {R : Nat} {l : List (Nat × Nat)} (h : Kr R l) {i k : Nat} {p q : Nat × Nat} (hp : l[i]? = some p) (hq : l[k]? = some q) {b : List Bool} (h1 : bitsN p.1 p.2 <+: b) (h2 : bitsN q.1 q.2 <+: b) : i = k := by
  have key : ∀ {i k : Nat} {p q : Nat × Nat}, l[i]? = some p → l[k]? = some q → bitsN p.1 p.2 <+: b → bitsN q.1 q.2 <+: b → p.1 ≤ q.1 → i = k := by
    intro i k p q hp hq h1 h2 hle
    refine Classical.byContradiction fun hne => h.noFront hp hq hne hle ?_
    have h3 : bitsN p.1 p.2 <+: bitsN q.1 q.2 := List.prefix_of_prefix_length_le h1 h2 (by rw [bitsN_length, bitsN_length]; exact hle)
    have e : bitsN q.1 q.2 = bitsN p.1 (q.2 / 2 ^ (q.1 - p.1)) ++ bitsN (q.1 - p.1) q.2 := by
      rw [← bitsN_add]; congr 1; omega
    rw [e] at h3
    have h4 := List.prefix_iff_eq_take.1 h3
    rw [List.take_left' (by rw [bitsN_length, bitsN_length])] at h4
    have hpm := h.small (List.mem_of_getElem? hp)
    have hqm := h.small (List.mem_of_getElem? hq)
    refine (bitsN_inj (by omega) ?_ h4).symm
    have h0 : 0 < 2 ^ (q.1 - p.1) := Nat.pow_pos (by omega)
    rw [Nat.div_lt_iff_lt_mul h0, ← Nat.pow_add, show p.1 + (q.1 - p.1) = q.1 by omega]
    omega
  rcases Nat.le_total p.1 q.1 with hle | hle
  · exact key hp hq h1 h2 hle
  · exact (key hq hp h2 h1 hle).symm
end Go.Proofs.Ytddkhkpdbjjboaa

/- A table's value, and whether its counts fit: the contract of table.countsMatch. -/
namespace Go.Proofs.Ytddkhkpdbjjboaa
open Go.RowKit
set_option linter.unusedVariables false
set_option linter.unusedSimpArgs false
set_option maxRecDepth 100000

/-- The cells of a table. -/
def tabCells (cs : List Int) (A : Option Addr) (n c : Nat) : List Value := ints .i64 cs ++ [.slice A n c]
/-- A table's value. -/
abbrev tabV (cs : List Int) (A : Option Addr) (n c : Nat) : Value := .agg (tabCells cs A n c).toArray
theorem tabCells_last {cs : List Int} {A : Option Addr} {n c : Nat} (h : cs.length = 16) : (tabCells cs A n c)[16]? = some (.slice A n c) := by
  unfold tabCells
  rw [List.getElem?_append_right (by rw [ints_length]; omega), ints_length, h]; rfl
theorem tabCells_length {cs : List Int} {A : Option Addr} {n c : Nat} (h : cs.length = 16) : (tabCells cs A n c).length = 17 := by
  simp [tabCells, ints_length, h]
theorem tabCells_one {cs : List Int} {A : Option Addr} {n c : Nat} : ∀ u ∈ tabCells cs A n c, u.oneCell' = true := by
  intro u hu
  rcases List.mem_append.1 hu with hu | hu
  · exact ints_one u hu
  · simp at hu; subst hu; rfl

theorem info_tab : (Try.prog.info? 25).map (·.size) = some 17 := by kernel_rfl
theorem info_arr : (Try.prog.info? 22).map (·.size) = some 16 := by kernel_rfl
theorem info_int1 : (Try.prog.info? 3).map (·.size) = some 1 := by kernel_rfl

/-- The counts are numbers whose sum fits the symbols. -/
def Good (cs : List Int) (n : Nat) : Prop := (∀ x ∈ cs, 0 ≤ x) ∧ sumW cs ≤ 256 ∧ sumW cs = n
instance (cs : List Int) (n : Nat) : Decidable (Good cs n) := by unfold Good; infer_instance
def goodB (cs : List Int) (n : Nat) : Bool := decide (Good cs n)
theorem goodB_no {cs : List Int} {n : Nat} (h : ¬ Good cs n) : goodB cs n = false := decide_eq_false h
theorem goodB_iff {cs : List Int} {n : Nat} : goodB cs n = true ↔ Good cs n := decide_eq_true_iff
theorem sumW_app (a b : List Int) : sumW (a ++ b) = sumW a + sumW b := by
  induction a with
  | nil => simp [sumW]
  | cons x a ih => simp [sumW] at ih ⊢; omega
theorem sumW_pos (ws : List Int) (h : ∀ x ∈ ws, 0 ≤ x) : 0 ≤ sumW ws := by
  induction ws with
  | nil => simp [sumW]
  | cons x a ih => have h1 := h x (by simp); have h2 := ih fun y hy => h y (by simp [hy]); simp [sumW] at h2 ⊢; omega
theorem good_stop {cs : List Int} {n k : Nat} {x : Int} (hx : cs[k]? = some x) (h : x < 0 ∨ 256 - sumW (cs.take k) < x) : ¬ Good cs n := by
  rintro ⟨h1, h2, h3⟩
  have h4 := h1 x (List.mem_of_getElem? hx)
  have e : sumW cs = sumW (cs.take k) + x + sumW (cs.drop (k + 1)) := by
    conv => lhs; rw [← List.take_append_drop (k + 1) cs, sumW_app, take_snoc hx, sumW_app]
    simp [sumW]
  have h5 := sumW_pos (cs.drop (k + 1)) fun y hy => h1 y (List.mem_of_mem_drop hy)
  omega
theorem sumW_take {cs : List Int} {k : Nat} {x : Int} (hx : cs[k]? = some x) : sumW (cs.take (k + 1)) = sumW (cs.take k) + x := by
  rw [take_snoc hx, sumW_app]; simp [sumW]

theorem mem_snoc {α : Type} {p : α → Prop} {l : List α} {k : Nat} {x : α} (hx : l[k]? = some x) (h : ∀ y ∈ l.take k, p y) (h2 : p x) : ∀ y ∈ l.take (k + 1), p y := by
  intro y hy
  rw [take_snoc hx] at hy
  rcases List.mem_append.1 hy with hy | hy
  · exact h y hy
  · simp at hy; subst hy; exact h2
set_option maxHeartbeats 1000000 in
theorem countsMatch_any (cs : List Int) (A : Option Addr) (n c : Nat) (w : World) (hcs : cs.length = 16) (hn : n ≤ maxLen) (hb : ∀ x ∈ cs, -9223372036854775808 ≤ x ∧ x ≤ 9223372036854775807) :
    Calls Try.prog 64 #[tabV cs A n c] w fun e w' => e = .returned (.bool (goodB cs n)) ∧ Below w.heap.size w w' := by
  have h16 : (tabCells cs A n c)[16]? = some (.slice A n c) := tabCells_last hcs
  have hlt : w.heap.size < (w.alloc (.cells (tabCells cs A n c).toArray 25)).heap.size := by simp
  have hr : Hid (∀ xs, xs = tabCells cs A n c → (w.alloc (.cells xs.toArray 25)).rangeAt w.heap.size 0 (ints .i64 cs)) := by
    show ∀ xs, _
    intro xs e
    subst e
    exact range_left (range_new w _ _)
  unfold maxLen at hn
  have Hb := veil hb
  have Hcs := veil hcs
  have he : Hid (∀ xs, xs = tabCells cs A n c → xs = tabCells cs A n c) := fun _ h => h
  clear hb hcs
  obtain ⟨xs, hxs⟩ : ∃ xs, xs = tabCells cs A n c := ⟨_, rfl⟩
  have Hr := veil (hr.out xs hxs)
  unfold tabV
  rw [← hxs] at h16 ⊢
  clear hr hxs he hlt
  go_enter Try.func64, Try.ntmps64
  go_wp2_with (first
    | (refine wpList_load_mid rfl 22 (.tmp 6) rfl w.heap.size 0 rfl (ints .i64 cs) _ Hr.out Try.underlying22 rfl (by rw [ints_length, Hcs.out]; exact info_arr) ?_)
    | fail)
  go_loopg [3, 5, 8] 16 (fun gk s x i wr => ∃ k : Nat, gk = 16 - k ∧ k ≤ 16 ∧ i = .int .i64 k ∧ (∃ z : Int, s = .int .i64 z ∧ Hid (z = sumW (cs.take k)) ∧ 0 ≤ z ∧ z ≤ 256) ∧ Hid (∀ x ∈ cs.take k, 0 ≤ x) ∧ wr.cell? ⟨w.heap.size, 16, none⟩ = some (.slice A n c) ∧ Below w.heap.size w wr)
  case atStart => exact ⟨0, rfl, by omega, rfl, ⟨0, rfl, veil rfl, by omega, by omega⟩, veil (by simp), by rw [World.cell?_alloc_at _ _ _ _ rfl]; simpa using h16, below1 _ _⟩
  case round =>
    obtain ⟨k, rfl, hk, rfl, ⟨z, rfl, Hz, hz0, hz1⟩, Hp, h17, hbel⟩ := hrel
    by_cases hlt : k < 16
    · obtain ⟨x, hx⟩ := some_at (xs := cs) (j := k) (by rw [Hcs.out]; omega)
      have hxb := Hb.out x (List.mem_of_getElem? hx)
      have Hx := veil hx; clear hx
      by_cases h0 : x < 0
      · go_wp2_with (first
          | (refine wpList_index_arr rfl 22 (.tmp 7) (.tmp 8) rfl 16 3 .i64 Try.underlying22 Try.underlying3 info_int1 (ints .i64 cs) rfl .i64 k rfl (.int .i64 x) hlt (ints_at Hx.out) ?_)
          | fail)
        go_ret
        exact ⟨ret_bool (goodB_no (good_stop (n := n) Hx.out (.inl h0))).symm, hbel⟩
      · by_cases h1 : 256 - z < x
        · go_wp2_with (first
            | (refine wpList_index_arr rfl 22 (.tmp 7) (.tmp 8) rfl 16 3 .i64 Try.underlying22 Try.underlying3 info_int1 (ints .i64 cs) rfl .i64 k rfl (.int .i64 x) hlt (ints_at Hx.out) ?_)
            | fail)
          go_ret
          exact ⟨ret_bool (goodB_no (good_stop (n := n) Hx.out (.inr (by rw [← Hz.out]; exact h1)))).symm, hbel⟩
        · have hw : IntKind.i64.wrap (z + x) = z + x := by rw [IntKind.wrap_i64]; omega
          go_wp2_with (first
            | (refine wpList_index_arr rfl 22 (.tmp 7) (.tmp 8) rfl 16 3 .i64 Try.underlying22 Try.underlying3 info_int1 (ints .i64 cs) rfl .i64 k rfl (.int .i64 x) hlt (ints_at Hx.out) ?_)
            | fail)
          go_roundg (16 - (k + 1))
          case rel => exact ⟨k + 1, rfl, by omega, by go_num, ⟨z + x, by go_num, veil (by rw [sumW_take Hx.out, ← Hz.out]), by omega, by omega⟩, veil (mem_snoc Hx.out Hp.out (by omega)), h17, hbel⟩
          case measure => omega
    · obtain rfl : k = 16 := by omega
      go_wp2
      go_ret
      refine ⟨ret_bool ?_, hbel⟩
      rw [Bool.eq_iff_iff, goodB_iff]
      have e : cs.take 16 = cs := by rw [List.take_of_length_le]; rw [Hcs.out]; omega
      have h3 := Hp.out
      have h4 := Hz.out
      rw [e] at h3 h4
      simp only [beq_iff_eq]
      constructor
      · intro h5; exact ⟨h3, by omega, by omega⟩
      · intro h5; have := h5.2.2; omega
end Go.Proofs.Ytddkhkpdbjjboaa

/- table.assign: its contract. -/
namespace Go.Proofs.Ytddkhkpdbjjboaa
open Go.RowKit
set_option linter.unusedVariables false
set_option linter.unusedSimpArgs false
set_option maxRecDepth 100000

theorem elem_word : ElemOf Try.prog 120 138 3 24 := .mk' (z := .agg #[.int .i64 0, .int .i64 0, .int .i64 0]) Try.underlying120 (by kernel_rfl) rfl (by omega)
theorem info_word : (Try.prog.info? 138).map (fun i => (i.zero, i.size, i.bytes)) = some (some (.agg #[.int .i64 0, .int .i64 0, .int .i64 0]), 3, 24) := by kernel_rfl
theorem run_make_words (n : Nat) (h : n ≤ 1099511627776) (u : World) : ∃ cur, (Instr.makeSlice 120 (.int .i64 0) (.int .i64 (n : Int))).run Try.prog u =
    .ok (.slice (some ⟨u.heap.size, 0, none⟩) 0 n) (u.alloc (.cells cur 138)) ∧ cur.size = n * 3 := by
  obtain ⟨i0, hi, hz0, hz1, hz2⟩ := info_parts info_word
  have h := run_make (P := Try.prog) u 120 138 i0 (.agg #[.int .i64 0, .int .i64 0, .int .i64 0]) Try.underlying120 hi hz0 .i64 .i64 0 n (by omega) (by omega) (by rw [hz2]; omega) (by omega)
  exact ⟨_, h, by simp [madeCells, hz1, Value.cells]⟩
abbrev wordRow (v : Value) (l : List (Int × Nat × Nat)) : Row := ⟨138, 3, v, l.length, tripleCells l⟩
/-- In a walk: append of one word just laid onto the first of the rows. -/
theorem wpList_ownT {ops : Array Oper} {rest : List Oper} {o : Oper} {a : Act} {Q : Exit → Act → World → Prop} (w0 : World) (hgd : Region.wanted o (yielded ops a.tmps) = true) (s x : Operand)
    (ho : o.op = .call { callee := .builtin .append, args := #[s, x], argTypes := #[120, 120] })
    (B : Nat) (v : Value) (l : List (Int × Nat × Nat)) (rs : List Row) (hs : a.eval s = v) (HO : Owns B (wordRow v l :: rs) w0) (f0 f1 f2 : Int) (n c : Nat) (hn : f1 = n) (hc : f2 = c) (hx : a.eval x = .slice (some ⟨w0.heap.size, 0, none⟩) 1 1)
    (h63 : l.length + 1 ≤ 1048576)
    (h : ∀ v' w', Owns B (wordRow v' (l ++ [(f0, n, c)]) :: rs) w' → Below B w0 w' → w0.heap.size < w'.heap.size → wpList Try.prog ops Q rest (a.put o.dst v') w') : wpList Try.prog ops Q (o :: rest) a (w0.alloc (.cells #[.int .i64 f0, .int .i64 f1, .int .i64 f2] 138)) := by
  subst hn hc
  have e : (⟨138, 3, v, l.length + 1, tripleCells l ++ tripleCells [(f0, n, c)]⟩ : Row) = wordRow v (l ++ [(f0, n, c)]) := by simp [wordRow, tripleCells]
  refine wpList_ownV _ hgd s x _ ho B 138 3 24 elem_word v l.length (tripleCells l) rs hs (HO.alloc _) (w0.heap.size + 1) _ 1 1 (tripleCells [(f0, n, c)]) hx (Seen.new w0 (tripleCells [(f0, n, c)]) _ _ (Nat.lt_succ_self _)) (by rw [tripleCells_length]; rfl) tripleCells_one (by unfold maxLen; omega) (by omega) ?_
  intro v' w' h2 h3
  have := h3.size
  refine h v' w' ?_ (((Below.refl _ _).alloc HO.base _).trans h3) (by simp at this; omega)
  have e : (⟨138, 3, v', l.length + 1, tripleCells l ++ tripleCells [(f0, n, c)]⟩ : Row) = wordRow v' (l ++ [(f0, n, c)]) := by simp [wordRow, tripleCells]
  rw [← e]
  exact h2

/-- Words out of symbols and codes. -/
def mkWords (syms : List Int) (l : List (Nat × Nat)) : List (Int × Nat × Nat) := List.zipWith (fun s p => (s, p.1, p.2)) syms l
theorem mkWords_length (syms : List Int) (l : List (Nat × Nat)) (h : l.length ≤ syms.length) : (mkWords syms l).length = l.length := by simp [mkWords]; omega
theorem mkWords_nil (syms : List Int) : mkWords syms [] = [] := by simp [mkWords]
theorem mkWords_snoc {syms : List Int} {l : List (Nat × Nat)} {s : Int} (h : syms[l.length]? = some s) (p : Nat × Nat) : mkWords syms (l ++ [p]) = mkWords syms l ++ [(s, p.1, p.2)] := by
  have hl := (List.getElem?_eq_some_iff.1 h).1
  have e : syms = syms.take l.length ++ s :: syms.drop (l.length + 1) := by
    rw [← List.singleton_append, ← List.append_assoc, ← take_snoc h, List.take_append_drop]
  have h1 : ∀ m : List (Nat × Nat), m.length = l.length → mkWords syms m = mkWords (syms.take l.length) m := by
    intro m hm
    unfold mkWords
    apply List.ext_getElem?
    intro i
    simp only [List.getElem?_zipWith, List.getElem?_take]
    by_cases hi : i < l.length
    · rw [if_pos hi]
    · rw [if_neg hi, List.getElem?_eq_none (by omega : m.length ≤ i)]
      cases syms[i]? <;> rfl
  rw [h1 l rfl]
  conv => lhs; rw [e]
  unfold mkWords
  rw [List.zipWith_append (by simp; omega)]
  simp

/-- The words of a table: none where the lengths may not be. -/
def tabWords (ns : List Nat) (syms : List Int) : List (Int × Nat × Nat) := mkWords syms ((codes ns).getD [])
def natI (ns : List Nat) : List Int := ns.map Int.ofNat
theorem natI_length (ns : List Nat) : (natI ns).length = ns.length := by simp [natI]
theorem natI_at {ns : List Nat} {k n : Nat} (h : ns[k]? = some n) : (natI ns)[k]? = some (n : Int) := by simp [natI, h]
theorem ones_eq (k : Nat) (h : k < 16) : wrap64 (wrap64 (2 ^ (k + 1)) - 1) = ((2 ^ (k + 1) - 1 : Nat) : Int) := by
  have h1 : 2 ^ (k + 1) ≤ 2 ^ 16 := Nat.pow_le_pow_right (by omega) (by omega)
  have h2 : 0 < 2 ^ (k + 1) := Nat.pow_pos (by omega)
  have h3 : ((2 : Int) ^ (k + 1)) = ((2 ^ (k + 1) : Nat) : Int) := by simp
  rw [h3]
  unfold wrap64
  omega

set_option maxHeartbeats 2000000 in
set_option maxRecDepth 100000 in
theorem assign_any (ns : List Nat) (syms : List Int) (A : Option Addr) (c G : Nat) (w : World) (hns : ns.length = 16) (hsum : ns.sum = syms.length) (h256 : syms.length ≤ 256) (hs : Seen w G A (ints .i64 syms)) (hG : G ≤ w.heap.size) :
    Calls Try.prog 65 #[tabV (natI ns) A syms.length c] w fun e w' => ∃ v, e = .returned (.tuple #[v, .bool (codes ns).isSome]) ∧ Owns w.heap.size [wordRow v (tabWords ns syms)] w' ∧ Below w.heap.size w w' := by
  have hcs : (natI ns).length = 16 := by rw [natI_length]; exact hns
  have h16 : (tabCells (natI ns) A syms.length c)[16]? = some (.slice A syms.length c) := tabCells_last hcs
  have hr : Hid (∀ xs, xs = tabCells (natI ns) A syms.length c → (w.alloc (.cells xs.toArray 25)).rangeAt w.heap.size 0 (ints .i64 (natI ns))) := by
    show ∀ xs, _
    intro xs e
    subst e
    exact range_left (range_new w _ _)
  have Hcs := veil hcs; have Hns := veil hns; have Hsum := veil hsum
  clear hcs hns hsum
  obtain ⟨xs, hxs⟩ : ∃ xs, xs = tabCells (natI ns) A syms.length c := ⟨_, rfl⟩
  have Hr := veil (hr.out xs hxs)
  unfold tabV
  rw [← hxs] at h16 ⊢
  clear hr hxs
  obtain ⟨cur, hmk, hcur⟩ := run_make_words syms.length (by omega) (w.alloc (.cells xs.toArray 25))
  have Hcur := veil hcur; clear hcur
  have Hr2 := veil (World.rangeAt_alloc Hr.out (.cells cur 138))
  go_enter Try.func65, Try.ntmps65
  go_wp2_with (first
    | (refine wpList_load_mid rfl 22 (.tmp 14) rfl w.heap.size 0 rfl (ints .i64 (natI ns)) _ Hr2.out Try.underlying22 rfl (by rw [ints_length, Hcs.out]; exact info_arr) ?_)
    | fail)
  go_loopg [4, 5, 6, 7, 8, 9, 16] 16 (fun gk v cv kv nv lv ov i wr => ∃ (k cd : Nat) (acc : List (Nat × Nat)), gk = 16 - k ∧ k ≤ 16 ∧ i = .int .i64 k ∧ cv = .int .i64 cd ∧ Hid (CInv ns k cd acc) ∧ wr.cell? ⟨w.heap.size, 16, none⟩ = some (.slice A syms.length c) ∧
    Owns (w.heap.size + 1) [wordRow v (mkWords syms acc)] wr ∧ Below w.heap.size w wr)
  case atStart =>
    refine ⟨0, 0, [], rfl, by omega, rfl, rfl, veil (CInv.start ns), ?_, ?_, below2 _ _ _⟩
    · rw [World.cell?_alloc_lt _ _ _ (by simp), World.cell?_alloc_at _ _ _ _ rfl]; simpa using h16
    · rw [mkWords_nil]
      have := ((Owns.start (w.alloc (.cells xs.toArray 25))).made 138 3 cur syms.length (by unfold maxLen; omega) Hcur.out)
      simpa [wordRow, tripleCells] using this
  case round =>
    obtain ⟨k, cd, acc, rfl, hk, rfl, rfl, HI, h17, HO, hbel⟩ := hrel
    by_cases hlt : k < 16
    · obtain ⟨n, hn⟩ := some_at (xs := ns) (j := k) (by rw [Hns.out]; omega)
      have hcd := HI.out.2.1
      have hp16 : 2 ^ (k + 1) ≤ 2 ^ 16 := Nat.pow_le_pow_right (by omega) (by omega)
      have hn256 : (ns.take k).sum + n ≤ 256 := by
        have h1 := take_sum hn
        have h2 : (ns.take (k + 1)).sum + (ns.drop (k + 1)).sum = ns.sum := by rw [← List.sum_append, List.take_append_drop]
        have := Hsum.out
        omega
      have hacc : acc.length + n ≤ syms.length := by
        have h1 := take_sum hn
        have h2 : (ns.take (k + 1)).sum + (ns.drop (k + 1)).sum = ns.sum := by rw [← List.sum_append, List.take_append_drop]
        have := Hsum.out
        have := HI.out.2.2
        omega
      have Hn := veil hn; have Hcd := veil hcd; have Hp16 := veil hp16
      have hcd2 : cd < 65536 := by omega
      have hn2 : n ≤ 256 := by omega
      clear hn hcd hp16 hn256
      have hones := ones_eq k hlt
      go_wp2_with (first
        | (refine wpList_index_arr rfl 22 (.tmp 15) (.tmp 16) rfl 16 3 .i64 Try.underlying22 Try.underlying3 info_int1 (ints .i64 (natI ns)) rfl .i64 k rfl (.int .i64 (n : Int)) hlt (ints_at (natI_at Hn.out)) ?_)
        | fail)
      rw [hones]
      clear hones
      obtain ⟨N, hN⟩ : ∃ N, N = 2 ^ (k + 1) - 1 := ⟨_, rfl⟩
      rw [← hN]
      have HN := veil hN
      have hN2 : N < 65536 := by have := Hp16.out; omega
      clear hN
      have hz := hbel.size
      go_loopg [4, 5, 26] n (fun gk v cv i wr2 => ∃ j : Nat, gk = n - j ∧ j ≤ n ∧ i = .int .i64 j ∧ cv = .int .i64 ((cd + j : Nat) : Int) ∧ Hid (cd + j ≤ N) ∧ wr2.cell? ⟨w.heap.size, 16, none⟩ = some (.slice A syms.length c) ∧
        Owns (w.heap.size + 1) [wordRow v (mkWords syms (acc ++ wordsTo k cd j))] wr2 ∧ Below w.heap.size w wr2)
      case atStart => exact ⟨0, rfl, Nat.zero_le _, rfl, rfl, veil (by have := Hcd.out; have := HN.out; omega), h17, by simpa [wordsTo] using HO, hbel⟩
      case round =>
        obtain ⟨j, rfl, hj, rfl, rfl, HJ, h18, HO2, hbel2⟩ := hrel
        have hz2 := hbel2.size
        by_cases hjn : j < n
        · by_cases hf : N ≤ cd + j
          · have hd := HI.out.fail Hn.out hjn (by rw [← HN.out]; exact hf)
            have Hd := veil hd; clear hd
            have hf' : (N : Int) ≤ (cd : Int) + j := by omega
            go_wp2
            go_ret2
            exact ⟨_, ret_two rfl (by rw [Hd.out]; rfl), by unfold tabWords; rw [Hd.out]; simp only [Option.getD_none, mkWords_nil]; exact (Owns.nil hbel2.size).fresh _ _, hbel2⟩
          · have hf' : ¬ (N : Int) ≤ (cd : Int) + j := by omega
            have hlen : (acc ++ wordsTo k cd j).length = acc.length + j := by rw [List.length_append, wordsTo_length]
            obtain ⟨g, o, x, rfl, hg, hx, h1⟩ := hs.int (k := acc.length + j) (by omega)
            have hml : (mkWords syms (acc ++ wordsTo k cd j)).length = acc.length + j := by rw [mkWords_length _ _ (by omega), hlen]
            have hsn := mkWords_snoc (l := acc ++ wordsTo k cd j) (s := x) (by rw [hlen]; exact hx) (k + 1, cd + j)
            rw [List.append_assoc, ← wordsTo_snoc] at hsn
            have Hsn := veil hsn
            rw [← hbel2.cell (by simp; omega)] at h1
            obtain ⟨A4, c4, e4, _, _, _⟩ := HO2.seen (List.mem_cons_self ..)
            simp only [wordRow] at e4
            rw [hml] at e4
            subst e4
            have Hml := veil hml
            clear hsn hlen hx hml
            generalize mkWords syms (acc ++ wordsTo k cd j) = ws at *
            go_wp2_with (first
              | (at_builtin; go_loud (refine wpList_ownT _ rfl (.tmp 31) (.tmp 41) rfl (w.heap.size + 1) (.slice A4 (acc.length + j) c4) ws [] rfl HO2 x _ _ (k + 1) (cd + j) (by omega) (by omega) rfl (by have := Hml.out; omega) ?_); intro v1 w1 HO3 hb3 hz3))
            have h18' := h18
            rw [← hb3.cell (by simp)] at h18'
            go_roundg (n - (j + 1))
            case rel => exact ⟨j + 1, rfl, by omega, by go_num, by go_num, veil (by omega), h18', by rw [Hsn.out]; exact HO3, hbel2.trans (hb3.mono (by omega))⟩
            case measure => omega
        · obtain rfl : j = n := by omega
          have hw : IntKind.i64.wrap (2 * ((cd : Int) + j)) = 2 * ((cd : Int) + j) := by rw [IntKind.wrap_i64]; omega
          go_wp2
          go_roundg (16 - (k + 1))
          case rel => exact ⟨k + 1, 2 * (cd + j), acc ++ wordsTo k cd j, rfl, by omega, by go_num, by go_num, veil (HI.out.next Hn.out (by rw [← HN.out]; exact HJ.out)), h18, HO2, hbel2⟩
          case measure => omega
    · obtain rfl : k = 16 := by omega
      have hd : codes ns = some acc := by have h := HI.out; rw [← Hns.out] at h; exact h.done
      have Hd := veil hd; clear hd
      go_wp2
      go_ret2
      exact ⟨_, ret_two rfl (by rw [Hd.out]; rfl), by unfold tabWords; rw [Hd.out]; exact HO.down (by omega), hbel⟩
end Go.Proofs.Ytddkhkpdbjjboaa

/- A map from numbers to fields, and one from fields to numbers, as functions: made, written, asked. -/
namespace Go.Proofs.Ytddkhkpdbjjboaa
open Go.RowKit
open Go.Maps (Keyed)
set_option linter.unusedVariables false
set_option linter.unusedSimpArgs false
set_option maxRecDepth 100000

/-- What a field reads as. -/
def fd (p : Int × Int) : DataW Unit := .agg [.lit (.int .i64 p.1), .lit (.int .i64 p.2)]
abbrev fv (p : Int × Int) : Value := .agg #[.int .i64 p.1, .int .i64 p.2]
def fieldElem : Value → Option (DataW Unit × List MemPlace)
  | .agg cs => match cs.toList with
    | [.int .i64 a, .int .i64 b] => some (fd (a, b), [])
    | _ => none
  | _ => none
theorem fieldElem_mk (p : Int × Int) : fieldElem (fv p) = some (fd p, []) := rfl
theorem fieldElem_inv {v : Value} {p : Int × Int} {ps : List MemPlace} (h : fieldElem v = some (fd p, ps)) : v = fv p := by
  unfold fieldElem at h
  split at h
  · rename_i cs
    split at h
    · rename_i a b e
      simp only [Option.some.injEq, Prod.mk.injEq, fd, DataW.agg.injEq, List.cons.injEq, DataW.lit.injEq, Lit.int.injEq, true_and, and_true] at h
      obtain ⟨⟨h1, h2⟩, _⟩ := h
      have : cs = #[.int .i64 a, .int .i64 b] := by
        obtain ⟨l⟩ := cs
        simp at e
        rw [e]
      rw [this, fv, h1, h2]
    · cases h
  · cases h
abbrev WF (x : Int) : Prop := (Lit.int .i64 x).wf = true
theorem wf_of {x : Int} (h : -9223372036854775808 ≤ x ∧ x ≤ 9223372036854775807) : WF x := WalkArith.wf_i64 h

theorem keyInt : Keyed Try.prog 3 := Go.Maps.int_keyed Try.underlying3
theorem zeroField (w : World) : (zeroValue 78).run Try.prog w = .ok (fv (0, 0)) w := by kernel_rfl

/-- Block b is a map of at most n entries, s of them, that holds what f says. -/
def MapF (w : World) (b n : Nat) (f : Int → Option (Int × Int)) (s : Nat) : Prop :=
  ∃ D : DataW Unit, w.ownsMap Try.prog 3 fieldElem b n D ∧ Maps.size D = s ∧ ∀ x, WF x → Maps.has D (.int .i64 x) = (f x).isSome ∧ D.atKey (.int .i64 x) (fd (0, 0)) = fd ((f x).getD (0, 0))
def upd {α β : Type} [DecidableEq α] (f : α → Option β) (x : α) (p : β) : α → Option β := fun y => if y = x then some p else f y
section
variable {w w' : World} {b n s : Nat} {f : Int → Option (Int × Int)}
theorem MapF.made (w : World) : MapF (w.alloc (.map #[] 0)) w.heap.size 0 (fun _ => none) 0 :=
  ⟨.map [], World.ownsMap_made _ _ _ _, rfl, fun x hx => ⟨rfl, rfl⟩⟩
theorem MapF.lt (h : MapF w b n f s) : b < w.heap.size := by obtain ⟨D, h1, _⟩ := h; exact h1.lt
theorem MapF.below (h : MapF w b n f s) {C : Nat} (hb : Below C w w') (hC : b < C) : MapF w' b n f s := by
  have hlt := h.lt
  obtain ⟨D, ⟨es, clock, h1, h2⟩, h3⟩ := h
  exact ⟨D, ⟨es, clock, by rw [hb.block b hC]; exact h1, h2⟩, h3⟩
theorem MapF.store (h : MapF w b n f s) (hn : n < maxLen) {x : Int} (hx : WF x) (p : Int × Int) :
    ∃ w', (Instr.mapUpdate 68 (.map (some b)) (.int .i64 x) (fv p)).run Try.prog w = .ok () w' ∧ MapF w' b (n + 1) (upd f x p) (if (f x).isSome then s else s + 1) ∧ w.grownBy w' (some b) := by
  obtain ⟨D, h1, h2, h3⟩ := h
  have hT := h1.tidy keyInt
  obtain ⟨w', r1, r2, r3⟩ := h1.update keyInt Try.underlying68 hn (Maps.keyOf_int_mk Try.underlying3 hx) (fieldElem_mk p)
  refine ⟨w', r1, ⟨_, r2, ?_, fun y hy => ?_⟩, r3⟩
  · rw [Maps.size_put hT, (h3 x hx).1, h2]
  · by_cases e : y = x
    · subst e
      rw [Maps.has_put_same hT.isMap (by trivial), Maps.atKey_put_same hT.isMap (by trivial)]
      simp [upd]
    · have hne : Lit.int IntKind.i64 y ≠ Lit.int IntKind.i64 x := by simpa using e
      rw [Maps.has_put_other hne, Maps.atKey_put_other hne]
      simp only [upd, if_neg e]
      exact h3 y hy
theorem MapF.look (h : MapF w b n f s) {x : Int} (hx : WF x) :
    (Instr.lookup 68 (.map (some b)) (.int .i64 x) true).run Try.prog w = .ok (.tuple #[fv ((f x).getD (0, 0)), .bool (f x).isSome]) w := by
  obtain ⟨D, h1, h2, h3⟩ := h
  obtain ⟨v, ps, r1, r2⟩ := h1.look_ok keyInt Try.underlying68 (zeroField w) (fieldElem_mk (0, 0)) (Maps.keyOf_int_mk Try.underlying3 hx)
  rw [(h3 x hx).2] at r2
  rw [r1, fieldElem_inv r2, (h3 x hx).1]
theorem MapF.len (h : MapF w b n f s) (ty : TypeId) : (Builtin.len_ #[68] ty #[.map (some b)]).run Try.prog w = .ok (.int .i64 (s : Int)) w := by
  obtain ⟨D, h1, h2, h3⟩ := h
  rw [h1.len Try.underlying68 ty, h2]
/-- In a walk: a look-up. -/
theorem wpList_lookF {ops : Array Oper} {rest : List Oper} {o : Oper} {a : Act} {Q : Exit → Act → World → Prop} (w : World) (hg : o.guard = none) (m x : Operand) (hop : o.op = Op.lookup 68 m x true)
    (b n : Nat) (f : Int → Option (Int × Int)) (s : Nat) (hm : a.eval m = .map (some b)) (H : MapF w b n f s) (x0 : Int) (hx : a.eval x = .int .i64 x0) (hwf : WF x0) (p : Int × Int) (ok : Bool) (hp : (f x0).getD (0, 0) = p) (hok : (f x0).isSome = ok)
    (hK : wpList Try.prog ops Q rest (a.put o.dst (.tuple #[fv p, .bool ok])) w) : wpList Try.prog ops Q (o :: rest) a w := by
  refine wpList_plain hg fun K' hK' => ?_
  have := H.look hwf
  rw [hp, hok] at this
  unfold Oper.wp
  simp [execOp, hop, hm, hx, this, Result.andThen]
  exact hK' _ _ hK
end

theorem zeroInt (w : World) : (zeroValue 3).run Try.prog w = .ok (.int .i64 0) w := by kernel_rfl
/-! ### from fields to numbers -/
theorem wideField : (match Try.prog.underlying 78 with | some (.array _ _) | some (.struct _) => true | _ => false) = true := by kernel_rfl
theorem keyField : Keyed Try.prog 78 := Keyed.of_law (deep_law_laid (by kernel_rfl) (m := 2) (by omega) (of_decide_eq_true (by kernel_rfl)) (by kernel_rfl) wideField)
def kf (p : Int × Int) : Lit := (fd p).asKey
theorem field_key {p : Int × Int} (h1 : WF p.1) (h2 : WF p.2) : keyOf Try.prog 78 (fv p) = some (kf p) := by
  have hT : DataW.Trod (fun _ => ()) Try.prog default 0 (fun _ => true) true 78 (fv p) (.agg [(.lit (.int .i64 p.1)), (.lit (.int .i64 p.2))]) ([] ++ []) :=
    Go.Joins.shut_agg2 (y0 := (.lit (.int .i64 p.1), [])) (y1 := (.lit (.int .i64 p.2), [])) Try.underlying78 (by kernel_rfl) (by kernel_rfl) ⟨1, by simp [DataW.trod, Try.underlying3, h1]⟩ ⟨1, by simp [DataW.trod, Try.underlying3, h2]⟩
  have hf : (fv p).formed Try.prog 78 = true := by
    have hs : Try.prog.cellsOf 78 = 2 := by kernel_rfl
    simp [Value.formed, Try.underlying78, hs]
  exact (keyOf_asKey (by kernel_rfl) wideField hf hT).1
theorem kf_inj {p q : Int × Int} (h1 : WF p.1) (h2 : WF p.2) (h3 : WF q.1) (h4 : WF q.2) (h : kf p = kf q) : p = q := by
  have := keyField.inj (field_key h1 h2) (by rw [h]; exact field_key h3 h4)
  simp [fv] at this
  exact Prod.ext this.1 this.2
/-- Block b is a map of at most n entries that holds what f says. -/
def MapC (w : World) (b n : Nat) (f : Int × Int → Option Int) : Prop :=
  ∃ D : DataW Unit, w.ownsMap Try.prog 78 (plainElem Try.prog 3) b n D ∧ ∀ p : Int × Int, WF p.1 → WF p.2 → Maps.has D (kf p) = (f p).isSome ∧ D.atKey (kf p) (.lit (.int .i64 0)) = .lit (.int .i64 ((f p).getD 0))
section
variable {w w' : World} {b n : Nat} {f : Int × Int → Option Int}
theorem MapC.made (w : World) : MapC (w.alloc (.map #[] 0)) w.heap.size 0 (fun _ => none) :=
  ⟨.map [], World.ownsMap_made _ _ _ _, fun x hx _ => ⟨rfl, rfl⟩⟩
theorem MapC.lt (h : MapC w b n f) : b < w.heap.size := by obtain ⟨D, h1, _⟩ := h; exact h1.lt
theorem MapC.below (h : MapC w b n f) {C : Nat} (hb : Below C w w') (hC : b < C) : MapC w' b n f := by
  have hlt := h.lt
  obtain ⟨D, ⟨es, clock, h1, h2⟩, h3⟩ := h
  exact ⟨D, ⟨es, clock, by rw [hb.block b hC]; exact h1, h2⟩, h3⟩
theorem MapC.store (h : MapC w b n f) (hn : n < maxLen) {p : Int × Int} (h1 : WF p.1) (h2 : WF p.2) {x : Int} (hx : WF x) :
    ∃ w', (Instr.mapUpdate 102 (.map (some b)) (fv p) (.int .i64 x)).run Try.prog w = .ok () w' ∧ MapC w' b (n + 1) (upd f p x) ∧ w.grownBy w' (some b) := by
  obtain ⟨D, g1, g3⟩ := h
  have hT := g1.tidy keyField
  have hkl := keyField.key (field_key h1 h2)
  obtain ⟨w', r1, r2, r3⟩ := g1.update keyField Try.underlying102 hn (field_key h1 h2) (plainElem_int Try.underlying3 hx)
  refine ⟨w', r1, ⟨_, r2, fun q hq1 hq2 => ?_⟩, r3⟩
  by_cases e : q = p
  · subst e
    rw [Maps.has_put_same hT.isMap hkl, Maps.atKey_put_same hT.isMap hkl]
    simp [upd]
  · have hne : kf q ≠ kf p := fun h => e (kf_inj hq1 hq2 h1 h2 h)
    rw [Maps.has_put_other hne, Maps.atKey_put_other hne]
    simp only [upd, if_neg e]
    exact g3 q hq1 hq2
theorem MapC.look (h : MapC w b n f) {p : Int × Int} (h1 : WF p.1) (h2 : WF p.2) :
    (Instr.lookup 102 (.map (some b)) (fv p) true).run Try.prog w = .ok (.tuple #[.int .i64 ((f p).getD 0), .bool (f p).isSome]) w := by
  obtain ⟨D, g1, g3⟩ := h
  obtain ⟨v, ps, r1, r2⟩ := g1.look_ok keyField Try.underlying102 (zeroInt w) (plainElem_int Try.underlying3 (by decide)) (field_key h1 h2)
  rw [(g3 p h1 h2).2] at r2
  obtain ⟨c, rfl, hc, _⟩ := plainElem_int_inv Try.underlying3 r2
  simp only [Prod.mk.injEq, DataW.lit.injEq, Lit.int.injEq, true_and] at hc
  rw [r1, (g3 p h1 h2).1, hc.1]
end
end Go.Proofs.Ytddkhkpdbjjboaa

/- table.field, table.bySymbol, table.byCodeword: their contracts. -/
namespace Go.Proofs.Ytddkhkpdbjjboaa
open Go.RowKit
set_option linter.unusedVariables false
set_option linter.unusedSimpArgs false
set_option maxRecDepth 100000

theorem World.size_alloc' (w : World) (o : Obj) : (w.alloc o).heap.size = w.heap.size + 1 := by simp
theorem cell_far {w w' : World} {b g o : Nat} {v : Value} (h : w.grownBy w' (some b)) (hne : g ≠ b) (hc : w.cell? ⟨g, o, none⟩ = some v) : w'.cell? ⟨g, o, none⟩ = some v := by
  have hlt := World.block_lt_of_cell? w _ hc
  have := h.block g hlt (by simpa using hne)
  simp only [World.cell?] at hc ⊢
  rw [this]; exact hc
theorem field_any (s n c : Int) (w : World) : Calls Try.prog 72 #[.agg #[.int .i64 s, .int .i64 n, .int .i64 c]] w fun e w' => e = .returned (fv (n, c)) ∧ Below w.heap.size w w' := by
  go_enter Try.func72, Try.ntmps72
  go_wp2
  exact bodyPost_ret (v := fv (n, c)) (results_cell_row rfl _ _ (w.heap.size + 1) 78 #[.int .i64 n, .int .i64 c] (0, 0) _ rfl (by rw [← World.size_alloc' w (.cells #[.int .i64 s, .int .i64 n, .int .i64 c] 138)]; exact heap_alloc_new _ _) Try.underlying78 rfl (by kernel_rfl)) rfl ⟨rfl, below2 _ _ _⟩

abbrev fi (t : Int × Nat × Nat) : Int × Int := ((t.2.1 : Int), (t.2.2 : Int))
def symGo (ws : List (Int × Nat × Nat)) : (Int → Option (Int × Int)) × Nat := ws.foldl (fun st t => (upd st.1 t.1 (fi t), if (st.1 t.1).isSome then st.2 else st.2 + 1)) (fun _ => none, 0)
def symF (ws : List (Int × Nat × Nat)) : Int → Option (Int × Int) := (symGo ws).1
def symS (ws : List (Int × Nat × Nat)) : Nat := (symGo ws).2
theorem symF_snoc (ws : List (Int × Nat × Nat)) (t : Int × Nat × Nat) : symF (ws ++ [t]) = upd (symF ws) t.1 (fi t) := by simp [symF, symGo]
theorem symS_snoc (ws : List (Int × Nat × Nat)) (t : Int × Nat × Nat) : symS (ws ++ [t]) = if (symF ws t.1).isSome then symS ws else symS ws + 1 := by unfold symS symF symGo; rw [List.foldl_append]; rfl
def codeF (ws : List (Int × Nat × Nat)) : Int × Int → Option Int := ws.foldl (fun f t => upd f (fi t) t.1) (fun _ => none)
theorem codeF_snoc (ws : List (Int × Nat × Nat)) (t : Int × Nat × Nat) : codeF (ws ++ [t]) = upd (codeF ws) (fi t) t.1 := by simp [codeF]

theorem make_map (n : Nat) (w : World) : (Instr.makeMap 68 (some (.int .i64 (n : Int)))).run Try.prog w = .ok (.map (some w.heap.size)) (w.alloc (.map #[] 0)) := by
  simp [Instr.makeMap, run_underlying Try.underlying68, asInt, newObj]
  rfl
set_option maxRecDepth 100000 in
set_option maxHeartbeats 2000000 in
theorem bySymbol_any (A : Option Addr) (c G : Nat) (ws : List (Int × Nat × Nat)) (w : World) (hs : Seen w G A (tripleCells ws)) (hG : G ≤ w.heap.size) (hl : ws.length ≤ 1048576) (hwf : ∀ t ∈ ws, WF t.1) :
    Calls Try.prog 60 #[.slice A ws.length c] w fun e w' => ∃ b, e = .returned (.map (some b)) ∧ w.heap.size ≤ b ∧ MapF w' b ws.length (symF ws) (symS ws) ∧ Below w.heap.size w w' := by
  have hmm := make_map ws.length w
  have Hwf := veil hwf; clear hwf
  go_enter Try.func60, Try.ntmps60
  go_wp2_with fail
  go_loopg [5, 11] ws.length (fun gk p i wr => ∃ k : Nat, gk = ws.length - k ∧ k ≤ ws.length ∧ i = .int .i64 k ∧ MapF wr w.heap.size k (symF (ws.take k)) (symS (ws.take k)) ∧ Below w.heap.size w wr)
  case atStart => exact ⟨0, rfl, Nat.zero_le _, rfl, MapF.made w, below1 _ _⟩
  case round =>
    obtain ⟨k, rfl, hk, rfl, HM, hbel⟩ := hrel
    by_cases hlt : k < ws.length
    · obtain ⟨g, o, s, n, cd, rfl, hg, hx, h1, h2, h3⟩ := hs.triple hlt
      have hz := hbel.size
      rw [← hbel.cell (by simp; omega)] at h1 h2 h3
      have Hx := veil hx; clear hx
      go_wp2_with fail
      have hlen : k < maxLen := by unfold maxLen; omega
      have hwx : WF s := Hwf.out _ (List.mem_of_getElem? Hx.out)
      have Hwx := veil hwx; clear hwx
      have hne : wr.heap.size ≠ w.heap.size := by have := HM.lt; omega
      have HM2 := HM.below (below1 wr (Obj.cells #[Value.int IntKind.i64 s, Value.int IntKind.i64 (n : Int), Value.int IntKind.i64 (cd : Int)] 138)) HM.lt
      have hbel2 := hbel.trans ((below1 wr (Obj.cells #[Value.int IntKind.i64 s, Value.int IntKind.i64 (n : Int), Value.int IntKind.i64 (cd : Int)] 138)).mono hz)
      have c0 : (wr.alloc (Obj.cells #[Value.int IntKind.i64 s, Value.int IntKind.i64 (n : Int), Value.int IntKind.i64 (cd : Int)] 138)).cell? ⟨wr.heap.size, 0, none⟩ = some (.int .i64 s) := by simp
      have c1 : (wr.alloc (Obj.cells #[Value.int IntKind.i64 s, Value.int IntKind.i64 (n : Int), Value.int IntKind.i64 (cd : Int)] 138)).cell? ⟨wr.heap.size, 1, none⟩ = some (.int .i64 (n : Int)) := by simp
      have c2 : (wr.alloc (Obj.cells #[Value.int IntKind.i64 s, Value.int IntKind.i64 (n : Int), Value.int IntKind.i64 (cd : Int)] 138)).cell? ⟨wr.heap.size, 2, none⟩ = some (.int .i64 (cd : Int)) := by simp
      have hsz : wr.heap.size < (wr.alloc (Obj.cells #[Value.int IntKind.i64 s, Value.int IntKind.i64 (n : Int), Value.int IntKind.i64 (cd : Int)] 138)).heap.size := by simp
      generalize wr.alloc (Obj.cells #[Value.int IntKind.i64 s, Value.int IntKind.i64 (n : Int), Value.int IntKind.i64 (cd : Int)] 138) = W at *
      clear h1 h2 h3 HM hbel hs
      generalize wr.heap.size = B at *
      go_region_held3 (fun w' => w'.cell? ⟨B, 0, none⟩ = some (.int .i64 s) ∧ w'.cell? ⟨B, 1, none⟩ = some (.int .i64 (n : Int)) ∧ w'.cell? ⟨B, 2, none⟩ = some (.int .i64 (cd : Int)))
        (first
          | go_keep
          | (go_split_ands
             refine ⟨?_, ?_, ?_⟩
             · (first | (refine (hb1.cell hsz).trans ?_; assumption) | (refine cell_far hgr2 hne ?_; assumption))
             · (first | (refine (hb1.cell hsz).trans ?_; assumption) | (refine cell_far hgr2 hne ?_; assumption))
             · (first | (refine (hb1.cell hsz).trans ?_; assumption) | (refine cell_far hgr2 hne ?_; assumption))))
        (first
          | (go_at_call 72; refine (field_any s n cd _).mono ?_; rintro e w1 ⟨rfl, hb1⟩; obtain ⟨w2, hup, HM3, hgr2⟩ := (HM2.below (below_of_drew hb1) HM2.lt).store hlen Hwx.out ((n : Int), (cd : Int)))
          | fail)
      have hbel3 : Below w.heap.size w w2 := (hbel2.trans ((below_of_drew hb1).mono hbel2.size)).grown hgr2 (Nat.le_trans hbel2.size hb1.size) (fun j hj => by injection hj with hj; omega)
      have HM4 : MapF w2 w.heap.size (k + 1) (symF (ws.take (k + 1))) (symS (ws.take (k + 1))) := by
        rw [take_snoc Hx.out, symF_snoc, symS_snoc]; exact HM3
      clear HM2 HM3 hup hbel2 hb1 hgr2
      go_wp2_with fail
      go_roundg (ws.length - (k + 1))
      case rel => exact ⟨k + 1, rfl, by omega, by go_num, HM4, hbel3⟩
      case measure => omega
    · obtain rfl : k = ws.length := by omega
      rw [List.take_length] at HM
      go_wp2
      go_ret
      exact ⟨_, rfl, Nat.le_refl _, HM, hbel⟩
end Go.Proofs.Ytddkhkpdbjjboaa
