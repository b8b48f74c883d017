/- Texts shared by the claims of this seat, in one. -/
import Derived.Test.YtbboakdfnjjddaaBd2
import Derived.Test.YtbboakdfnjjddaaBd6
import Derived.Test.YtbboakdfnjjddaaBd5
import Derived.Test.YtbboakdfnjjddaaBd1
import Derived.Test.YtbboakdfnjjddaaRows
import Derived.Laws.StructEq
import Derived.Test.YtbboakdfnjjddaaBd3
import Derived.Lib.Strings
import Derived.Lib.Slices
import Derived.Lib.Small
import Derived.Lib.Walk
import Derived.Lib.BitFns
import Derived.BigQuiet
import Derived.Test.YtbboakdfnjjddaaBd4
import Derived.Deep.LoopGhost
/- bits.number: so many bits from a place on. -/
namespace Go.Proofs.Ytbboakdfnjjddaa
open Go.RowKit
set_option linter.unusedVariables false
set_option linter.unusedSimpArgs false
set_option maxRecDepth 100000

theorem bitsN_at (w v i : Nat) (h : i < w) : (bitsN w v)[i]? = some (decide (v / 2 ^ (w - 1 - i) % 2 = 1)) := by
  induction w generalizing v with
  | zero => omega
  | succ w ih =>
    rw [bitsN]
    by_cases hi : i < w
    · rw [List.getElem?_append_left (by rw [bitsN_length]; exact hi), ih _ hi, Nat.div_div_eq_div_mul, ← Nat.pow_succ', show w + 1 - 1 - i = w - 1 - i + 1 by omega]
    · have : i = w := by omega
      subst this
      rw [List.getElem?_append_right (by rw [bitsN_length]; omega)]
      simp [bitsN_length]
theorem unpack_at : ∀ (bs : List Int) (j : Nat) (x : Int), bs[j / 8]? = some x → (unpack bs)[j]? = some (decide (x.toNat / 2 ^ (7 - j % 8) % 2 = 1))
  | [], j, x, h => by simp at h
  | y :: bs, j, x, h => by
    rw [unpack_cons]
    by_cases hj : j < 8
    · have e : j / 8 = 0 := by omega
      rw [e] at h
      simp at h
      subst h
      rw [List.getElem?_append_left (by rw [bitsN_length]; exact hj), bitsN_at 8 _ _ hj, show 8 - 1 - j = 7 - j % 8 by omega]
    · rw [List.getElem?_append_right (by rw [bitsN_length]; omega), bitsN_length]
      have e : j / 8 = (j - 8) / 8 + 1 := by omega
      rw [e, List.getElem?_cons_succ] at h
      rw [unpack_at bs (j - 8) x h, show (j - 8) % 8 = j % 8 by omega]
/-- The bits from 'at' on, so many. -/
def cutB (bs : List Int) (at_ n : Nat) : List Bool := ((unpack bs).drop at_).take n
theorem cutB_length (bs : List Int) (at_ n : Nat) (h : at_ + n ≤ 8 * bs.length) : (cutB bs at_ n).length = n := by
  simp [cutB, unpack_length]; omega
theorem cutB_snoc (bs : List Int) (at_ n : Nat) (x : Int) (h : bs[(at_ + n) / 8]? = some x) : cutB bs at_ (n + 1) = cutB bs at_ n ++ [decide (x.toNat / 2 ^ (7 - (at_ + n) % 8) % 2 = 1)] := by
  unfold cutB
  apply take_snoc
  rw [List.getElem?_drop]
  exact unpack_at bs _ x h

theorem bit_step (bs : List Int) (at_ n J : Nat) (x : Int) (hJ : at_ + n = J) (h : bs[J / 8]? = some x) (hx : 0 ≤ x ∧ x ≤ 255) (hn : n < 24) (hin : at_ + n ≤ 8 * bs.length) :
    bits BinOp.or IntKind.i64 (wrap64 ((valB (cutB bs at_ n) : Int) * 2)) (bits BinOp.and IntKind.i64 (wrap64 (x / 2 ^ (7 - J % 8))) 1) = (valB (cutB bs at_ (n + 1)) : Int) := by
  subst hJ
  rw [cutB_snoc bs at_ n x h, valB_snoc]
  have h1 := valB_lt (cutB bs at_ n)
  rw [cutB_length _ _ _ hin] at h1
  have h2 : 2 ^ n ≤ 2 ^ 24 := two_pow_lt _ _ (by omega)
  generalize valB (cutB bs at_ n) = V at *
  obtain ⟨X, rfl⟩ := Int.eq_ofNat_of_zero_le hx.1
  have e1 : (X : Int) / 2 ^ (7 - (at_ + n) % 8) = ((X / 2 ^ (7 - (at_ + n) % 8) : Nat) : Int) := by simp
  have h3 : X / 2 ^ (7 - (at_ + n) % 8) ≤ X := Nat.div_le_self _ _
  rw [e1, Int.toNat_natCast]
  generalize X / 2 ^ (7 - (at_ + n) % 8) = q at *
  rw [wrap64_nat q (by omega), show (1 : Int) = ((1 : Nat) : Int) from rfl, i64_and _ _ (by omega) (by omega), Nat.and_one_is_mod]
  have e2 : wrap64 ((V : Int) * 2) = ((V * 2 ^ 1 : Nat) : Int) := by
    rw [show (V : Int) * 2 = ((V * 2 : Nat) : Int) by simp]; exact wrap64_nat _ (by omega)
  rw [e2, i64_or _ _ (by omega) (by omega), nat_or_low _ 1 _ (by omega)]
  rcases Nat.mod_two_eq_zero_or_one q with hq | hq <;> simp [hq] <;> omega
set_option maxHeartbeats 1000000 in
theorem number_any (A : Option Addr) (c G : Nat) (bs : List Int) (at_ wd : Nat) (w : World) (hb : Seen w G A (ints .u8 bs)) (hby : Bytes bs) (h : at_ + wd ≤ 8 * bs.length) (hwd : wd ≤ 24) (hl : bs.length ≤ 1152921504606846975) :
    Calls Try.prog 104 #[.slice A bs.length c, .int .i64 at_, .int .i64 wd] w fun e w' => e = .returned (.int .i64 (valB (cutB bs at_ wd))) ∧ w = w' := by
  go_enter Try.func104, Try.ntmps104
  go_wp2_with fail
  go_loopg [7, 8, 9] wd (fun gk n i b wr => ∃ k : Nat, gk = wd - k ∧ k ≤ wd ∧ i = .int .i64 (at_ + k : Nat) ∧ n = .int .i64 (valB (cutB bs at_ k)) ∧ w = wr)
  case atStart => exact ⟨0, rfl, Nat.zero_le _, rfl, rfl, rfl⟩
  case round =>
    obtain ⟨k, rfl, hk, rfl, rfl, rfl⟩ := hrel
    by_cases hlt : k < wd
    · obtain ⟨g, o, x, rfl, _, hx, h1⟩ := hb.int (k := (at_ + k) / 8) (by omega)
      have hxb := hby x (List.mem_of_getElem? hx)
      have Hx := veil hx
      clear hx
      generalize HJ : at_ + k = J at *
      have HJ := veil HJ
      go_wp2_with fail
      go_roundg (wd - (k + 1))
      case rel => exact ⟨k + 1, rfl, by omega, by rw [← HJ.out]; go_num, congrArg (Value.int .i64) (bit_step _ _ _ _ _ HJ.out Hx.out hxb (by omega) (by omega)), rfl⟩
      case measure => omega
    · obtain rfl : k = wd := by omega
      go_wp2
      go_ret
      exact ⟨rfl, rfl⟩
end Go.Proofs.Ytbboakdfnjjddaa

/- Words of which none begins another one: which of them begins a row of bits. -/
namespace Go.Proofs.Ytbboakdfnjjddaa
open Go.RowKit
set_option linter.unusedVariables false
set_option linter.unusedSimpArgs false
set_option maxRecDepth 100000

structure PF (ws : List (Int × Nat × Nat)) : Prop where
  small : ∀ t ∈ ws, (1 ≤ t.2.1 ∧ t.2.1 ≤ 16) ∧ t.2.2 < 2 ^ t.2.1
  uniq : ∀ t ∈ ws, ∀ u ∈ ws, ∀ b, bitsN t.2.1 t.2.2 <+: b → bitsN u.2.1 u.2.2 <+: b → t = u
theorem Fine.pf {cs syms : List Int} {l : List (Nat × Nat)} (h : Fine cs syms l) (hcs : cs.length = 16) : PF (mkWords syms l) where
  small t ht := by have := h.word hcs ht; exact ⟨this.2.1, by omega⟩
  uniq t ht u hu b h1 h2 := by
    obtain ⟨i, hi1, hi2⟩ := mem_mkWords ht
    obtain ⟨k, hk1, hk2⟩ := mem_mkWords hu
    obtain rfl := (h.kr hcs).bits hi2 hk2 h1 h2
    rw [hi1] at hk1
    rw [hi2] at hk2
    injection hk1 with e1
    injection hk2 with e2
    exact Prod.ext e1 e2
def begins (t : Int × Nat × Nat) (b : List Bool) : Bool := (bitsN t.2.1 t.2.2).isPrefixOf b
theorem begins_iff (t : Int × Nat × Nat) (b : List Bool) : begins t b = true ↔ bitsN t.2.1 t.2.2 <+: b := List.isPrefixOf_iff_prefix
/-- The word at the front of a row of bits: its symbol and its length. -/
def find1 (ws : List (Int × Nat × Nat)) (b : List Bool) : Option (Int × Nat) := (ws.find? (begins · b)).map fun t => (t.1, t.2.1)
theorem PF.find {ws : List (Int × Nat × Nat)} (h : PF ws) {t : Int × Nat × Nat} (ht : t ∈ ws) {b : List Bool} (hb : bitsN t.2.1 t.2.2 <+: b) : find1 ws b = some (t.1, t.2.1) := by
  unfold find1
  cases hq : ws.find? (begins · b) with
  | none => exact absurd ((begins_iff t b).2 hb) (by simpa using List.find?_eq_none.1 hq t ht)
  | some u =>
    have h1 := List.find?_some hq
    have h2 := List.mem_of_find?_eq_some hq
    rw [h.uniq u h2 t ht b ((begins_iff u b).1 h1) hb]
    rfl
theorem find1_mem {ws : List (Int × Nat × Nat)} {b : List Bool} {s : Int} {n : Nat} (h : find1 ws b = some (s, n)) : ∃ t ∈ ws, t.1 = s ∧ t.2.1 = n ∧ bitsN t.2.1 t.2.2 <+: b := by
  unfold find1 at h
  cases hq : ws.find? (begins · b) with
  | none => simp [hq] at h
  | some u =>
    simp [hq] at h
    have h1 := List.find?_some hq
    exact ⟨u, List.mem_of_find?_eq_some hq, h.1, h.2, (begins_iff u b).1 h1⟩
theorem codeF_mem {ws : List (Int × Nat × Nat)} {x : Int} {p : Int × Int} (h : codeF ws p = some x) : ∃ t ∈ ws, fi t = p ∧ t.1 = x := by
  induction ws using snoc_ind with
  | h0 => simp [codeF] at h
  | h1 ws t ih =>
    rw [codeF_snoc] at h
    unfold upd at h
    by_cases e : p = fi t
    · rw [if_pos e] at h; injection h with h; exact ⟨t, by simp, e.symm, h⟩
    · rw [if_neg e] at h
      obtain ⟨u, hu, h2⟩ := ih h
      exact ⟨u, by simp [hu], h2⟩
theorem codeF_some {ws : List (Int × Nat × Nat)} {t : Int × Nat × Nat} (h : t ∈ ws) : (codeF ws (fi t)).isSome = true := by
  induction ws using snoc_ind with
  | h0 => simp at h
  | h1 ws u ih =>
    rw [codeF_snoc]
    unfold upd
    by_cases e : fi t = fi u
    · rw [if_pos e]; rfl
    · rw [if_neg e]
      rcases List.mem_append.1 h with h | h
      · exact ih h
      · simp at h; subst h; exact absurd rfl e
/-- A hit. -/
theorem PF.hit {ws : List (Int × Nat × Nat)} (h : PF ws) {b : List Bool} {k : Nat} (hk : k ≤ b.length) {s : Int} (hc : codeF ws ((k : Int), (valB (b.take k) : Int)) = some s) : find1 ws b = some (s, k) := by
  obtain ⟨t, ht, e1, e2⟩ := codeF_mem hc
  simp only [fi, Prod.mk.injEq] at e1
  have h1 : t.2.1 = k := by omega
  have h2 : t.2.2 = valB (b.take k) := by omega
  have h3 : bitsN t.2.1 t.2.2 <+: b := by
    rw [h1, h2]
    have := bitsN_valB (b.take k)
    rw [List.length_take, Nat.min_eq_left hk] at this
    rw [this]
    exact List.take_prefix _ _
  rw [h.find ht h3, e2, h1]
/-- No hit at all. -/
theorem PF.miss {ws : List (Int × Nat × Nat)} (h : PF ws) {b : List Bool} {k : Nat} (hk : k = 16 ∨ b.length ≤ k) (hc : ∀ j : Nat, 1 ≤ j → j ≤ k → codeF ws ((j : Int), (valB (b.take j) : Int)) = none) : find1 ws b = none := by
  cases hq : find1 ws b with
  | none => rfl
  | some p =>
    obtain ⟨s, n⟩ := p
    obtain ⟨t, ht, e1, e2, h1⟩ := find1_mem hq
    obtain ⟨h2, h3⟩ := h.small t ht
    have h4 := h1.length_le
    rw [bitsN_length] at h4
    have h5 := List.prefix_iff_eq_take.1 h1
    rw [bitsN_length] at h5
    have h6 : valB (b.take t.2.1) = t.2.2 := by rw [← h5]; exact valB_bitsN _ _ h3
    have h7 := hc t.2.1 h2.1 (by omega)
    rw [h6] at h7
    have h8 := codeF_some ht
    rw [show fi t = ((t.2.1 : Int), (t.2.2 : Int)) from rfl, h7] at h8
    cases h8
/-- What next answers. -/
def nextS (ws : List (Int × Nat × Nat)) (b : List Bool) : Int := ((find1 ws b).map (·.1)).getD 0
def nextL (ws : List (Int × Nat × Nat)) (b : List Bool) : Nat := ((find1 ws b).map (·.2)).getD 0
def nextE (ws : List (Int × Nat × Nat)) (b : List Bool) : Int := if (find1 ws b).isSome = true then 0 else if b.length < 16 then 3 else 4
end Go.Proofs.Ytbboakdfnjjddaa

/- table.next: its contract. -/
namespace Go.Proofs.Ytbboakdfnjjddaa
open Go.RowKit
set_option linter.unusedVariables false
set_option linter.unusedSimpArgs false
set_option maxRecDepth 100000

end Go.Proofs.Ytbboakdfnjjddaa

/- Blocks as bits and back, in numbers: the tokens of a list of blocks, their bits, a source of tokens out of bits. No program is named here. -/
namespace Go.Proofs.Ytbboakdfnjjddaa
set_option linter.unusedVariables false
set_option linter.unusedSimpArgs false
set_option maxRecDepth 100000

/-- The tokens of one block; true at the first one. -/
def flagT : List (Int × Int × Int) → List (Bool × Int × Int × Int)
  | [] => []
  | t :: l => (true, t) :: l.map fun x => (false, x)
/-- The tokens of blocks. -/
def toksB : Int → List (List Int) → List (Bool × Int × Int × Int)
  | _, [] => []
  | b, r :: L => flagT (toksZ b (toL r)) ++ toksB (r.headD 0) L
theorem flagT_length : ∀ l : List (Int × Int × Int), (flagT l).length = l.length
  | [] => rfl
  | t :: l => by simp [flagT]
theorem flagT_take : ∀ (l : List (Int × Int × Int)) (k : Nat), (flagT l).take k = flagT (l.take k)
  | [], k => by simp [flagT]
  | t :: l, 0 => by simp [flagT]
  | t :: l, k + 1 => by simp [flagT, List.map_take]
theorem flagT_at {l : List (Int × Int × Int)} {k : Nat} {t : Int × Int × Int} (h : l[k]? = some t) : (flagT l)[k]? = some (decide (k = 0), t) := by
  cases l with
  | nil => simp at h
  | cons x l =>
    cases k with
    | zero => simp at h; subst h; rfl
    | succ k =>
      simp only [List.getElem?_cons_succ] at h
      simp [flagT, h]
/-- The number 0 ahead of block k. -/
def ahead (L : List (List Int)) (k : Nat) : Int := if k = 0 then 0 else ((L.getD (k - 1) []).headD 0)
theorem toksB_snoc : ∀ (L : List (List Int)) (b : Int) (r : List Int), toksB b (L ++ [r]) = toksB b L ++ flagT (toksZ (if L = [] then b else (L.getLastD []).headD 0) (toL r))
  | [], b, r => by simp [toksB]
  | s :: L, b, r => by
    rw [List.cons_append, toksB, toksB_snoc L, toksB, List.append_assoc]
    congr 2
    cases L with
    | nil => simp
    | cons x L => simp
theorem toksB_next {L : List (List Int)} {k : Nat} {r : List Int} (h : L[k]? = some r) : toksB 0 (L.take (k + 1)) = toksB 0 (L.take k) ++ flagT (toksZ (ahead L k) (toL r)) := by
  rw [take_snoc h, toksB_snoc]
  congr 3
  unfold ahead
  have hk := (List.getElem?_eq_some_iff.1 h).1
  by_cases h0 : k = 0
  · subst h0; simp
  · rw [if_neg h0, if_neg (by intro e; have := congrArg List.length e; rw [List.length_take, List.length_nil] at this; omega)]
    have e : L.take k = L.take (k - 1) ++ [L.getD (k - 1) []] := by
      obtain ⟨x, hx⟩ := some_at (xs := L) (j := k - 1) (by omega)
      have := take_snoc hx
      rw [show k - 1 + 1 = k by omega] at this
      rw [this]; simp [hx]
    rw [e]; simp
theorem ahead_next {L : List (List Int)} {k : Nat} {r : List Int} (h : L[k]? = some r) : ahead L (k + 1) = r.headD 0 := by
  unfold ahead
  rw [if_neg (by omega)]; simp [h]
/-- The words for a token, by where it stands. -/
def wsOf (fw rw_ : List (Int × Nat × Nat)) (first : Bool) : List (Int × Nat × Nat) := if first = true then fw else rw_
/-- The bits of a token. -/
def tokBits (ws : List (Int × Nat × Nat)) (t : Int × Int × Int) : List Bool := symBits ws t.1 ++ bitsN t.2.1.toNat t.2.2.toNat
def segBits (fw rw_ : List (Int × Nat × Nat)) (l : List (Bool × Int × Int × Int)) : List Bool := l.flatMap fun x => tokBits (wsOf fw rw_ x.1) x.2
theorem segBits_append (fw rw_ : List (Int × Nat × Nat)) (a b : List (Bool × Int × Int × Int)) : segBits fw rw_ (a ++ b) = segBits fw rw_ a ++ segBits fw rw_ b := by simp [segBits]
theorem segBits_one (fw rw_ : List (Int × Nat × Nat)) (x : Bool × Int × Int × Int) : segBits fw rw_ [x] = tokBits (wsOf fw rw_ x.1) x.2 := by simp [segBits]
/-- Has each token a word? -/
def AllW (fw rw_ : List (Int × Nat × Nat)) (l : List (Bool × Int × Int × Int)) : Prop := ∀ x ∈ l, (symF (wsOf fw rw_ x.1) x.2.1).isSome = true
instance (fw rw_ : List (Int × Nat × Nat)) (l : List (Bool × Int × Int × Int)) : Decidable (AllW fw rw_ l) := by unfold AllW; infer_instance
theorem AllW.append {fw rw_ : List (Int × Nat × Nat)} {a b : List (Bool × Int × Int × Int)} (h1 : AllW fw rw_ a) (h2 : AllW fw rw_ b) : AllW fw rw_ (a ++ b) := fun x hx => by
  rcases List.mem_append.1 hx with h | h
  · exact h1 x h
  · exact h2 x h
/-- A token out of bits: an error, or the token and what is left. -/
def widS (first : Bool) (s : Int) : Int := if first = true then s else s % 16
def stepS (fw rw_ : List (Int × Nat × Nat)) (first : Bool) (b : List Bool) : Int ⊕ ((Int × Int × Int) × List Bool) :=
  if nextE (wsOf fw rw_ first) b ≠ 0 then .inl (nextE (wsOf fw rw_ first) b)
  else if 12 < widS first (nextS (wsOf fw rw_ first) b) ∨ (first = false ∧ 11 < widS first (nextS (wsOf fw rw_ first) b)) then .inl 4
  else if (b.drop (nextL (wsOf fw rw_ first) b)).length < (widS first (nextS (wsOf fw rw_ first) b)).toNat then .inl 3
  else .inr ((nextS (wsOf fw rw_ first) b, widS first (nextS (wsOf fw rw_ first) b), (valB ((b.drop (nextL (wsOf fw rw_ first) b)).take (widS first (nextS (wsOf fw rw_ first) b)).toNat) : Int)), (b.drop (nextL (wsOf fw rw_ first) b)).drop (widS first (nextS (wsOf fw rw_ first) b)).toNat)
theorem stepS_ne {fw rw_ : List (Int × Nat × Nat)} {first : Bool} {b : List Bool} {e : Int} (h : stepS fw rw_ first b = .inl e) : e ≠ 0 := by
  unfold stepS at h
  split at h
  · injection h with h; rename_i h1; rw [← h]; exact h1
  · split at h
    · injection h with h; omega
    · split at h
      · injection h with h; omega
      · cases h
/-- What a block's reader answers in numbers. -/
def outBk {σ : Type} (D : Int × List Int × List (Int × Int × Int) × Option σ) : List Int := if D.1 = 0 then fromL D.2.1 else zero64
/-- Blocks out of bits: an error, the blocks, what is left. -/
def decS (fw rw_ : List (Int × Nat × Nat)) : Nat → Int → List Bool → Int × List (List Int) × List Bool
  | 0, _, b => (0, [], b)
  | n + 1, before, b =>
    if (gB (stepS fw rw_) before b).1 = 0 then
      let x := fromL (gB (stepS fw rw_) before b).2.1
      let q := decS fw rw_ n (x.headD 0) ((gB (stepS fw rw_) before b).2.2.2.getD [])
      if q.1 = 0 then (0, x :: q.2.1, q.2.2) else (q.1, [], [])
    else ((gB (stepS fw rw_) before b).1, [], [])
/-- No more than fill is left. -/
def fillB (b : List Bool) : Bool := decide (b.length < 8) && b.all id
/-- Errors. -/
def eEnc (cs syms cs2 syms2 : List Int) (L : List (List Int)) : Int :=
  if checkErr cs syms ≠ 0 then checkErr cs syms else if checkErr cs2 syms2 ≠ 0 then checkErr cs2 syms2
  else if eL L ≠ 0 then eL L else if AllW (outWords cs syms) (outWords cs2 syms2) (toksB 0 L) then 0 else 5
end Go.Proofs.Ytbboakdfnjjddaa

/- What the tokens of blocks are like. No program is named here. -/
namespace Go.Proofs.Ytbboakdfnjjddaa
set_option linter.unusedVariables false
set_option linter.unusedSimpArgs false
set_option maxRecDepth 100000

/-- A token that a block may tell. -/
def goodT (t : Int × Int × Int) : Prop := fitT t = true ∧ 0 ≤ t.1 ∧ t.1 ≤ 255
theorem goodT_fit {t : Int × Int × Int} (h : goodT t) : (0 ≤ t.2.1 ∧ t.2.1 ≤ 12) ∧ 0 ≤ t.2.2 ∧ t.2.2 < pw t.2.1.toNat := by
  have h2 := h.1
  unfold fitT at h2
  have h3 := of_decide_eq_true h2
  exact ⟨⟨h3.1, h3.2.1⟩, h3.2.2.1, h3.2.2.2⟩
theorem rest_good : ∀ (zs : List Int) (r : Nat), (∀ z ∈ zs, -2047 ≤ z ∧ z ≤ 2047) → ∀ t ∈ restT r zs, goodT t
  | [], r, _, t, ht => by
    rw [restT_nil] at ht
    split at ht
    · simp at ht
    · rw [List.mem_singleton.1 ht]; exact ⟨by decide, by decide, by decide⟩
  | z :: zs, r, h, t, ht => by
    have hzs : ∀ z ∈ zs, -2047 ≤ z ∧ z ≤ 2047 := fun x hx => h x (List.mem_cons_of_mem _ hx)
    have hz := h z List.mem_cons_self
    by_cases h0 : z = 0
    · subst h0
      rw [restT_zero] at ht
      exact rest_good zs (r + 1) hzs t ht
    · rw [restT_cons r zs h0] at ht
      rcases List.mem_append.1 ht with ht | ht
      · rw [(List.mem_replicate.1 ht).2]; exact ⟨by decide, by decide, by decide⟩
      · rcases List.mem_cons.1 ht with rfl | ht
        · have := sz_11 hz.1 hz.2
          refine ⟨tkN_fit (by omega) (by omega), ?_, ?_⟩ <;> (unfold tkN; simp only []; omega)
        · exact rest_good zs 0 hzs t ht
theorem toks_good {b : Int} {zs : List Int} (hb : -2047 ≤ b ∧ b ≤ 2047) (h : ∀ z ∈ zs, -2047 ≤ z ∧ z ≤ 2047) : ∀ t ∈ toksZ b zs, goodT t := by
  intro t ht
  match zs, h, ht with
  | z :: zs, h, ht =>
    rw [toksZ] at ht
    have hz := h z List.mem_cons_self
    rcases List.mem_cons.1 ht with rfl | ht
    · have := sz_12 (n := z - b) (by omega) (by omega)
      refine ⟨tkN_fit (by omega) (by omega), ?_, ?_⟩ <;> (unfold tkN; simp only []; omega)
    · exact rest_good zs 0 (fun x hx => h x (List.mem_cons_of_mem _ hx)) t ht
theorem toksB_len : ∀ (L : List (List Int)) (b : Int), (toksB b L).length ≤ 64 * L.length
  | [], b => by simp [toksB]
  | r :: L, b => by
    have h1 := toksB_len L (r.headD 0)
    have h2 := toks_len b (toL_length r)
    simp only [toksB, List.length_append, flagT_length, List.length_cons]
    omega
theorem ahead_in {L : List (List Int)} {k : Nat} (hl : ∀ r ∈ L, r.length = 64) (h : ∀ r ∈ L.take k, inB (-2047) 2047 r = true) (hk : k ≤ L.length) : -2047 ≤ ahead L k ∧ ahead L k ≤ 2047 := by
  unfold ahead
  by_cases h0 : k = 0
  · rw [if_pos h0]; omega
  · rw [if_neg h0]
    obtain ⟨r, hr⟩ := some_at (xs := L) (j := k - 1) (by omega)
    have hm : r ∈ L.take k := by
      refine List.mem_of_getElem? (i := k - 1) ?_
      rw [List.getElem?_take, if_pos (by omega)]; exact hr
    have h2 := inB_mem.1 (h r hm)
    have h3 := hl r (List.mem_of_getElem? hr)
    rw [List.getD_eq_getElem?_getD, hr]
    match r, h3, h2 with
    | z :: r, _, h2 => exact h2 z List.mem_cons_self
end Go.Proofs.Ytbboakdfnjjddaa

/- Tokens in memory: structs of three integers in a row. -/
namespace Go.Proofs.Ytbboakdfnjjddaa
open Go.RowKit
set_option linter.unusedVariables false
set_option linter.unusedSimpArgs false
set_option maxRecDepth 100000

def tokC (f : Int × Int × Int) : List Value := [.int .i64 f.1, .int .i64 f.2.1, .int .i64 f.2.2]
def tokCells (l : List (Int × Int × Int)) : List Value := l.flatMap tokC
theorem tokCells_nil : tokCells [] = [] := rfl
theorem tokCells_length (l : List (Int × Int × Int)) : (tokCells l).length = l.length * 3 := by
  induction l with
  | nil => rfl
  | cons f l ih => simp [tokCells, tokC] at ih ⊢; omega
theorem tokCells_append (l m : List (Int × Int × Int)) : tokCells (l ++ m) = tokCells l ++ tokCells m := by simp [tokCells]
theorem tokCells_one {l : List (Int × Int × Int)} : ∀ u ∈ tokCells l, u.oneCell' = true := by
  intro u hu
  simp only [tokCells, List.mem_flatMap] at hu
  obtain ⟨f, _, hu⟩ := hu
  simp [tokC] at hu
  rcases hu with rfl | rfl | rfl <;> rfl
theorem tokCells_at : ∀ (l : List (Int × Int × Int)) (k : Nat) (f : Int × Int × Int), l[k]? = some f → (tokCells l)[k * 3]? = some (.int .i64 f.1) ∧ (tokCells l)[k * 3 + 1]? = some (.int .i64 f.2.1) ∧ (tokCells l)[k * 3 + 2]? = some (.int .i64 f.2.2)
  | [], k, f, h => by simp at h
  | g :: l, 0, f, h => by simp at h; subst h; simp [tokCells, tokC]
  | g :: l, k + 1, f, h => by
    rw [List.getElem?_cons_succ] at h
    have e : ∀ j, (tokCells (g :: l))[j + 3]? = (tokCells l)[j]? := by intro j; simp [tokCells, tokC]
    have := tokCells_at l k f h
    refine ⟨?_, ?_, ?_⟩
    · rw [show (k + 1) * 3 = k * 3 + 3 by omega, e]; exact this.1
    · rw [show (k + 1) * 3 + 1 = k * 3 + 1 + 3 by omega, e]; exact this.2.1
    · rw [show (k + 1) * 3 + 2 = k * 3 + 2 + 3 by omega, e]; exact this.2.2
theorem tokCells_take (l : List (Int × Int × Int)) (k : Nat) : tokCells (l.take k) = (tokCells l).take (k * 3) := by
  by_cases h : k ≤ l.length
  · have e : tokCells l = tokCells (l.take k) ++ tokCells (l.drop k) := by rw [← tokCells_append, List.take_append_drop]
    have e2 : k * 3 = (tokCells (l.take k)).length := by rw [tokCells_length, List.length_take]; omega
    rw [e, e2, List.take_left]
  · rw [List.take_of_length_le (by omega), List.take_of_length_le (by rw [tokCells_length]; omega)]
theorem tokCells_drop (l : List (Int × Int × Int)) (k : Nat) : tokCells (l.drop k) = (tokCells l).drop (k * 3) := by
  by_cases h : k ≤ l.length
  · have e : tokCells l = tokCells (l.take k) ++ tokCells (l.drop k) := by rw [← tokCells_append, List.take_append_drop]
    have e2 : k * 3 = (tokCells (l.take k)).length := by rw [tokCells_length, List.length_take]; omega
    rw [e, e2, List.drop_left]
  · rw [List.drop_of_length_le (by omega), List.drop_of_length_le (by rw [tokCells_length]; omega)]; rfl
/-- One token of a row that is seen, with its three cells. -/
theorem Seen.tok {w : World} {B : Nat} {A : Option Addr} {l : List (Int × Int × Int)} (h : Seen w B A (tokCells l)) {k : Nat} (hk : k < l.length) :
    ∃ g o s n c, A = some ⟨g, o, none⟩ ∧ g < B ∧ l[k]? = some (s, n, c) ∧ w.cell? ⟨g, o + k * 3, none⟩ = some (.int .i64 s) ∧ w.cell? ⟨g, o + k * 3 + 1, none⟩ = some (.int .i64 n) ∧ w.cell? ⟨g, o + k * 3 + 2, none⟩ = some (.int .i64 c) := by
  obtain ⟨g, o, e, hg, hc⟩ := h.at (by rw [tokCells_length]; omega)
  obtain ⟨⟨s, n, c⟩, hx⟩ := some_at hk
  obtain ⟨h1, h2, h3⟩ := tokCells_at l k _ hx
  exact ⟨g, o, s, n, c, e, hg, hx, hc _ _ h1, by have := hc _ _ h2; rw [Nat.add_assoc]; exact this, by have := hc _ _ h3; rw [Nat.add_assoc]; exact this⟩
theorem elem_tok : ElemOf Try.prog 59 56 3 24 := .mk' (z := .agg #[.int .i64 0, .int .i64 0, .int .i64 0]) Try.underlying59 (by kernel_rfl) rfl (by omega)
abbrev tokRow (v : Value) (l : List (Int × Int × Int)) : Row := ⟨56, 3, v, l.length, tokCells l⟩
theorem tokRow_append (v : Value) (l m : List (Int × Int × Int)) : (⟨56, 3, v, l.length + m.length, tokCells l ++ tokCells m⟩ : Row) = tokRow v (l ++ m) := by simp [tokRow, tokCells_append]
/-- In a walk: append of one token just laid onto the first of the rows. -/
theorem wpList_ownK {ops : Array Oper} {rest : List Oper} {o : Oper} {a : Act} {Q : Exit → Act → World → Prop} (w0 : World) (hgd : Region.wanted o (yielded ops a.tmps) = true) (s x : Operand)
    (ho : o.op = .call { callee := .builtin .append, args := #[s, x], argTypes := #[59, 59] })
    (B : Nat) (v : Value) (l : List (Int × Int × Int)) (rs : List Row) (hs : a.eval s = v) (HO : Owns B (tokRow v l :: rs) w0) (f0 f1 f2 : Int) (hx : a.eval x = .slice (some ⟨w0.heap.size, 0, none⟩) 1 1)
    (h63 : l.length + 1 ≤ 1099511627776)
    (h : ∀ v' w', Owns B (tokRow v' (l ++ [(f0, f1, f2)]) :: rs) w' → Below B w0 w' → w0.heap.size < w'.heap.size → wpList Try.prog ops Q rest (a.put o.dst v') w') : wpList Try.prog ops Q (o :: rest) a (w0.alloc (.cells #[.int .i64 f0, .int .i64 f1, .int .i64 f2] 56)) := by
  refine wpList_ownV _ hgd s x _ ho B 56 3 24 elem_tok v l.length (tokCells l) rs hs (HO.alloc _) (w0.heap.size + 1) _ 1 1 (tokCells [(f0, f1, f2)]) hx (Seen.new w0 (tokCells [(f0, f1, f2)]) _ _ (Nat.lt_succ_self _)) (by rw [tokCells_length]; rfl) tokCells_one (by unfold maxLen; omega) (by omega) ?_
  intro v' w' h2 h3
  have := h3.size
  refine h v' w' ?_ (((Below.refl _ _).alloc HO.base _).trans h3) (by simp at this; omega)
  rw [← tokRow_append]
  exact h2
/-- The same, the new block's number written out. -/
theorem wpList_ownKn {ops : Array Oper} {rest : List Oper} {o : Oper} {a : Act} {Q : Exit → Act → World → Prop} (w0 : World) (n : Nat) (hn : w0.heap.size = n) (hgd : Region.wanted o (yielded ops a.tmps) = true) (s x : Operand)
    (ho : o.op = .call { callee := .builtin .append, args := #[s, x], argTypes := #[59, 59] })
    (B : Nat) (v : Value) (l : List (Int × Int × Int)) (rs : List Row) (hs : a.eval s = v) (HO : Owns B (tokRow v l :: rs) w0) (f0 f1 f2 : Int) (hx : a.eval x = .slice (some ⟨n, 0, none⟩) 1 1)
    (h63 : l.length + 1 ≤ 1099511627776)
    (h : ∀ v' w', Owns B (tokRow v' (l ++ [(f0, f1, f2)]) :: rs) w' → Below B w0 w' → w0.heap.size < w'.heap.size → wpList Try.prog ops Q rest (a.put o.dst v') w') : wpList Try.prog ops Q (o :: rest) a (w0.alloc (.cells #[.int .i64 f0, .int .i64 f1, .int .i64 f2] 56)) := by
  subst hn
  exact wpList_ownK w0 hgd s x ho B v l rs hs HO f0 f1 f2 hx h63 h
theorem neq_tok (a b c a' b' c' : Int) (w : World) : (binOp .neq 56 (.agg #[.int .i64 a, .int .i64 b, .int .i64 c]) (.agg #[.int .i64 a', .int .i64 b', .int .i64 c'])).run Try.prog w = .ok (.bool (!(a == a' && (b == b' && c == c')))) w := by
  have h1 : Try.prog.underlying 56 = some (.struct (Try.prog.fieldsOf 56)) := by kernel_rfl
  have h2 : Try.prog.stoodInHeld 56 = false := by kernel_rfl
  have h3 : (Try.prog.fieldsOf 56).toList = [⟨ "Sym", 3, 0, false, "", "", 0⟩, ⟨ "Width", 3, 1, false, "", "", 8⟩, ⟨ "Value", 3, 2, false, "", "", 16⟩] := by kernel_rfl
  have ha : ∀ w, (isAgg 3).run Try.prog w = .ok false w := fun w => by kernel_rfl
  have he := fun d w x y => run_equalIn_int (P := Try.prog) w d 3 .i64 .i64 x y Try.underlying3
  rw [run_neq_struct, run_equalIn_agg (P := Try.prog) w 9999 _ _ _ h1 h2, h3]
  by_cases e1 : a = a' <;> by_cases e2 : b = b' <;> by_cases e3 : c = c' <;> simp [Op.eqFields, part, ha, he 9998, e1, e2, e3, Result.andThen]
theorem eql_tok (a b c a' b' c' : Int) (w : World) : (binOp .eql 56 (.agg #[.int .i64 a, .int .i64 b, .int .i64 c]) (.agg #[.int .i64 a', .int .i64 b', .int .i64 c'])).run Try.prog w = .ok (.bool (a == a' && (b == b' && c == c'))) w := by
  have h1 : Try.prog.underlying 56 = some (.struct (Try.prog.fieldsOf 56)) := by kernel_rfl
  have h2 : Try.prog.stoodInHeld 56 = false := by kernel_rfl
  have h3 : (Try.prog.fieldsOf 56).toList = [⟨ "Sym", 3, 0, false, "", "", 0⟩, ⟨ "Width", 3, 1, false, "", "", 8⟩, ⟨ "Value", 3, 2, false, "", "", 16⟩] := by kernel_rfl
  have ha : ∀ w, (isAgg 3).run Try.prog w = .ok false w := fun w => by kernel_rfl
  have he := fun d w x y => run_equalIn_int (P := Try.prog) w d 3 .i64 .i64 x y Try.underlying3
  rw [run_eql_struct, run_equalIn_agg (P := Try.prog) w 9999 _ _ _ h1 h2, h3]
  by_cases e1 : a = a' <;> by_cases e2 : b = b' <;> by_cases e3 : c = c' <;> simp [Op.eqFields, part, ha, he 9998, e1, e2, e3, Result.andThen]
end Go.Proofs.Ytbboakdfnjjddaa

/- bits.Len (small numbers) and the package size: Of, Bits, Back; their contracts. -/
namespace Go.Proofs.Ytbboakdfnjjddaa
open Go.RowKit
set_option linter.unusedVariables false
set_option linter.unusedSimpArgs false
set_option maxRecDepth 100000

theorem bitLen_sz : ∀ n : Fin 256, Lib.bitLen n.val = szN n.val := by decide +kernel
theorem len8_sz (x : Int) (h0 : 0 ≤ x) (h1 : x ≤ 255) : Lib.len8 x = (szN x.toNat : Nat) := by
  rw [Lib.len8_of x h0 h1, ← bitLen_sz ⟨x.toNat, by omega⟩]
theorem szN_shift {m : Nat} (h : 256 ≤ m) : szN m = 8 + szN (m / 256) := by
  have h1 := szN_ge (m := m / 256) (by omega)
  have h2 := szN_lt (m / 256)
  have h3 := szN_pos (m := m / 256) (by omega)
  obtain ⟨k, hk⟩ : ∃ k, szN (m / 256) = k + 1 := ⟨szN (m / 256) - 1, by omega⟩
  rw [hk] at h1 h2 ⊢
  rw [Nat.add_sub_cancel] at h1
  have e : szN m = (k + 8) + 1 := szN_is (by rw [Nat.pow_add]; omega) (by rw [show k + 8 + 1 = (k + 1) + 8 by omega, Nat.pow_add]; omega)
  rw [e]; omega
theorem szI {x y : Int} (h : x = y) : (Ending.returned (.int .i64 x)) = .returned (.int .i64 y) := by rw [h]
set_option maxHeartbeats 4000000 in
set_option maxRecDepth 100000 in
theorem len64_small (x : Int) (w : World) (h0 : 0 ≤ x) (h : x < 65536) :
    Calls Try.prog 134 #[.int .u64 x] w fun e w' => e = .returned (.int .i64 (szZ x : Nat)) ∧ w' = w := by
  by_cases h2 : x < 256
  · have h3 : x ≤ 255 := by omega
    go_enter Try.func134, Try.ntmps134
    go_wp2
    all_goals (go_ret; refine ⟨szI ?_, rfl⟩)
    rw [len8_sz x h0 h3]
    have e3 : szZ x = szN x.toNat := by unfold szZ; congr 1; omega
    have e4 := szN_le (m := x.toNat) (k := 8) (by omega)
    try unfold wrap64
    omega
  · have h3 : x / 256 ≤ 255 := by omega
    have h4 : 0 ≤ x / 256 := by omega
    go_enter Try.func134, Try.ntmps134
    go_wp2
    all_goals (go_ret; refine ⟨szI ?_, rfl⟩)
    rw [len8_sz (x / 256) h4 h3]
    have e5 : (x / 256).toNat = x.toNat / 256 := by omega
    have e3 : szZ x = 8 + szN (x / 256).toNat := by rw [e5, ← szN_shift (by omega)]; unfold szZ; congr 1; omega
    have e4 := szN_le (m := (x / 256).toNat) (k := 8) (by omega)
    try unfold wrap64
    omega
theorem len_small (x : Int) (w : World) (h0 : 0 ≤ x) (h : x < 65536) :
    Calls Try.prog 129 #[.int .u64 x] w fun e w' => e = .returned (.int .i64 (szZ x : Nat)) ∧ w' = w := by
  have HC := veil (len64_small x w h0 h)
  go_enter Try.func129, Try.ntmps129
  go_wp2_with fail
  refine HC.out.mono ?_
  rintro e w' ⟨rfl, rfl⟩
  go_wp2
  go_ret
  exact ⟨rfl, rfl⟩
/-- What the three functions answer. -/
def eS (n : Int) : Int := if -4095 ≤ n ∧ n ≤ 4095 then 0 else 1
def oS (n : Int) : Int := if -4095 ≤ n ∧ n ≤ 4095 then (szZ n : Nat) else 0
def oV (n : Int) : Int := if -4095 ≤ n ∧ n ≤ 4095 then vbZ n else 0
def eB (w v : Int) : Int := if 0 ≤ w ∧ w ≤ 12 ∧ 0 ≤ v ∧ v < pw w.toNat then 0 else 1
def oB (w v : Int) : Int := if 0 ≤ w ∧ w ≤ 12 ∧ 0 ≤ v ∧ v < pw w.toNat then bkZ w.toNat v else 0
theorem eS_ok {n : Int} (h1 : -4095 ≤ n) (h2 : n ≤ 4095) : eS n = 0 := if_pos ⟨h1, h2⟩
theorem oS_ok {n : Int} (h1 : -4095 ≤ n) (h2 : n ≤ 4095) : oS n = (szZ n : Nat) := if_pos ⟨h1, h2⟩
theorem oV_ok {n : Int} (h1 : -4095 ≤ n) (h2 : n ≤ 4095) : oV n = vbZ n := if_pos ⟨h1, h2⟩
theorem eS_bad {n : Int} (h : ¬ (-4095 ≤ n ∧ n ≤ 4095)) : eS n = 1 := if_neg h
theorem oS_bad {n : Int} (h : ¬ (-4095 ≤ n ∧ n ≤ 4095)) : oS n = 0 := if_neg h
theorem oV_bad {n : Int} (h : ¬ (-4095 ≤ n ∧ n ≤ 4095)) : oV n = 0 := if_neg h
theorem eB_ok {k : Nat} {v : Int} (hk : k ≤ 12) (h1 : 0 ≤ v) (h2 : v < pw k) : eB k v = 0 := if_pos ⟨by omega, by omega, h1, h2⟩
theorem oB_ok {k : Nat} {v : Int} (hk : k ≤ 12) (h1 : 0 ≤ v) (h2 : v < pw k) : oB k v = bkZ k v := if_pos ⟨by omega, by omega, h1, h2⟩
theorem eB_bad {w v : Int} (h : ¬ (0 ≤ w ∧ w ≤ 12 ∧ 0 ≤ v ∧ v < pw w.toNat)) : eB w v = 1 := if_neg h
theorem oB_bad {w v : Int} (h : ¬ (0 ≤ w ∧ w ≤ 12 ∧ 0 ≤ v ∧ v < pw w.toNat)) : oB w v = 0 := if_neg h
theorem eS_two (n : Int) : eS n = 0 ∨ eS n = 1 := by unfold eS; split <;> simp
theorem pow_pw (k : Nat) (h : k ≤ 12) : wrap64 ((2 : Int) ^ k) = pw k ∧ 1 ≤ pw k ∧ pw k ≤ 4096 := by
  have h1 := Nat.pow_le_pow_right (n := 2) (by omega) h
  have h2 := Nat.two_pow_pos k
  have e : ((2 : Int) ^ k) = ((2 ^ k : Nat) : Int) := by simp
  rw [e]
  unfold pw
  exact ⟨wrap64_nat _ (by omega), by omega, by omega⟩
theorem sz_max (n : Int) : szZ (max n (-n)) = szZ n := by
  by_cases h : n ≤ -n
  · rw [Int.max_eq_right h, szZ_neg]
  · rw [Int.max_eq_left (by omega)]
theorem of_ok (n : Int) (w : World) (h1 : -4095 ≤ n) (h2 : n ≤ 4095) :
    Calls Try.prog 118 #[.int .i64 n] w fun e w' => e = .returned (.tuple #[.int .i64 (szZ n : Nat), .int .i64 0]) ∧ w' = w := by
  have HC := veil (len_small (max n (-n)) w (by omega) (by omega))
  rw [sz_max] at HC
  generalize szZ n = s at *
  go_enter Try.func118, Try.ntmps118
  go_wp2_with fail
  refine HC.out.mono ?_
  rintro e w' ⟨rfl, rfl⟩
  go_wp2
  go_ret2
  exact ⟨rfl, rfl⟩
theorem of_lo (n : Int) (w : World) (h : n < -4095) :
    Calls Try.prog 118 #[.int .i64 n] w fun e w' => e = .returned (.tuple #[.int .i64 0, .int .i64 1]) ∧ w' = w := by
  go_enter Try.func118, Try.ntmps118
  go_wp2
  go_ret2
  exact ⟨rfl, rfl⟩
theorem of_hi (n : Int) (w : World) (h : 4095 < n) :
    Calls Try.prog 118 #[.int .i64 n] w fun e w' => e = .returned (.tuple #[.int .i64 0, .int .i64 1]) ∧ w' = w := by
  have h2 : ¬ n < -4095 := by omega
  go_enter Try.func118, Try.ntmps118
  go_wp2
  go_ret2
  exact ⟨rfl, rfl⟩
theorem of_any (n : Int) (w : World) :
    Calls Try.prog 118 #[.int .i64 n] w fun e w' => e = .returned (.tuple #[.int .i64 (oS n), .int .i64 (eS n)]) ∧ w' = w := by
  by_cases h : -4095 ≤ n ∧ n ≤ 4095
  · rw [oS_ok h.1 h.2, eS_ok h.1 h.2]; exact of_ok n w h.1 h.2
  · rw [oS_bad h, eS_bad h]
    by_cases h2 : n < -4095
    · exact of_lo n w h2
    · exact of_hi n w (by omega)
set_option maxHeartbeats 1000000 in
theorem bits_any (n : Int) (w : World) :
    Calls Try.prog 98 #[.int .i64 n] w fun e w' => e = .returned (.tuple #[.int .i64 (oS n), .int .i64 (oV n), .int .i64 (eS n)]) ∧ ∃ q, w' = w.drewN q := by
  have HC := veil (of_any n w)
  by_cases h : -4095 ≤ n ∧ n ≤ 4095
  · obtain ⟨h1, h2⟩ := h
    rw [oS_ok h1 h2, eS_ok h1 h2] at HC
    rw [oS_ok h1 h2, eS_ok h1 h2, oV_ok h1 h2]
    by_cases hn : 0 < n
    · have e : vbZ n = n := if_pos hn
      rw [e]
      generalize szZ n = s at *
      go_enter Try.func98, Try.ntmps98
      go_wp2_with fail
      refine HC.out.mono ?_
      rintro e w' ⟨rfl, rfl⟩
      go_wp2
      go_ret3
      exact ⟨rfl, 0, rfl⟩
    · have e : vbZ n = n + pw (szZ n) - 1 := if_neg hn
      rw [e]
      have hs := sz_12 h1 h2
      have HP := veil (pow_pw (szZ n) hs)
      generalize szZ n = s at *
      go_enter Try.func98, Try.ntmps98
      go_wp2_with fail
      refine HC.out.mono ?_
      rintro e w' ⟨rfl, rfl⟩
      go_wp2
      go_quiet (fail)
      go_wp2
      go_ret3
      refine ⟨ret_three rfl (congrArg (Value.int .i64) ?_) rfl, _, rfl⟩
      rw [HP.out.1]
      have := HP.out.2
      unfold wrap64
      omega
  · rw [oS_bad h, eS_bad h] at HC
    rw [oS_bad h, eS_bad h, oV_bad h]
    go_enter Try.func98, Try.ntmps98
    go_wp2_with fail
    refine HC.out.mono ?_
    rintro e w' ⟨rfl, rfl⟩
    go_wp2
    go_ret3
    exact ⟨rfl, 0, rfl⟩
set_option maxHeartbeats 1000000 in
theorem szBack_in (k : Nat) (v : Int) (w : World) (hk : k ≤ 12) (h1 : 0 ≤ v) (h2 : v < pw k) :
    Calls Try.prog 119 #[.int .i64 (k : Int), .int .i64 v] w fun e w' => e = .returned (.tuple #[.int .i64 (bkZ k v), .int .i64 0]) ∧ w' = w := by
  have HP := veil (pow_pw k hk)
  have h2' := veil h2
  have HB : Hid (bkZ k v = _) := bkZ.eq_1 k v
  have hkz : (k : Int) ≤ 12 := by omega
  clear h2
  generalize bkZ k v = R at *
  go_enter Try.func119, Try.ntmps119
  go_wp2
  all_goals (have e := HP.out.1; have e1 := HP.out.2; have e2 := h2'.out; have e3 := HB.out; clear HP h2' HB)
  all_goals (have e4 : wrap64 (2 * v) = 2 * v := by unfold wrap64; omega)
  all_goals (generalize hq : wrap64 ((2 : Int) ^ k) = P at *)
  all_goals (subst e; rw [e4] at *)
  all_goals first
    | (exfalso; omega)
    | (rw [if_pos (by omega)] at e3; clear hq; go_ret2; exact ⟨ret_two (congrArg (Value.int .i64) e3.symm) rfl, rfl⟩)
    | (rw [if_neg (by omega)] at e3; clear hq; go_ret2; refine ⟨ret_two (congrArg (Value.int .i64) ?_) rfl, rfl⟩; unfold wrap64; omega)
theorem back_lo (n v : Int) (w : World) (h : n < 0) :
    Calls Try.prog 119 #[.int .i64 n, .int .i64 v] w fun e w' => e = .returned (.tuple #[.int .i64 0, .int .i64 1]) ∧ w' = w := by
  go_enter Try.func119, Try.ntmps119
  go_wp2
  go_ret2
  exact ⟨rfl, rfl⟩
theorem back_hi (n v : Int) (w : World) (h : 12 < n) :
    Calls Try.prog 119 #[.int .i64 n, .int .i64 v] w fun e w' => e = .returned (.tuple #[.int .i64 0, .int .i64 1]) ∧ w' = w := by
  have h2 : ¬ n < 0 := by omega
  go_enter Try.func119, Try.ntmps119
  go_wp2
  go_ret2
  exact ⟨rfl, rfl⟩
theorem back_neg (n v : Int) (w : World) (h0 : 0 ≤ n) (h1 : n ≤ 12) (h : v < 0) :
    Calls Try.prog 119 #[.int .i64 n, .int .i64 v] w fun e w' => e = .returned (.tuple #[.int .i64 0, .int .i64 1]) ∧ w' = w := by
  go_enter Try.func119, Try.ntmps119
  go_wp2
  go_ret2
  exact ⟨rfl, rfl⟩
theorem back_big (k : Nat) (v : Int) (w : World) (hk : k ≤ 12) (h1 : 0 ≤ v) (h2 : pw k ≤ v) :
    Calls Try.prog 119 #[.int .i64 (k : Int), .int .i64 v] w fun e w' => e = .returned (.tuple #[.int .i64 0, .int .i64 1]) ∧ w' = w := by
  have HP := veil (pow_pw k hk)
  have h2' := veil h2
  have hkz : (k : Int) ≤ 12 := by omega
  clear h2
  go_enter Try.func119, Try.ntmps119
  go_wp2
  all_goals (have e := HP.out.1; have e1 := HP.out.2; have e2 := h2'.out; clear HP h2')
  all_goals (generalize hq : wrap64 ((2 : Int) ^ k) = P at *)
  all_goals (subst e)
  all_goals first
    | (exfalso; omega)
    | (go_ret2; exact ⟨rfl, rfl⟩)
theorem back_any (n v : Int) (w : World) :
    Calls Try.prog 119 #[.int .i64 n, .int .i64 v] w fun e w' => e = .returned (.tuple #[.int .i64 (oB n v), .int .i64 (eB n v)]) ∧ w' = w := by
  by_cases h0 : n < 0
  · rw [oB_bad (by omega), eB_bad (by omega)]; exact back_lo n v w h0
  · by_cases h1 : 12 < n
    · rw [oB_bad (by omega), eB_bad (by omega)]; exact back_hi n v w h1
    · by_cases h2 : v < 0
      · rw [oB_bad (by omega), eB_bad (by omega)]; exact back_neg n v w (by omega) (by omega) h2
      · obtain ⟨k, rfl⟩ : ∃ k : Nat, n = k := ⟨n.toNat, by omega⟩
        by_cases h3 : v < pw k
        · rw [oB_ok (by omega) (by omega) h3, eB_ok (by omega) (by omega) h3]; exact szBack_in k v w (by omega) (by omega) h3
        · rw [oB_bad (by rw [Int.toNat_natCast]; omega), eB_bad (by rw [Int.toNat_natCast]; omega)]; exact back_big k v w (by omega) (by omega) (by omega)
end Go.Proofs.Ytbboakdfnjjddaa

/- The laws' zigged: the order begins as the document says. -/
namespace Go.Proofs.Ytbboakdfnjjddaa
open Go.RowKit
set_option linter.unusedVariables false
set_option linter.unusedSimpArgs false
set_option maxRecDepth 100000

theorem zz_form {w : World} {B g c : Nat} {rs : List Row} (h : Owns B (intRow 3 .i64 (.slice (some ⟨g, 0, none⟩) 64 c) zz :: rs) w) : Seen w w.heap.size (some ⟨g, 0, none⟩) (ints .i64 zz) ∧ 64 ≤ c ∧ c ≤ maxLen := by
  obtain ⟨A, c', e, hs, h1, h2⟩ := h.seen (List.mem_cons_self ..)
  simp only [intRow, Value.slice.injEq] at e hs h1
  obtain ⟨e1, e2, e3⟩ := e
  rw [e1, e3]
  exact ⟨hs, by rw [e2]; exact h1, h2⟩
end Go.Proofs.Ytbboakdfnjjddaa

/- zig.To and zig.From: their contracts. -/
namespace Go.Proofs.Ytbboakdfnjjddaa
open Go.RowKit
set_option linter.unusedVariables false
set_option linter.unusedSimpArgs false
set_option maxRecDepth 100000

theorem zz_cellK {w : World} {B g : Nat} (h : Seen w B (some ⟨g, 0, none⟩) (ints .i64 zz)) {k : Nat} {x : Int} (hk : zz[k]? = some x) : w.cell? ⟨g, k, none⟩ = some (.int .i64 x) := by
  obtain ⟨g', o, e0, _, hc⟩ := h.cell (ints_at hk)
  injection e0 with e0
  injection e0 with e1 e2
  subst e1 e2
  rwa [Nat.zero_add] at hc
set_option maxHeartbeats 4000000 in
set_option maxRecDepth 100000 in
theorem to_any (cs : List Int) (w : World) (hc : cs.length = 64) :
    Calls Try.prog 75 #[blkV cs] w fun e w' => e = .returned (blkV (toL cs)) ∧ Below w.heap.size w w' := by
  have HA := veil (order_any (box3 cs w))
  obtain ⟨hb3, HB0, HB1, HB2, hz3⟩ := box3_is cs w
  go_enter Try.func75, Try.ntmps75
  go_wp2_with fail
  refine HA.out.mono ?_
  rintro e w2 ⟨g, c, rfl, HO, hb2⟩
  have h1 := (zz_form HO).1
  rw [hz3] at HO hb2
  have HB0' := HB0.below hb2 (by omega)
  have HB1' := HB1.below hb2 (by omega)
  have HB2' := veil (HB2.below hb2 (by omega))
  have hz2 := hb2.size
  have hbw := hb3.trans (hb2.mono (by omega))
  clear HA HB0 HB1 HB2 hb2 h1 hb3
  go_wp2_with fail
  go_loopg [8] 64 (fun gk i wr => ∃ k : Nat, gk = 64 - k ∧ k ≤ 64 ∧ i = .int .i64 (k : Int) ∧ Hid (Blk wr (w.heap.size + 1 + 1) (ints .i64 (toK cs k)) 47) ∧ Hid (w2.grownBy wr (some (w.heap.size + 1 + 1))))
  case atStart => exact ⟨0, rfl, by omega, rfl, veil (by rw [toK_zero]; exact HB2'.out), veil (World.grownBy.refl _ _)⟩
  case round =>
    clear HB2'
    obtain ⟨k, rfl, hk, rfl, HB, HG⟩ := hrel
    have HBX := HB0'.kept HG.out (by simp; omega)
    have HO2 := HO.kept HG.out (by omega)
    have h1 := (zz_form HO2).1
    by_cases hlt : k < 64
    · have hltz : (k : Int) < 64 := by omega
      obtain ⟨⟨n, hn64⟩, hn, _⟩ := zz_at ⟨k, hlt⟩
      simp only at hn
      have hnz : (n : Int) < 64 := by omega
      obtain ⟨x, hx⟩ := some_at (xs := cs) (j := n) (by omega)
      have hcn := zz_cellK h1 hn
      have hcx := HBX.cell (ints_at hx)
      obtain ⟨y, hy⟩ := some_at (xs := toK cs k) (j := k) (by rw [toK_length]; omega)
      have hcy := HB.out.cell (ints_at hy)
      have hfy := HB.out.frozen k
      have HB5 : Hid (Blk (wr.setCell ⟨w.heap.size + 1 + 1, k, none⟩ (.int .i64 x)) (w.heap.size + 1 + 1) (ints .i64 (toK cs (k + 1))) 47) := by
        rw [toK_next hlt hn hx]
        have := HB.out.set k (.int .i64 x)
        rw [show (ints .i64 (toK cs k)).set k (.int .i64 x) = ints .i64 ((toK cs k).set k x) by simp [ints, List.map_set]] at this
        exact this
      have HG5 : Hid (w2.grownBy (wr.setCell ⟨w.heap.size + 1 + 1, k, none⟩ (.int .i64 x)) (some (w.heap.size + 1 + 1))) :=
        HG.out.trans ⟨rfl, rfl, rfl, by simp [World.setCell], fun i _ hi => Below.heap_setCell _ _ _ _ (fun e => hi (by rw [e]))⟩
      clear HB HG HBX HO2 h1 hn hx hy
      go_wp2_with fail
      go_roundg (64 - (k + 1))
      case rel => exact ⟨k + 1, rfl, by omega, by go_num, HB5, HG5⟩
      case measure => omega
    · obtain rfl : k = 64 := by omega
      have HR := HB1'.kept HG.out (by simp)
      have HBr := HB.out
      have Hlen : Hid ((ints .i64 (toK cs 64)).length = 64) := by show _ = _; rw [ints_length, toK_length]
      have hone := ints_one (k := .i64) (l := toK cs 64)
      have hbg : Below w.heap.size w wr := hbw.grown HG.out hbw.size (fun j hj => by injection hj with hj; omega)
      have Hz := veil zeroB_length
      obtain ⟨xs, hxs⟩ : ∃ xs, xs = ints .i64 (toK cs 64) := ⟨_, rfl⟩
      rw [← hxs] at Hlen hone HBr
      have HX := veil hxs
      generalize zeroB = x0 at *
      clear HB HG HBX HO2 h1 hxs
      go_wp2_with (first
        | (refine wpList_load_mid rfl 47 (.tmp 3) rfl (w.heap.size + 1 + 1) 0 rfl xs _ HBr.range Try.underlying47 rfl (info_blkn Hlen.out) ?_)
        | (refine wpList_store_blk wr rfl 47 (.tmp 2) (.tmp 19) rfl (w.heap.size + 1) x0 xs 47 HR rfl rfl (info_blkn Hlen.out) (by rw [Hlen.out, Hz.out]) hone ?_; intro w5 HB5 hg5)
        | fail)
      refine bodyPost_ret (v := .agg xs.toArray) (results_cell_row rfl _ _ (w.heap.size + 1) 47 xs.toArray (0, 0) _ rfl HB5 Try.underlying47 rfl (by simp only [List.size_toArray]; exact info_blkn Hlen.out)) rfl ⟨by rw [HX.out]; rfl, hbg.grown hg5 hbg.size (fun j hj => by injection hj with hj; omega)⟩
set_option maxHeartbeats 4000000 in
set_option maxRecDepth 100000 in
theorem from_any (cs : List Int) (w : World) (hc : cs.length = 64) :
    Calls Try.prog 103 #[blkV cs] w fun e w' => e = .returned (blkV (fromL cs)) ∧ Below w.heap.size w w' := by
  have HA := veil (order_any (box3 cs w))
  obtain ⟨hb3, HB0, HB1, HB2, hz3⟩ := box3_is cs w
  go_enter Try.func103, Try.ntmps103
  go_wp2_with fail
  refine HA.out.mono ?_
  rintro e w2 ⟨g, c, rfl, HO, hb2⟩
  have h1 := (zz_form HO).1
  rw [hz3] at HO hb2
  have HB0' := HB0.below hb2 (by omega)
  have HB1' := HB1.below hb2 (by omega)
  have HB2' := veil (HB2.below hb2 (by omega))
  have hz2 := hb2.size
  have hbw := hb3.trans (hb2.mono (by omega))
  clear HA HB0 HB1 HB2 hb2 h1 hb3
  go_wp2_with fail
  go_loopg [8] 64 (fun gk i wr => ∃ k : Nat, gk = 64 - k ∧ k ≤ 64 ∧ i = .int .i64 (k : Int) ∧ Hid (Blk wr (w.heap.size + 1 + 1) (ints .i64 (fromK cs k)) 47) ∧ Hid (w2.grownBy wr (some (w.heap.size + 1 + 1))))
  case atStart => exact ⟨0, rfl, by omega, rfl, veil (by rw [fromK_zero]; exact HB2'.out), veil (World.grownBy.refl _ _)⟩
  case round =>
    clear HB2'
    obtain ⟨k, rfl, hk, rfl, HB, HG⟩ := hrel
    have HBX := HB0'.kept HG.out (by simp; omega)
    have HO2 := HO.kept HG.out (by omega)
    have h1 := (zz_form HO2).1
    by_cases hlt : k < 64
    · have hltz : (k : Int) < 64 := by omega
      obtain ⟨⟨n, hn64⟩, hn, _⟩ := zz_at ⟨k, hlt⟩
      simp only at hn
      have hnz : (n : Int) < 64 := by omega
      obtain ⟨x, hx⟩ := some_at (xs := cs) (j := k) (by omega)
      have hcn := zz_cellK h1 hn
      have hcx := HBX.cell (ints_at hx)
      obtain ⟨y, hy⟩ := some_at (xs := fromK cs k) (j := n) (by rw [fromK_length]; omega)
      have hcy := HB.out.cell (ints_at hy)
      have hfy := HB.out.frozen n
      have HB5 : Hid (Blk (wr.setCell ⟨w.heap.size + 1 + 1, n, none⟩ (.int .i64 x)) (w.heap.size + 1 + 1) (ints .i64 (fromK cs (k + 1))) 47) := by
        rw [fromK_next hlt hn hx]
        have := HB.out.set n (.int .i64 x)
        rw [show (ints .i64 (fromK cs k)).set n (.int .i64 x) = ints .i64 ((fromK cs k).set n x) by simp [ints, List.map_set]] at this
        exact this
      have HG5 : Hid (w2.grownBy (wr.setCell ⟨w.heap.size + 1 + 1, n, none⟩ (.int .i64 x)) (some (w.heap.size + 1 + 1))) :=
        HG.out.trans ⟨rfl, rfl, rfl, by simp [World.setCell], fun i _ hi => Below.heap_setCell _ _ _ _ (fun e => hi (by rw [e]))⟩
      clear HB HG HBX HO2 h1 hn hx hy
      go_wp2_with fail
      go_roundg (64 - (k + 1))
      case rel => exact ⟨k + 1, rfl, by omega, by go_num, HB5, HG5⟩
      case measure => omega
    · obtain rfl : k = 64 := by omega
      have HR := HB1'.kept HG.out (by simp)
      have HBr := HB.out
      have Hlen : Hid ((ints .i64 (fromK cs 64)).length = 64) := by show _ = _; rw [ints_length, fromK_length]
      have hone := ints_one (k := .i64) (l := fromK cs 64)
      have hbg : Below w.heap.size w wr := hbw.grown HG.out hbw.size (fun j hj => by injection hj with hj; omega)
      have Hz := veil zeroB_length
      obtain ⟨xs, hxs⟩ : ∃ xs, xs = ints .i64 (fromK cs 64) := ⟨_, rfl⟩
      rw [← hxs] at Hlen hone HBr
      have HX := veil hxs
      generalize zeroB = x0 at *
      clear HB HG HBX HO2 h1 hxs
      go_wp2_with (first
        | (refine wpList_load_mid rfl 47 (.tmp 3) rfl (w.heap.size + 1 + 1) 0 rfl xs _ HBr.range Try.underlying47 rfl (info_blkn Hlen.out) ?_)
        | (refine wpList_store_blk wr rfl 47 (.tmp 2) (.tmp 19) rfl (w.heap.size + 1) x0 xs 47 HR rfl rfl (info_blkn Hlen.out) (by rw [Hlen.out, Hz.out]) hone ?_; intro w5 HB5 hg5)
        | fail)
      refine bodyPost_ret (v := .agg xs.toArray) (results_cell_row rfl _ _ (w.heap.size + 1) 47 xs.toArray (0, 0) _ rfl HB5 Try.underlying47 rfl (by simp only [List.size_toArray]; exact info_blkn Hlen.out)) rfl ⟨by rw [HX.out]; rfl, hbg.grown hg5 hbg.size (fun j hj => by injection hj with hj; omega)⟩
end Go.Proofs.Ytbboakdfnjjddaa

/- The reference's outside, in a text of its own. -/
namespace Go.Proofs.Ytbboakdfnjjddaa
open Go.RowKit
set_option linter.unusedVariables false
set_option linter.unusedSimpArgs false
set_option maxRecDepth 100000

theorem out_yes (n lo hi : Int) (h : n < lo ∨ hi < n) (w : World) : Calls Try.prog 43 #[.int .i64 n, .int .i64 lo, .int .i64 hi] w fun e w' => e = .returned (.bool true) ∧ w' = w := by
  go_enter Try.func43, Try.ntmps43
  go_wp2
  all_goals (go_ret; exact ⟨ret_bool (by simp <;> omega), rfl⟩)
theorem out_no (n lo hi : Int) (h : lo ≤ n ∧ n ≤ hi) (w : World) : Calls Try.prog 43 #[.int .i64 n, .int .i64 lo, .int .i64 hi] w fun e w' => e = .returned (.bool false) ∧ w' = w := by
  go_enter Try.func43, Try.ntmps43
  go_wp2
  all_goals (go_ret; exact ⟨ret_bool (by simp <;> omega), rfl⟩)
end Go.Proofs.Ytbboakdfnjjddaa

/- The reference's power, SizeBits and SizeBack: their contracts. -/
namespace Go.Proofs.Ytbboakdfnjjddaa
open Go.RowKit
set_option linter.unusedVariables false
set_option linter.unusedSimpArgs false
set_option maxRecDepth 100000

theorem powr_any (k : Nat) (w : World) (h : k ≤ 24) : Calls Try.prog 83 #[.int .i64 k] w fun e w' => e = .returned (.int .i64 (pw k)) ∧ w' = w := by
  go_enter Try.func83, Try.ntmps83
  go_wp2
  go_ret
  refine ⟨?_, rfl⟩
  have h1 : 2 ^ k ≤ 2 ^ 24 := two_pow_lt _ _ h
  have e : wrap64 ((2 : Int) ^ k) = ((2 ^ k : Nat) : Int) := by rw [show ((2 : Int) ^ k) = ((2 ^ k : Nat) : Int) by simp]; exact wrap64_nat _ (by omega)
  exact congrArg (fun x => Ending.returned (.int .i64 x)) e
theorem pw_le_of {n : Int} {k : Nat} (h : k < szZ n) : pw k ≤ max n (-n) := by
  have h0 : n ≠ 0 := by intro e; subst e; rw [szZ_zero] at h; omega
  have h1 := szZ_ge h0
  have h2 := pw_mono (a := k + 1) (b := szZ n) (by omega)
  rw [pw_succ] at h2
  omega
theorem vb_ref (n : Int) : vbZ n = if n < 0 then n + pw (szZ n) - 1 else n := by
  unfold vbZ
  rcases Int.lt_trichotomy n 0 with h | h | h
  · rw [if_neg (by omega), if_pos h]
  · subst h; rfl
  · rw [if_pos h, if_neg (by omega)]
set_option maxHeartbeats 1000000 in
theorem refBits_ok (n : Int) (w : World) (h1 : -4095 ≤ n) (h2 : n ≤ 4095) :
    Calls Try.prog 78 #[.int .i64 n] w fun e w' => e = .returned (.tuple #[.int .i64 (szZ n : Nat), .int .i64 (vbZ n), .int .i64 0]) ∧ w' = w := by
  have HO := veil (out_no n (-4095) 4095 ⟨h1, h2⟩ w)
  have HV := veil (vb_ref n)
  have hs := sz_12 h1 h2
  have HL : Hid (∀ k, k < szZ n → pw k ≤ max n (-n)) := fun k h => pw_le_of h
  have HG : Hid (max n (-n) < pw (szZ n)) := by show _ < _; have := szZ_lt n; omega
  have HP : Hid (∀ k W, k ≤ 12 → _) := fun k W (h : k ≤ 12) => powr_any k W (by omega)
  have HB := veil (pow_pw (szZ n) hs).2
  generalize vbZ n = V at *
  generalize szZ n = s at *
  go_enter Try.func78, Try.ntmps78
  go_wp2_with fail
  refine HO.out.mono ?_
  rintro e w' ⟨rfl, rfl⟩
  go_wp2_with fail
  go_loopg [5] s (fun gk i wr => ∃ k : Nat, gk = s - k ∧ k ≤ s ∧ i = .int .i64 (k : Int) ∧ wr = w')
  case atStart => exact ⟨0, rfl, by omega, rfl, rfl⟩
  case round =>
    obtain ⟨k, rfl, hk, rfl, rfl⟩ := hrel
    have HQ := veil (HP.out k wr (by omega))
    by_cases hlt : k < s
    · have h3 := HL.out k hlt
      go_wp2_with fail
      refine HQ.out.mono ?_
      rintro e w1 ⟨rfl, rfl⟩
      go_wp2
      go_roundg (s - (k + 1))
      case rel => exact ⟨k + 1, rfl, by omega, by go_num, rfl⟩
      case measure => omega
    · obtain rfl : k = s := by omega
      have h3 := HG.out
      go_wp2_with fail
      refine HQ.out.mono ?_
      rintro e w1 ⟨rfl, rfl⟩
      by_cases hn : n < 0
      · go_wp2_with fail
        refine HQ.out.mono ?_
        rintro e w2 ⟨rfl, rfl⟩
        go_wp2
        go_ret3
        refine ⟨ret_three rfl (congrArg (Value.int .i64) ?_) rfl, rfl⟩
        rw [HV.out, if_pos hn]
        have := HB.out
        unfold wrap64
        omega
      · go_wp2
        go_ret3
        refine ⟨ret_three rfl (congrArg (Value.int .i64) ?_) rfl, rfl⟩
        rw [HV.out, if_neg (by omega)]
theorem refBits_bad (n : Int) (w : World) (h : ¬ (-4095 ≤ n ∧ n ≤ 4095)) :
    Calls Try.prog 78 #[.int .i64 n] w fun e w' => e = .returned (.tuple #[.int .i64 0, .int .i64 0, .int .i64 1]) ∧ w' = w := by
  have HO := veil (out_yes n (-4095) 4095 (by omega) w)
  go_enter Try.func78, Try.ntmps78
  go_wp2_with fail
  refine HO.out.mono ?_
  rintro e w' ⟨rfl, rfl⟩
  go_wp2
  go_ret3
  exact ⟨rfl, rfl⟩
theorem refBits_any (n : Int) (w : World) :
    Calls Try.prog 78 #[.int .i64 n] w fun e w' => e = .returned (.tuple #[.int .i64 (oS n), .int .i64 (oV n), .int .i64 (eS n)]) ∧ w' = w := by
  by_cases h : -4095 ≤ n ∧ n ≤ 4095
  · rw [oS_ok h.1 h.2, eS_ok h.1 h.2, oV_ok h.1 h.2]; exact refBits_ok n w h.1 h.2
  · rw [oS_bad h, eS_bad h, oV_bad h]; exact refBits_bad n w h
/-- Which of the two numbers is told. -/
theorem two_first {k : Nat} {v : Int} (h0 : 0 ≤ v) (h1 : v < pw k) (h : szZ v = k) : bkZ k v = v := by
  have e : vbZ v = v := by rw [vb_ref, if_neg (by omega)]
  have := bk_vb v
  rw [e, h] at this
  exact this
theorem two_second {k : Nat} {v : Int} (h0 : 0 ≤ v) (h1 : v < pw k) (h : szZ v ≠ k) : bkZ k v = v - pw k + 1 := by
  unfold bkZ
  rw [if_neg]
  intro h2
  have e := sz_bk h0 h1
  unfold bkZ at e
  rw [if_pos h2] at e
  exact h e
theorem two_cells (w : World) (a b : Value) (t : TypeId) : (w.alloc (.cells #[a, b] t)).cell? ⟨w.heap.size, 0, none⟩ = some a ∧ (w.alloc (.cells #[a, b] t)).cell? ⟨w.heap.size, 1, none⟩ = some b := by
  rcases Seen.new w [a, b] t (w.heap.size + 1) (by omega) with h | ⟨g, o, e, _, h⟩
  · cases h
  · obtain ⟨rfl, rfl⟩ : w.heap.size = g ∧ 0 = o := by simpa using e
    exact ⟨h 0 a rfl, h 1 b rfl⟩
set_option maxHeartbeats 2000000 in
set_option maxRecDepth 100000 in
theorem refBack_in (k : Nat) (v : Int) (w : World) (hk : k ≤ 12) (h1 : 0 ≤ v) (h2 : v < pw k) :
    Calls Try.prog 67 #[.int .i64 (k : Int), .int .i64 v] w fun e w' => e = .returned (.tuple #[.int .i64 (bkZ k v), .int .i64 0]) ∧ Below w.heap.size w w' := by
  have hp := (pow_pw k hk).2
  have HO1 := veil (out_no (k : Int) 0 12 ⟨by omega, by omega⟩ w)
  have HP := veil (fun W => powr_any k W (by omega))
  have HO2 := veil (out_no v 0 (pw k - 1) ⟨h1, by omega⟩ w)
  have H1 := veil (fun W => refBits_ok v W (by omega) (by omega))
  have H2 := veil (fun W => refBits_ok (v - pw k + 1) W (by omega) (by omega))
  have HE1 : Hid (szZ v = k → v = bkZ k v) := fun h => (two_first h1 h2 h).symm
  have HE2 : Hid (szZ v ≠ k → v - pw k + 1 = bkZ k v) := fun h => (two_second h1 h2 h).symm
  have HE3 : Hid (szZ (bkZ k v) = k ∧ vbZ (bkZ k v) = v) := ⟨sz_bk h1 h2, vb_bk h1 h2⟩
  have HV1 : Hid (vbZ v = v) := by show _ = _; rw [vb_ref, if_neg (by omega)]
  have hb := below1 w (.cells (ints .i64 [v, v - pw k + 1]).toArray 3)
  have hc : (w.alloc (.cells (ints .i64 [v, v - pw k + 1]).toArray 3)).cell? ⟨w.heap.size, 0, none⟩ = some (.int .i64 v) ∧ (w.alloc (.cells (ints .i64 [v, v - pw k + 1]).toArray 3)).cell? ⟨w.heap.size, 1, none⟩ = some (.int .i64 (v - pw k + 1)) := two_cells w _ _ _
  generalize bkZ k v = R at *
  go_enter Try.func67, Try.ntmps67
  go_wp2_with fail
  refine HO1.out.mono ?_
  rintro e w' ⟨rfl, rfl⟩
  go_wp2_with fail
  refine (HP.out _).mono ?_
  rintro e w1 ⟨rfl, rfl⟩
  go_wp2_with fail
  refine HO2.out.mono ?_
  rintro e w2 ⟨rfl, rfl⟩
  go_wp2_with fail
  refine (HP.out _).mono ?_
  rintro e w3 ⟨rfl, rfl⟩
  clear HO1 HO2 HP
  go_wp2_with fail
  go_loopg [28] 2 (fun gk i wr => ((gk = 2 ∧ i = .int .i64 0) ∨ (gk = 1 ∧ i = .int .i64 1 ∧ Hid (szZ v ≠ k))) ∧ wr.cell? ⟨w3.heap.size, 0, none⟩ = some (.int .i64 v) ∧ wr.cell? ⟨w3.heap.size, 1, none⟩ = some (.int .i64 (v - pw k + 1)) ∧ Below w3.heap.size w3 wr)
  case atStart => exact ⟨.inl ⟨rfl, rfl⟩, hc.1, hc.2, hb⟩
  case round =>
    obtain ⟨hi, hc0, hc1, hbw⟩ := hrel
    clear hb hc
    rcases hi with ⟨rfl, rfl⟩ | ⟨rfl, rfl, Hne⟩
    · go_wp2_with fail
      refine (H1.out _).mono ?_
      rintro e w4 ⟨rfl, rfl⟩
      by_cases hz : szZ v = k
      · have hR := HE1.out hz
        have hv := HV1.out
        rw [hv, hz]
        clear hz hv HE2 HE3 HV1 H1 H2
        subst hR
        go_wp2
        go_ret2
        exact ⟨rfl, hbw⟩
      · have hzz : ¬ ((szZ v : Nat) : Int) = (k : Int) := by omega
        have HZ := veil hz
        clear hz
        go_wp2
        go_roundg 1
        case rel => exact ⟨.inr ⟨rfl, rfl, HZ⟩, hc0, hc1, hbw⟩
        case measure => omega
    · have hR := HE2.out Hne.out
      obtain ⟨h3, h4⟩ := HE3.out
      rw [hR] at hc1 H2
      rw [h3, h4] at H2
      clear hc0 HE2 hR
      go_wp2_with fail
      refine (H2.out _).mono ?_
      rintro e w4 ⟨rfl, rfl⟩
      go_wp2
      go_ret2
      exact ⟨rfl, hbw⟩
theorem refBack_bad1 (n v : Int) (w : World) (h : n < 0 ∨ 12 < n) :
    Calls Try.prog 67 #[.int .i64 n, .int .i64 v] w fun e w' => e = .returned (.tuple #[.int .i64 0, .int .i64 1]) ∧ Below w.heap.size w w' := by
  have HO1 := veil (out_yes n 0 12 h w)
  clear h
  go_enter Try.func67, Try.ntmps67
  go_wp2_with fail
  refine HO1.out.mono ?_
  rintro e w' ⟨rfl, rfl⟩
  go_wp2
  go_ret2
  exact ⟨rfl, Below.refl _ _⟩
theorem refBack_bad2 (k : Nat) (v : Int) (w : World) (hk : k ≤ 12) (h : v < 0 ∨ pw k ≤ v) :
    Calls Try.prog 67 #[.int .i64 (k : Int), .int .i64 v] w fun e w' => e = .returned (.tuple #[.int .i64 0, .int .i64 1]) ∧ Below w.heap.size w w' := by
  have hp := (pow_pw k hk).2
  have HO1 := veil (out_no (k : Int) 0 12 ⟨by omega, by omega⟩ w)
  have HP := veil (fun W => powr_any k W (by omega))
  have HO2 := veil (out_yes v 0 (pw k - 1) (by omega) w)
  clear h
  go_enter Try.func67, Try.ntmps67
  go_wp2_with fail
  refine HO1.out.mono ?_
  rintro e w' ⟨rfl, rfl⟩
  go_wp2_with fail
  refine (HP.out _).mono ?_
  rintro e w1 ⟨rfl, rfl⟩
  go_wp2_with fail
  refine HO2.out.mono ?_
  rintro e w2 ⟨rfl, rfl⟩
  go_wp2
  go_ret2
  exact ⟨rfl, Below.refl _ _⟩
theorem refBack_any (n v : Int) (w : World) :
    Calls Try.prog 67 #[.int .i64 n, .int .i64 v] w fun e w' => e = .returned (.tuple #[.int .i64 (oB n v), .int .i64 (eB n v)]) ∧ Below w.heap.size w w' := by
  by_cases h0 : n < 0 ∨ 12 < n
  · rw [oB_bad (by omega), eB_bad (by omega)]; exact refBack_bad1 n v w h0
  · obtain ⟨k, rfl⟩ : ∃ k : Nat, n = k := ⟨n.toNat, by omega⟩
    by_cases h3 : 0 ≤ v ∧ v < pw k
    · rw [oB_ok (by omega) h3.1 h3.2, eB_ok (by omega) h3.1 h3.2]; exact refBack_in k v w (by omega) h3.1 h3.2
    · rw [oB_bad (by rw [Int.toNat_natCast]; omega), eB_bad (by rw [Int.toNat_natCast]; omega)]; exact refBack_bad2 k v w (by omega) (by omega)
end Go.Proofs.Ytbboakdfnjjddaa

/- quant.Round, clamp, within, Check, checkBoth: their contracts. -/
namespace Go.Proofs.Ytbboakdfnjjddaa
open Go.RowKit
set_option linter.unusedVariables false
set_option linter.unusedSimpArgs false
set_option maxRecDepth 100000

/-- A long load, also behind a guard that lets it run. -/
theorem wpList_load_long {P : Program} {ops : Array Oper} {rest : List Oper} {op : Oper} {a : Act} {w : World} {Q : Exit → Act → World → Prop} (hgd : Region.wanted op (yielded ops a.tmps) = true) (ty : TypeId) (x : Operand) (ho : op.op = .load ty x)
    (b o : Nat) (hx : a.eval x = .pointer (some ⟨b, o, none⟩)) (cs : List Value) (d : TypeDesc) (hc : w.rangeAt b o cs)
    (hu : P.underlying ty = some d) (hd : d.isRow = true) (hi : (P.info? ty).map (·.size) = some cs.length)
    (h : wpList P ops Q rest (a.put op.dst (.agg cs.toArray)) w) : wpList P ops Q (op :: rest) a w :=
  wpList_step fun K hK => by
    rw [if_pos hgd]
    exact wp_load_mid ty x ho b o hx cs d hc hu hd hi (hK _ _ h)
theorem retI {x y : Int} (h : x = y) : (Ending.returned (.int .i64 x)) = .returned (.int .i64 y) := by rw [h]
theorem wrap_small {x : Int} (h1 : -4611686018427387904 ≤ x) (h2 : x ≤ 4611686018427387904) : wrap64 x = x := by unfold wrap64; omega
theorem tdiv_small {n d M : Int} (h1 : -M ≤ n) (h2 : n ≤ M) : -M ≤ n.tdiv d ∧ n.tdiv d ≤ M := by
  have h3 := Int.natAbs_tdiv n d
  have h4 := Nat.div_le_self n.natAbs d.natAbs
  have h5 : n.natAbs.div d.natAbs = n.natAbs / d.natAbs := rfl
  rw [h5] at h3
  omega
theorem inB_take {lo hi : Int} {cs : List Int} {k : Nat} {x : Int} (hx : cs[k]? = some x) (h : inB lo hi (cs.take k) = true) (h1 : lo ≤ x) (h2 : x ≤ hi) : inB lo hi (cs.take (k + 1)) = true := by
  rw [take_snoc hx]; unfold inB at *; rw [List.all_append, h]; simp [h1, h2]
theorem inB_not {lo hi : Int} {cs : List Int} {k : Nat} {x : Int} (hx : cs[k]? = some x) (h : ¬ (lo ≤ x ∧ x ≤ hi)) : badB lo hi cs = 1 := by
  unfold badB; rw [if_neg]; intro h1; exact h (inB_at h1 hx)
theorem inB_all {lo hi : Int} {cs : List Int} (hc : cs.length = 64) (h : inB lo hi (cs.take 64) = true) : badB lo hi cs = 0 := by
  rw [List.take_of_length_le (by omega)] at h; unfold badB; rw [if_pos h]
end Go.Proofs.Ytbboakdfnjjddaa

/- The reference's clamp, Round and BlockWithin: their contracts. -/
namespace Go.Proofs.Ytbboakdfnjjddaa
open Go.RowKit
set_option linter.unusedVariables false
set_option linter.unusedSimpArgs false
set_option maxRecDepth 100000

/-- The rounding of a number that is not negative. -/
theorem rnd_nonneg {m d : Int} (hd : 0 < d) (hm : 0 ≤ m) : rnd m d = if d ≤ 2 * m.tmod d then m.tdiv d + 1 else m.tdiv d := by
  have h4 := Int.tmod_nonneg d hm
  unfold rnd
  generalize m.tmod d = r at *
  split <;> split <;> (try split) <;> omega
theorem inB_bad {lo hi : Int} {cs : List Int} {k : Nat} {x : Int} (hx : cs[k]? = some x) (h : ¬ (lo ≤ x ∧ x ≤ hi)) : inB lo hi cs = false := by
  cases e : inB lo hi cs with
  | false => rfl
  | true => exact absurd (inB_at e hx) h
set_option maxHeartbeats 1000000 in
set_option maxRecDepth 100000 in
theorem bwithin_any (cs : List Int) (lo hi : Int) (w : World) (hc : cs.length = 64) :
    Calls Try.prog 26 #[blkV cs, .int .i64 lo, .int .i64 hi] w fun e w' => e = .returned (.bool (inB lo hi cs)) ∧ Below w.heap.size w w' := by
  have hb0 := below1 w (.cells (ints .i64 cs).toArray 47)
  have hr := range_new w (ints .i64 cs) 47
  have Hl : Hid ((ints .i64 cs).length = 64) := by show _ = _; rw [ints_length, hc]
  have Hat : Hid (∀ (k : Nat) (x : Int), cs[k]? = some x → (ints .i64 cs)[k]? = some (.int .i64 x)) := fun _ _ h => ints_at h
  obtain ⟨E, hE⟩ : ∃ E, E = inB lo hi cs := ⟨_, rfl⟩
  rw [← hE]
  have HE := veil hE; clear hE
  unfold blkV
  generalize ints .i64 cs = xs at *
  go_enter Try.func26, Try.ntmps26
  go_wp2_with (first
    | (refine wpList_load_mid rfl 47 (.tmp 3) rfl w.heap.size 0 rfl xs _ hr Try.underlying47 rfl (info_blkn Hl.out) ?_)
    | fail)
  go_loopg [10] 64 (fun gk i wr => ∃ k : Nat, gk = 64 - k ∧ k ≤ 64 ∧ i = .int .i64 (k : Int) ∧ Hid (inB lo hi (cs.take k) = true) ∧ Below w.heap.size w wr)
  case atStart => exact ⟨0, rfl, by omega, rfl, by simp [inB, Hid], hb0⟩
  case round =>
    clear hr hb0
    obtain ⟨k, rfl, hk, rfl, HI, hb⟩ := hrel
    by_cases hlt : k < 64
    · have hltz : (k : Int) < 64 := by omega
      obtain ⟨x, hx⟩ := some_at (xs := cs) (j := k) (by omega)
      have hxs := Hat.out _ _ hx
      by_cases h1 : lo ≤ x ∧ x ≤ hi
      · have HI2 := veil (inB_take hx HI.out h1.1 h1.2)
        have HO := veil (out_no x lo hi h1 wr)
        clear HI hx
        go_wp2_with (first
          | (refine wpList_index_arr rfl 47 (.tmp 9) (.tmp 10) rfl 64 3 .i64 Try.underlying47 Try.underlying3 (by kernel_rfl) xs rfl .i64 k rfl (.int .i64 x) hlt hxs ?_)
          | fail)
        refine HO.out.mono ?_
        rintro e w1 ⟨rfl, rfl⟩
        go_wp2_with fail
        go_roundg (64 - (k + 1))
        case rel => exact ⟨k + 1, rfl, by omega, by go_num, HI2, hb⟩
        case measure => omega
      · have h2 := inB_bad hx h1
        have HO := veil (out_yes x lo hi (by omega) wr)
        rw [← HE.out] at h2
        subst h2
        clear HI hx
        go_wp2_with (first
          | (refine wpList_index_arr rfl 47 (.tmp 9) (.tmp 10) rfl 64 3 .i64 Try.underlying47 Try.underlying3 (by kernel_rfl) xs rfl .i64 k rfl (.int .i64 x) hlt hxs ?_)
          | fail)
        refine HO.out.mono ?_
        rintro e w1 ⟨rfl, rfl⟩
        go_wp2
        go_ret
        exact ⟨rfl, hb⟩
    · obtain rfl : k = 64 := by omega
      have h2 : inB lo hi cs = true := by have := HI.out; rw [List.take_of_length_le (by omega)] at this; exact this
      rw [← HE.out] at h2
      subst h2
      go_wp2
      go_ret
      exact ⟨rfl, hb⟩
end Go.Proofs.Ytbboakdfnjjddaa
