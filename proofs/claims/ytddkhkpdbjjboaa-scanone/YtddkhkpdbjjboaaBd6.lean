/- Texts shared by the claims of this seat, in one. -/
import Derived.Test.YtddkhkpdbjjboaaBd1
import Derived.Test.YtddkhkpdbjjboaaRows
import Derived.Laws.StructEq
import Derived.Test.YtddkhkpdbjjboaaBd3
import Derived.Lib.Strings
import Derived.Lib.Slices
import Derived.Lib.Small
import Derived.Lib.Walk
import Derived.Lib.BitFns
import Derived.BigQuiet
import Derived.Test.YtddkhkpdbjjboaaBd2
import Derived.Deep.LoopGhost
/- Tokens in memory: structs of three integers in a row. -/
namespace Go.Proofs.Ytddkhkpdbjjboaa
open Go.RowKit
set_option linter.unusedVariables false
set_option linter.unusedSimpArgs false
set_option maxRecDepth 100000

def tokC (f : Int × Int × Int) : List Value := [.int .i64 f.1, .int .i64 f.2.1, .int .i64 f.2.2]
def tokCells (l : List (Int × Int × Int)) : List Value := l.flatMap tokC
theorem tokCells_length (l : List (Int × Int × Int)) : (tokCells l).length = l.length * 3 := by
  induction l with
  | nil => rfl
  | cons f l ih => simp [tokCells, tokC] at ih ⊢; omega
theorem tokCells_append (l m : List (Int × Int × Int)) : tokCells (l ++ m) = tokCells l ++ tokCells m := by simp [tokCells]
theorem tokCells_one {l : List (Int × Int × Int)} : ∀ u ∈ tokCells l, u.oneCell' = true := by
  intro u hu
  simp only [tokCells, List.mem_flatMap] at hu
  obtain ⟨f, _, hu⟩ := hu
  simp [tokC] at hu
  rcases hu with rfl | rfl | rfl <;> rfl
theorem tokCells_at : ∀ (l : List (Int × Int × Int)) (k : Nat) (f : Int × Int × Int), l[k]? = some f → (tokCells l)[k * 3]? = some (.int .i64 f.1) ∧ (tokCells l)[k * 3 + 1]? = some (.int .i64 f.2.1) ∧ (tokCells l)[k * 3 + 2]? = some (.int .i64 f.2.2)
  | [], k, f, h => by simp at h
  | g :: l, 0, f, h => by simp at h; subst h; simp [tokCells, tokC]
  | g :: l, k + 1, f, h => by
    rw [List.getElem?_cons_succ] at h
    have e : ∀ j, (tokCells (g :: l))[j + 3]? = (tokCells l)[j]? := by intro j; simp [tokCells, tokC]
    have := tokCells_at l k f h
    refine ⟨?_, ?_, ?_⟩
    · rw [show (k + 1) * 3 = k * 3 + 3 by omega, e]; exact this.1
    · rw [show (k + 1) * 3 + 1 = k * 3 + 1 + 3 by omega, e]; exact this.2.1
    · rw [show (k + 1) * 3 + 2 = k * 3 + 2 + 3 by omega, e]; exact this.2.2
theorem tokCells_take (l : List (Int × Int × Int)) (k : Nat) : tokCells (l.take k) = (tokCells l).take (k * 3) := by
  by_cases h : k ≤ l.length
  · have e : tokCells l = tokCells (l.take k) ++ tokCells (l.drop k) := by rw [← tokCells_append, List.take_append_drop]
    have e2 : k * 3 = (tokCells (l.take k)).length := by rw [tokCells_length, List.length_take]; omega
    rw [e, e2, List.take_left]
  · rw [List.take_of_length_le (by omega), List.take_of_length_le (by rw [tokCells_length]; omega)]
/-- One token of a row that is seen, with its three cells. -/
theorem Seen.tok {w : World} {B : Nat} {A : Option Addr} {l : List (Int × Int × Int)} (h : Seen w B A (tokCells l)) {k : Nat} (hk : k < l.length) :
    ∃ g o s n c, A = some ⟨g, o, none⟩ ∧ g < B ∧ l[k]? = some (s, n, c) ∧ w.cell? ⟨g, o + k * 3, none⟩ = some (.int .i64 s) ∧ w.cell? ⟨g, o + k * 3 + 1, none⟩ = some (.int .i64 n) ∧ w.cell? ⟨g, o + k * 3 + 2, none⟩ = some (.int .i64 c) := by
  obtain ⟨g, o, e, hg, hc⟩ := h.at (by rw [tokCells_length]; omega)
  obtain ⟨⟨s, n, c⟩, hx⟩ := some_at hk
  obtain ⟨h1, h2, h3⟩ := tokCells_at l k _ hx
  exact ⟨g, o, s, n, c, e, hg, hx, hc _ _ h1, by have := hc _ _ h2; rw [Nat.add_assoc]; exact this, by have := hc _ _ h3; rw [Nat.add_assoc]; exact this⟩
theorem elem_tok : ElemOf Try.prog 89 76 3 24 := .mk' (z := .agg #[.int .i64 0, .int .i64 0, .int .i64 0]) Try.underlying89 (by kernel_rfl) rfl (by omega)
abbrev tokRow (v : Value) (l : List (Int × Int × Int)) : Row := ⟨76, 3, v, l.length, tokCells l⟩
theorem tokRow_append (v : Value) (l m : List (Int × Int × Int)) : (⟨76, 3, v, l.length + m.length, tokCells l ++ tokCells m⟩ : Row) = tokRow v (l ++ m) := by simp [tokRow, tokCells_append]
/-- In a walk: append of one token just laid onto the first of the rows. -/
theorem wpList_ownK {ops : Array Oper} {rest : List Oper} {o : Oper} {a : Act} {Q : Exit → Act → World → Prop} (w0 : World) (hgd : Region.wanted o (yielded ops a.tmps) = true) (s x : Operand)
    (ho : o.op = .call { callee := .builtin .append, args := #[s, x], argTypes := #[89, 89] })
    (B : Nat) (v : Value) (l : List (Int × Int × Int)) (rs : List Row) (hs : a.eval s = v) (HO : Owns B (tokRow v l :: rs) w0) (f0 f1 f2 : Int) (hx : a.eval x = .slice (some ⟨w0.heap.size, 0, none⟩) 1 1)
    (h63 : l.length + 1 ≤ 1099511627776)
    (h : ∀ v' w', Owns B (tokRow v' (l ++ [(f0, f1, f2)]) :: rs) w' → Below B w0 w' → w0.heap.size < w'.heap.size → wpList Try.prog ops Q rest (a.put o.dst v') w') : wpList Try.prog ops Q (o :: rest) a (w0.alloc (.cells #[.int .i64 f0, .int .i64 f1, .int .i64 f2] 76)) := by
  refine wpList_ownV _ hgd s x _ ho B 76 3 24 elem_tok v l.length (tokCells l) rs hs (HO.alloc _) (w0.heap.size + 1) _ 1 1 (tokCells [(f0, f1, f2)]) hx (Seen.new w0 (tokCells [(f0, f1, f2)]) _ _ (Nat.lt_succ_self _)) (by rw [tokCells_length]; rfl) tokCells_one (by unfold maxLen; omega) (by omega) ?_
  intro v' w' h2 h3
  have := h3.size
  refine h v' w' ?_ (((Below.refl _ _).alloc HO.base _).trans h3) (by simp at this; omega)
  rw [← tokRow_append]
  exact h2
theorem neq_tok (a b c a' b' c' : Int) (w : World) : (binOp .neq 76 (.agg #[.int .i64 a, .int .i64 b, .int .i64 c]) (.agg #[.int .i64 a', .int .i64 b', .int .i64 c'])).run Try.prog w = .ok (.bool (!(a == a' && (b == b' && c == c')))) w := by
  have h1 : Try.prog.underlying 76 = some (.struct (Try.prog.fieldsOf 76)) := by kernel_rfl
  have h2 : Try.prog.stoodInHeld 76 = false := by kernel_rfl
  have h3 : (Try.prog.fieldsOf 76).toList = [⟨ "Sym", 3, 0, false, "", "", 0⟩, ⟨ "Width", 3, 1, false, "", "", 8⟩, ⟨ "Value", 3, 2, false, "", "", 16⟩] := by kernel_rfl
  have ha : ∀ w, (isAgg 3).run Try.prog w = .ok false w := fun w => by kernel_rfl
  have he := fun d w x y => run_equalIn_int (P := Try.prog) w d 3 .i64 .i64 x y Try.underlying3
  rw [run_neq_struct, run_equalIn_agg (P := Try.prog) w 9999 _ _ _ h1 h2, h3]
  by_cases e1 : a = a' <;> by_cases e2 : b = b' <;> by_cases e3 : c = c' <;> simp [Op.eqFields, part, ha, he 9998, e1, e2, e3, Result.andThen]
end Go.Proofs.Ytddkhkpdbjjboaa

/- bits.Len (small numbers) and the package size: Of, Bits, Back; their contracts. -/
namespace Go.Proofs.Ytddkhkpdbjjboaa
open Go.RowKit
set_option linter.unusedVariables false
set_option linter.unusedSimpArgs false
set_option maxRecDepth 100000

theorem bitLen_sz : ∀ n : Fin 256, Lib.bitLen n.val = szN n.val := by decide +kernel
theorem len8_sz (x : Int) (h0 : 0 ≤ x) (h1 : x ≤ 255) : Lib.len8 x = (szN x.toNat : Nat) := by
  rw [Lib.len8_of x h0 h1, ← bitLen_sz ⟨x.toNat, by omega⟩]
theorem szN_shift {m : Nat} (h : 256 ≤ m) : szN m = 8 + szN (m / 256) := by
  have h1 := szN_ge (m := m / 256) (by omega)
  have h2 := szN_lt (m / 256)
  have h3 := szN_pos (m := m / 256) (by omega)
  obtain ⟨k, hk⟩ : ∃ k, szN (m / 256) = k + 1 := ⟨szN (m / 256) - 1, by omega⟩
  rw [hk] at h1 h2 ⊢
  rw [Nat.add_sub_cancel] at h1
  have e : szN m = (k + 8) + 1 := szN_is (by rw [Nat.pow_add]; omega) (by rw [show k + 8 + 1 = (k + 1) + 8 by omega, Nat.pow_add]; omega)
  rw [e]; omega
theorem szI {x y : Int} (h : x = y) : (Ending.returned (.int .i64 x)) = .returned (.int .i64 y) := by rw [h]
set_option maxHeartbeats 4000000 in
set_option maxRecDepth 100000 in
theorem len64_small (x : Int) (w : World) (h0 : 0 ≤ x) (h : x < 65536) :
    Calls Try.prog 122 #[.int .u64 x] w fun e w' => e = .returned (.int .i64 (szZ x : Nat)) ∧ w' = w := by
  by_cases h2 : x < 256
  · have h3 : x ≤ 255 := by omega
    go_enter Try.func122, Try.ntmps122
    go_wp2
    all_goals (go_ret; refine ⟨szI ?_, rfl⟩)
    rw [len8_sz x h0 h3]
    have e3 : szZ x = szN x.toNat := by unfold szZ; congr 1; omega
    have e4 := szN_le (m := x.toNat) (k := 8) (by omega)
    try unfold wrap64
    omega
  · have h3 : x / 256 ≤ 255 := by omega
    have h4 : 0 ≤ x / 256 := by omega
    go_enter Try.func122, Try.ntmps122
    go_wp2
    all_goals (go_ret; refine ⟨szI ?_, rfl⟩)
    rw [len8_sz (x / 256) h4 h3]
    have e5 : (x / 256).toNat = x.toNat / 256 := by omega
    have e3 : szZ x = 8 + szN (x / 256).toNat := by rw [e5, ← szN_shift (by omega)]; unfold szZ; congr 1; omega
    have e4 := szN_le (m := (x / 256).toNat) (k := 8) (by omega)
    try unfold wrap64
    omega
theorem len_small (x : Int) (w : World) (h0 : 0 ≤ x) (h : x < 65536) :
    Calls Try.prog 119 #[.int .u64 x] w fun e w' => e = .returned (.int .i64 (szZ x : Nat)) ∧ w' = w := by
  have HC := veil (len64_small x w h0 h)
  go_enter Try.func119, Try.ntmps119
  go_wp2_with fail
  refine HC.out.mono ?_
  rintro e w' ⟨rfl, rfl⟩
  go_wp2
  go_ret
  exact ⟨rfl, rfl⟩
/-- What the three functions answer. -/
def eS (n : Int) : Int := if -4095 ≤ n ∧ n ≤ 4095 then 0 else 1
def oS (n : Int) : Int := if -4095 ≤ n ∧ n ≤ 4095 then (szZ n : Nat) else 0
def oV (n : Int) : Int := if -4095 ≤ n ∧ n ≤ 4095 then vbZ n else 0
def eB (w v : Int) : Int := if 0 ≤ w ∧ w ≤ 12 ∧ 0 ≤ v ∧ v < pw w.toNat then 0 else 1
def oB (w v : Int) : Int := if 0 ≤ w ∧ w ≤ 12 ∧ 0 ≤ v ∧ v < pw w.toNat then bkZ w.toNat v else 0
theorem eS_ok {n : Int} (h1 : -4095 ≤ n) (h2 : n ≤ 4095) : eS n = 0 := if_pos ⟨h1, h2⟩
theorem oS_ok {n : Int} (h1 : -4095 ≤ n) (h2 : n ≤ 4095) : oS n = (szZ n : Nat) := if_pos ⟨h1, h2⟩
theorem oV_ok {n : Int} (h1 : -4095 ≤ n) (h2 : n ≤ 4095) : oV n = vbZ n := if_pos ⟨h1, h2⟩
theorem eS_bad {n : Int} (h : ¬ (-4095 ≤ n ∧ n ≤ 4095)) : eS n = 1 := if_neg h
theorem oS_bad {n : Int} (h : ¬ (-4095 ≤ n ∧ n ≤ 4095)) : oS n = 0 := if_neg h
theorem oV_bad {n : Int} (h : ¬ (-4095 ≤ n ∧ n ≤ 4095)) : oV n = 0 := if_neg h
theorem eB_ok {k : Nat} {v : Int} (hk : k ≤ 12) (h1 : 0 ≤ v) (h2 : v < pw k) : eB k v = 0 := if_pos ⟨by omega, by omega, h1, h2⟩
theorem oB_ok {k : Nat} {v : Int} (hk : k ≤ 12) (h1 : 0 ≤ v) (h2 : v < pw k) : oB k v = bkZ k v := if_pos ⟨by omega, by omega, h1, h2⟩
theorem eB_bad {w v : Int} (h : ¬ (0 ≤ w ∧ w ≤ 12 ∧ 0 ≤ v ∧ v < pw w.toNat)) : eB w v = 1 := if_neg h
theorem oB_bad {w v : Int} (h : ¬ (0 ≤ w ∧ w ≤ 12 ∧ 0 ≤ v ∧ v < pw w.toNat)) : oB w v = 0 := if_neg h
theorem pow_pw (k : Nat) (h : k ≤ 12) : wrap64 ((2 : Int) ^ k) = pw k ∧ 1 ≤ pw k ∧ pw k ≤ 4096 := by
  have h1 := Nat.pow_le_pow_right (n := 2) (by omega) h
  have h2 := Nat.two_pow_pos k
  have e : ((2 : Int) ^ k) = ((2 ^ k : Nat) : Int) := by simp
  rw [e]
  unfold pw
  exact ⟨wrap64_nat _ (by omega), by omega, by omega⟩
theorem sz_max (n : Int) : szZ (max n (-n)) = szZ n := by
  by_cases h : n ≤ -n
  · rw [Int.max_eq_right h, szZ_neg]
  · rw [Int.max_eq_left (by omega)]
theorem of_ok (n : Int) (w : World) (h1 : -4095 ≤ n) (h2 : n ≤ 4095) :
    Calls Try.prog 115 #[.int .i64 n] w fun e w' => e = .returned (.tuple #[.int .i64 (szZ n : Nat), .int .i64 0]) ∧ w' = w := by
  have HC := veil (len_small (max n (-n)) w (by omega) (by omega))
  rw [sz_max] at HC
  generalize szZ n = s at *
  go_enter Try.func115, Try.ntmps115
  go_wp2_with fail
  refine HC.out.mono ?_
  rintro e w' ⟨rfl, rfl⟩
  go_wp2
  go_ret2
  exact ⟨rfl, rfl⟩
theorem of_lo (n : Int) (w : World) (h : n < -4095) :
    Calls Try.prog 115 #[.int .i64 n] w fun e w' => e = .returned (.tuple #[.int .i64 0, .int .i64 1]) ∧ w' = w := by
  go_enter Try.func115, Try.ntmps115
  go_wp2
  go_ret2
  exact ⟨rfl, rfl⟩
theorem of_hi (n : Int) (w : World) (h : 4095 < n) :
    Calls Try.prog 115 #[.int .i64 n] w fun e w' => e = .returned (.tuple #[.int .i64 0, .int .i64 1]) ∧ w' = w := by
  have h2 : ¬ n < -4095 := by omega
  go_enter Try.func115, Try.ntmps115
  go_wp2
  go_ret2
  exact ⟨rfl, rfl⟩
theorem of_any (n : Int) (w : World) :
    Calls Try.prog 115 #[.int .i64 n] w fun e w' => e = .returned (.tuple #[.int .i64 (oS n), .int .i64 (eS n)]) ∧ w' = w := by
  by_cases h : -4095 ≤ n ∧ n ≤ 4095
  · rw [oS_ok h.1 h.2, eS_ok h.1 h.2]; exact of_ok n w h.1 h.2
  · rw [oS_bad h, eS_bad h]
    by_cases h2 : n < -4095
    · exact of_lo n w h2
    · exact of_hi n w (by omega)
set_option maxHeartbeats 1000000 in
theorem bits_any (n : Int) (w : World) :
    Calls Try.prog 105 #[.int .i64 n] w fun e w' => e = .returned (.tuple #[.int .i64 (oS n), .int .i64 (oV n), .int .i64 (eS n)]) ∧ ∃ q, w' = w.drewN q := by
  have HC := veil (of_any n w)
  by_cases h : -4095 ≤ n ∧ n ≤ 4095
  · obtain ⟨h1, h2⟩ := h
    rw [oS_ok h1 h2, eS_ok h1 h2] at HC
    rw [oS_ok h1 h2, eS_ok h1 h2, oV_ok h1 h2]
    by_cases hn : 0 < n
    · have e : vbZ n = n := if_pos hn
      rw [e]
      generalize szZ n = s at *
      go_enter Try.func105, Try.ntmps105
      go_wp2_with fail
      refine HC.out.mono ?_
      rintro e w' ⟨rfl, rfl⟩
      go_wp2
      go_ret3
      exact ⟨rfl, 0, rfl⟩
    · have e : vbZ n = n + pw (szZ n) - 1 := if_neg hn
      rw [e]
      have hs := sz_12 h1 h2
      have HP := veil (pow_pw (szZ n) hs)
      generalize szZ n = s at *
      go_enter Try.func105, Try.ntmps105
      go_wp2_with fail
      refine HC.out.mono ?_
      rintro e w' ⟨rfl, rfl⟩
      go_wp2
      go_quiet (fail)
      go_wp2
      go_ret3
      refine ⟨ret_three rfl (congrArg (Value.int .i64) ?_) rfl, _, rfl⟩
      rw [HP.out.1]
      have := HP.out.2
      unfold wrap64
      omega
  · rw [oS_bad h, eS_bad h] at HC
    rw [oS_bad h, eS_bad h, oV_bad h]
    go_enter Try.func105, Try.ntmps105
    go_wp2_with fail
    refine HC.out.mono ?_
    rintro e w' ⟨rfl, rfl⟩
    go_wp2
    go_ret3
    exact ⟨rfl, 0, rfl⟩
set_option maxHeartbeats 1000000 in
theorem szBack_in (k : Nat) (v : Int) (w : World) (hk : k ≤ 12) (h1 : 0 ≤ v) (h2 : v < pw k) :
    Calls Try.prog 116 #[.int .i64 (k : Int), .int .i64 v] w fun e w' => e = .returned (.tuple #[.int .i64 (bkZ k v), .int .i64 0]) ∧ w' = w := by
  have HP := veil (pow_pw k hk)
  have h2' := veil h2
  have HB : Hid (bkZ k v = _) := bkZ.eq_1 k v
  have hkz : (k : Int) ≤ 12 := by omega
  clear h2
  generalize bkZ k v = R at *
  go_enter Try.func116, Try.ntmps116
  go_wp2
  all_goals (have e := HP.out.1; have e1 := HP.out.2; have e2 := h2'.out; have e3 := HB.out; clear HP h2' HB)
  all_goals (have e4 : wrap64 (2 * v) = 2 * v := by unfold wrap64; omega)
  all_goals (generalize hq : wrap64 ((2 : Int) ^ k) = P at *)
  all_goals (subst e; rw [e4] at *)
  all_goals first
    | (exfalso; omega)
    | (rw [if_pos (by omega)] at e3; clear hq; go_ret2; exact ⟨ret_two (congrArg (Value.int .i64) e3.symm) rfl, rfl⟩)
    | (rw [if_neg (by omega)] at e3; clear hq; go_ret2; refine ⟨ret_two (congrArg (Value.int .i64) ?_) rfl, rfl⟩; unfold wrap64; omega)
theorem back_lo (n v : Int) (w : World) (h : n < 0) :
    Calls Try.prog 116 #[.int .i64 n, .int .i64 v] w fun e w' => e = .returned (.tuple #[.int .i64 0, .int .i64 1]) ∧ w' = w := by
  go_enter Try.func116, Try.ntmps116
  go_wp2
  go_ret2
  exact ⟨rfl, rfl⟩
theorem back_hi (n v : Int) (w : World) (h : 12 < n) :
    Calls Try.prog 116 #[.int .i64 n, .int .i64 v] w fun e w' => e = .returned (.tuple #[.int .i64 0, .int .i64 1]) ∧ w' = w := by
  have h2 : ¬ n < 0 := by omega
  go_enter Try.func116, Try.ntmps116
  go_wp2
  go_ret2
  exact ⟨rfl, rfl⟩
theorem back_neg (n v : Int) (w : World) (h0 : 0 ≤ n) (h1 : n ≤ 12) (h : v < 0) :
    Calls Try.prog 116 #[.int .i64 n, .int .i64 v] w fun e w' => e = .returned (.tuple #[.int .i64 0, .int .i64 1]) ∧ w' = w := by
  go_enter Try.func116, Try.ntmps116
  go_wp2
  go_ret2
  exact ⟨rfl, rfl⟩
theorem back_big (k : Nat) (v : Int) (w : World) (hk : k ≤ 12) (h1 : 0 ≤ v) (h2 : pw k ≤ v) :
    Calls Try.prog 116 #[.int .i64 (k : Int), .int .i64 v] w fun e w' => e = .returned (.tuple #[.int .i64 0, .int .i64 1]) ∧ w' = w := by
  have HP := veil (pow_pw k hk)
  have h2' := veil h2
  have hkz : (k : Int) ≤ 12 := by omega
  clear h2
  go_enter Try.func116, Try.ntmps116
  go_wp2
  all_goals (have e := HP.out.1; have e1 := HP.out.2; have e2 := h2'.out; clear HP h2')
  all_goals (generalize hq : wrap64 ((2 : Int) ^ k) = P at *)
  all_goals (subst e)
  all_goals first
    | (exfalso; omega)
    | (go_ret2; exact ⟨rfl, rfl⟩)
theorem back_any (n v : Int) (w : World) :
    Calls Try.prog 116 #[.int .i64 n, .int .i64 v] w fun e w' => e = .returned (.tuple #[.int .i64 (oB n v), .int .i64 (eB n v)]) ∧ w' = w := by
  by_cases h0 : n < 0
  · rw [oB_bad (by omega), eB_bad (by omega)]; exact back_lo n v w h0
  · by_cases h1 : 12 < n
    · rw [oB_bad (by omega), eB_bad (by omega)]; exact back_hi n v w h1
    · by_cases h2 : v < 0
      · rw [oB_bad (by omega), eB_bad (by omega)]; exact back_neg n v w (by omega) (by omega) h2
      · obtain ⟨k, rfl⟩ : ∃ k : Nat, n = k := ⟨n.toNat, by omega⟩
        by_cases h3 : v < pw k
        · rw [oB_ok (by omega) (by omega) h3, eB_ok (by omega) (by omega) h3]; exact szBack_in k v w (by omega) (by omega) h3
        · rw [oB_bad (by rw [Int.toNat_natCast]; omega), eB_bad (by rw [Int.toNat_natCast]; omega)]; exact back_big k v w (by omega) (by omega) (by omega)
end Go.Proofs.Ytddkhkpdbjjboaa

/- The laws' zigged: the order begins as the document says. -/
namespace Go.Proofs.Ytddkhkpdbjjboaa
open Go.RowKit
set_option linter.unusedVariables false
set_option linter.unusedSimpArgs false
set_option maxRecDepth 100000

theorem zz_form {w : World} {B g c : Nat} {rs : List Row} (h : Owns B (intRow 3 .i64 (.slice (some ⟨g, 0, none⟩) 64 c) zz :: rs) w) : Seen w w.heap.size (some ⟨g, 0, none⟩) (ints .i64 zz) ∧ 64 ≤ c ∧ c ≤ maxLen := by
  obtain ⟨A, c', e, hs, h1, h2⟩ := h.seen (List.mem_cons_self ..)
  simp only [intRow, Value.slice.injEq] at e hs h1
  obtain ⟨e1, e2, e3⟩ := e
  rw [e1, e3]
  exact ⟨hs, by rw [e2]; exact h1, h2⟩
end Go.Proofs.Ytddkhkpdbjjboaa

/- zig.To and zig.From: their contracts. -/
namespace Go.Proofs.Ytddkhkpdbjjboaa
open Go.RowKit
set_option linter.unusedVariables false
set_option linter.unusedSimpArgs false
set_option maxRecDepth 100000

theorem zz_cellK {w : World} {B g : Nat} (h : Seen w B (some ⟨g, 0, none⟩) (ints .i64 zz)) {k : Nat} {x : Int} (hk : zz[k]? = some x) : w.cell? ⟨g, k, none⟩ = some (.int .i64 x) := by
  obtain ⟨g', o, e0, _, hc⟩ := h.cell (ints_at hk)
  injection e0 with e0
  injection e0 with e1 e2
  subst e1 e2
  rwa [Nat.zero_add] at hc
set_option maxHeartbeats 4000000 in
set_option maxRecDepth 100000 in
theorem to_any (cs : List Int) (w : World) (hc : cs.length = 64) :
    Calls Try.prog 86 #[blkV cs] w fun e w' => e = .returned (blkV (toL cs)) ∧ Below w.heap.size w w' := by
  have HA := veil (order_any (box3 cs w))
  obtain ⟨hb3, HB0, HB1, HB2, hz3⟩ := box3_is cs w
  go_enter Try.func86, Try.ntmps86
  go_wp2_with fail
  refine HA.out.mono ?_
  rintro e w2 ⟨g, c, rfl, HO, hb2⟩
  have h1 := (zz_form HO).1
  rw [hz3] at HO hb2
  have HB0' := HB0.below hb2 (by omega)
  have HB1' := HB1.below hb2 (by omega)
  have HB2' := veil (HB2.below hb2 (by omega))
  have hz2 := hb2.size
  have hbw := hb3.trans (hb2.mono (by omega))
  clear HA HB0 HB1 HB2 hb2 h1 hb3
  go_wp2_with fail
  go_loopg [8] 64 (fun gk i wr => ∃ k : Nat, gk = 64 - k ∧ k ≤ 64 ∧ i = .int .i64 (k : Int) ∧ Hid (Blk wr (w.heap.size + 1 + 1) (ints .i64 (toK cs k)) 42) ∧ Hid (w2.grownBy wr (some (w.heap.size + 1 + 1))))
  case atStart => exact ⟨0, rfl, by omega, rfl, veil (by rw [toK_zero]; exact HB2'.out), veil (World.grownBy.refl _ _)⟩
  case round =>
    clear HB2'
    obtain ⟨k, rfl, hk, rfl, HB, HG⟩ := hrel
    have HBX := HB0'.kept HG.out (by simp; omega)
    have HO2 := HO.kept HG.out (by omega)
    have h1 := (zz_form HO2).1
    by_cases hlt : k < 64
    · have hltz : (k : Int) < 64 := by omega
      obtain ⟨⟨n, hn64⟩, hn, _⟩ := zz_at ⟨k, hlt⟩
      simp only at hn
      have hnz : (n : Int) < 64 := by omega
      obtain ⟨x, hx⟩ := some_at (xs := cs) (j := n) (by omega)
      have hcn := zz_cellK h1 hn
      have hcx := HBX.cell (ints_at hx)
      obtain ⟨y, hy⟩ := some_at (xs := toK cs k) (j := k) (by rw [toK_length]; omega)
      have hcy := HB.out.cell (ints_at hy)
      have hfy := HB.out.frozen k
      have HB5 : Hid (Blk (wr.setCell ⟨w.heap.size + 1 + 1, k, none⟩ (.int .i64 x)) (w.heap.size + 1 + 1) (ints .i64 (toK cs (k + 1))) 42) := by
        rw [toK_next hlt hn hx]
        have := HB.out.set k (.int .i64 x)
        rw [show (ints .i64 (toK cs k)).set k (.int .i64 x) = ints .i64 ((toK cs k).set k x) by simp [ints, List.map_set]] at this
        exact this
      have HG5 : Hid (w2.grownBy (wr.setCell ⟨w.heap.size + 1 + 1, k, none⟩ (.int .i64 x)) (some (w.heap.size + 1 + 1))) :=
        HG.out.trans ⟨rfl, rfl, rfl, by simp [World.setCell], fun i _ hi => Below.heap_setCell _ _ _ _ (fun e => hi (by rw [e]))⟩
      clear HB HG HBX HO2 h1 hn hx hy
      go_wp2_with fail
      go_roundg (64 - (k + 1))
      case rel => exact ⟨k + 1, rfl, by omega, by go_num, HB5, HG5⟩
      case measure => omega
    · obtain rfl : k = 64 := by omega
      have HR := HB1'.kept HG.out (by simp)
      have HBr := HB.out
      have Hlen : Hid ((ints .i64 (toK cs 64)).length = 64) := by show _ = _; rw [ints_length, toK_length]
      have hone := ints_one (k := .i64) (l := toK cs 64)
      have hbg : Below w.heap.size w wr := hbw.grown HG.out hbw.size (fun j hj => by injection hj with hj; omega)
      have Hz := veil zeroB_length
      obtain ⟨xs, hxs⟩ : ∃ xs, xs = ints .i64 (toK cs 64) := ⟨_, rfl⟩
      rw [← hxs] at Hlen hone HBr
      have HX := veil hxs
      generalize zeroB = x0 at *
      clear HB HG HBX HO2 h1 hxs
      go_wp2_with (first
        | (refine wpList_load_mid rfl 42 (.tmp 3) rfl (w.heap.size + 1 + 1) 0 rfl xs _ HBr.range Try.underlying42 rfl (info_blkn Hlen.out) ?_)
        | (refine wpList_store_blk wr rfl 42 (.tmp 2) (.tmp 19) rfl (w.heap.size + 1) x0 xs 42 HR rfl rfl (info_blkn Hlen.out) (by rw [Hlen.out, Hz.out]) hone ?_; intro w5 HB5 hg5)
        | fail)
      refine bodyPost_ret (v := .agg xs.toArray) (results_cell_row rfl _ _ (w.heap.size + 1) 42 xs.toArray (0, 0) _ rfl HB5 Try.underlying42 rfl (by simp only [List.size_toArray]; exact info_blkn Hlen.out)) rfl ⟨by rw [HX.out]; rfl, hbg.grown hg5 hbg.size (fun j hj => by injection hj with hj; omega)⟩
set_option maxHeartbeats 4000000 in
set_option maxRecDepth 100000 in
theorem from_any (cs : List Int) (w : World) (hc : cs.length = 64) :
    Calls Try.prog 109 #[blkV cs] w fun e w' => e = .returned (blkV (fromL cs)) ∧ Below w.heap.size w w' := by
  have HA := veil (order_any (box3 cs w))
  obtain ⟨hb3, HB0, HB1, HB2, hz3⟩ := box3_is cs w
  go_enter Try.func109, Try.ntmps109
  go_wp2_with fail
  refine HA.out.mono ?_
  rintro e w2 ⟨g, c, rfl, HO, hb2⟩
  have h1 := (zz_form HO).1
  rw [hz3] at HO hb2
  have HB0' := HB0.below hb2 (by omega)
  have HB1' := HB1.below hb2 (by omega)
  have HB2' := veil (HB2.below hb2 (by omega))
  have hz2 := hb2.size
  have hbw := hb3.trans (hb2.mono (by omega))
  clear HA HB0 HB1 HB2 hb2 h1 hb3
  go_wp2_with fail
  go_loopg [8] 64 (fun gk i wr => ∃ k : Nat, gk = 64 - k ∧ k ≤ 64 ∧ i = .int .i64 (k : Int) ∧ Hid (Blk wr (w.heap.size + 1 + 1) (ints .i64 (fromK cs k)) 42) ∧ Hid (w2.grownBy wr (some (w.heap.size + 1 + 1))))
  case atStart => exact ⟨0, rfl, by omega, rfl, veil (by rw [fromK_zero]; exact HB2'.out), veil (World.grownBy.refl _ _)⟩
  case round =>
    clear HB2'
    obtain ⟨k, rfl, hk, rfl, HB, HG⟩ := hrel
    have HBX := HB0'.kept HG.out (by simp; omega)
    have HO2 := HO.kept HG.out (by omega)
    have h1 := (zz_form HO2).1
    by_cases hlt : k < 64
    · have hltz : (k : Int) < 64 := by omega
      obtain ⟨⟨n, hn64⟩, hn, _⟩ := zz_at ⟨k, hlt⟩
      simp only at hn
      have hnz : (n : Int) < 64 := by omega
      obtain ⟨x, hx⟩ := some_at (xs := cs) (j := k) (by omega)
      have hcn := zz_cellK h1 hn
      have hcx := HBX.cell (ints_at hx)
      obtain ⟨y, hy⟩ := some_at (xs := fromK cs k) (j := n) (by rw [fromK_length]; omega)
      have hcy := HB.out.cell (ints_at hy)
      have hfy := HB.out.frozen n
      have HB5 : Hid (Blk (wr.setCell ⟨w.heap.size + 1 + 1, n, none⟩ (.int .i64 x)) (w.heap.size + 1 + 1) (ints .i64 (fromK cs (k + 1))) 42) := by
        rw [fromK_next hlt hn hx]
        have := HB.out.set n (.int .i64 x)
        rw [show (ints .i64 (fromK cs k)).set n (.int .i64 x) = ints .i64 ((fromK cs k).set n x) by simp [ints, List.map_set]] at this
        exact this
      have HG5 : Hid (w2.grownBy (wr.setCell ⟨w.heap.size + 1 + 1, n, none⟩ (.int .i64 x)) (some (w.heap.size + 1 + 1))) :=
        HG.out.trans ⟨rfl, rfl, rfl, by simp [World.setCell], fun i _ hi => Below.heap_setCell _ _ _ _ (fun e => hi (by rw [e]))⟩
      clear HB HG HBX HO2 h1 hn hx hy
      go_wp2_with fail
      go_roundg (64 - (k + 1))
      case rel => exact ⟨k + 1, rfl, by omega, by go_num, HB5, HG5⟩
      case measure => omega
    · obtain rfl : k = 64 := by omega
      have HR := HB1'.kept HG.out (by simp)
      have HBr := HB.out
      have Hlen : Hid ((ints .i64 (fromK cs 64)).length = 64) := by show _ = _; rw [ints_length, fromK_length]
      have hone := ints_one (k := .i64) (l := fromK cs 64)
      have hbg : Below w.heap.size w wr := hbw.grown HG.out hbw.size (fun j hj => by injection hj with hj; omega)
      have Hz := veil zeroB_length
      obtain ⟨xs, hxs⟩ : ∃ xs, xs = ints .i64 (fromK cs 64) := ⟨_, rfl⟩
      rw [← hxs] at Hlen hone HBr
      have HX := veil hxs
      generalize zeroB = x0 at *
      clear HB HG HBX HO2 h1 hxs
      go_wp2_with (first
        | (refine wpList_load_mid rfl 42 (.tmp 3) rfl (w.heap.size + 1 + 1) 0 rfl xs _ HBr.range Try.underlying42 rfl (info_blkn Hlen.out) ?_)
        | (refine wpList_store_blk wr rfl 42 (.tmp 2) (.tmp 19) rfl (w.heap.size + 1) x0 xs 42 HR rfl rfl (info_blkn Hlen.out) (by rw [Hlen.out, Hz.out]) hone ?_; intro w5 HB5 hg5)
        | fail)
      refine bodyPost_ret (v := .agg xs.toArray) (results_cell_row rfl _ _ (w.heap.size + 1) 42 xs.toArray (0, 0) _ rfl HB5 Try.underlying42 rfl (by simp only [List.size_toArray]; exact info_blkn Hlen.out)) rfl ⟨by rw [HX.out]; rfl, hbg.grown hg5 hbg.size (fun j hj => by injection hj with hj; omega)⟩
end Go.Proofs.Ytddkhkpdbjjboaa

/- The reference's outside, in a text of its own. -/
namespace Go.Proofs.Ytddkhkpdbjjboaa
open Go.RowKit
set_option linter.unusedVariables false
set_option linter.unusedSimpArgs false
set_option maxRecDepth 100000

theorem out_yes (n lo hi : Int) (h : n < lo ∨ hi < n) (w : World) : Calls Try.prog 22 #[.int .i64 n, .int .i64 lo, .int .i64 hi] w fun e w' => e = .returned (.bool true) ∧ w' = w := by
  go_enter Try.func22, Try.ntmps22
  go_wp2
  all_goals (go_ret; exact ⟨ret_bool (by simp <;> omega), rfl⟩)
theorem out_no (n lo hi : Int) (h : lo ≤ n ∧ n ≤ hi) (w : World) : Calls Try.prog 22 #[.int .i64 n, .int .i64 lo, .int .i64 hi] w fun e w' => e = .returned (.bool false) ∧ w' = w := by
  go_enter Try.func22, Try.ntmps22
  go_wp2
  all_goals (go_ret; exact ⟨ret_bool (by simp <;> omega), rfl⟩)
end Go.Proofs.Ytddkhkpdbjjboaa

/- The reference's power, SizeBits and SizeBack: their contracts. -/
namespace Go.Proofs.Ytddkhkpdbjjboaa
open Go.RowKit
set_option linter.unusedVariables false
set_option linter.unusedSimpArgs false
set_option maxRecDepth 100000

theorem powr_any (k : Nat) (w : World) (h : k ≤ 24) : Calls Try.prog 89 #[.int .i64 k] w fun e w' => e = .returned (.int .i64 (pw k)) ∧ w' = w := by
  go_enter Try.func89, Try.ntmps89
  go_wp2
  go_ret
  refine ⟨?_, rfl⟩
  have h1 : 2 ^ k ≤ 2 ^ 24 := two_pow_lt _ _ h
  have e : wrap64 ((2 : Int) ^ k) = ((2 ^ k : Nat) : Int) := by rw [show ((2 : Int) ^ k) = ((2 ^ k : Nat) : Int) by simp]; exact wrap64_nat _ (by omega)
  exact congrArg (fun x => Ending.returned (.int .i64 x)) e
theorem pw_le_of {n : Int} {k : Nat} (h : k < szZ n) : pw k ≤ max n (-n) := by
  have h0 : n ≠ 0 := by intro e; subst e; rw [szZ_zero] at h; omega
  have h1 := szZ_ge h0
  have h2 := pw_mono (a := k + 1) (b := szZ n) (by omega)
  rw [pw_succ] at h2
  omega
theorem vb_ref (n : Int) : vbZ n = if n < 0 then n + pw (szZ n) - 1 else n := by
  unfold vbZ
  rcases Int.lt_trichotomy n 0 with h | h | h
  · rw [if_neg (by omega), if_pos h]
  · subst h; rfl
  · rw [if_pos h, if_neg (by omega)]
set_option maxHeartbeats 1000000 in
theorem refBits_ok (n : Int) (w : World) (h1 : -4095 ≤ n) (h2 : n ≤ 4095) :
    Calls Try.prog 91 #[.int .i64 n] w fun e w' => e = .returned (.tuple #[.int .i64 (szZ n : Nat), .int .i64 (vbZ n), .int .i64 0]) ∧ w' = w := by
  have HO := veil (out_no n (-4095) 4095 ⟨h1, h2⟩ w)
  have HV := veil (vb_ref n)
  have hs := sz_12 h1 h2
  have HL : Hid (∀ k, k < szZ n → pw k ≤ max n (-n)) := fun k h => pw_le_of h
  have HG : Hid (max n (-n) < pw (szZ n)) := by show _ < _; have := szZ_lt n; omega
  have HP : Hid (∀ k W, k ≤ 12 → _) := fun k W (h : k ≤ 12) => powr_any k W (by omega)
  have HB := veil (pow_pw (szZ n) hs).2
  generalize vbZ n = V at *
  generalize szZ n = s at *
  go_enter Try.func91, Try.ntmps91
  go_wp2_with fail
  refine HO.out.mono ?_
  rintro e w' ⟨rfl, rfl⟩
  go_wp2_with fail
  go_loopg [5] s (fun gk i wr => ∃ k : Nat, gk = s - k ∧ k ≤ s ∧ i = .int .i64 (k : Int) ∧ wr = w')
  case atStart => exact ⟨0, rfl, by omega, rfl, rfl⟩
  case round =>
    obtain ⟨k, rfl, hk, rfl, rfl⟩ := hrel
    have HQ := veil (HP.out k wr (by omega))
    by_cases hlt : k < s
    · have h3 := HL.out k hlt
      go_wp2_with fail
      refine HQ.out.mono ?_
      rintro e w1 ⟨rfl, rfl⟩
      go_wp2
      go_roundg (s - (k + 1))
      case rel => exact ⟨k + 1, rfl, by omega, by go_num, rfl⟩
      case measure => omega
    · obtain rfl : k = s := by omega
      have h3 := HG.out
      go_wp2_with fail
      refine HQ.out.mono ?_
      rintro e w1 ⟨rfl, rfl⟩
      by_cases hn : n < 0
      · go_wp2_with fail
        refine HQ.out.mono ?_
        rintro e w2 ⟨rfl, rfl⟩
        go_wp2
        go_ret3
        refine ⟨ret_three rfl (congrArg (Value.int .i64) ?_) rfl, rfl⟩
        rw [HV.out, if_pos hn]
        have := HB.out
        unfold wrap64
        omega
      · go_wp2
        go_ret3
        refine ⟨ret_three rfl (congrArg (Value.int .i64) ?_) rfl, rfl⟩
        rw [HV.out, if_neg (by omega)]
end Go.Proofs.Ytddkhkpdbjjboaa

/- quant.Round, clamp, within, Check, checkBoth: their contracts. -/
namespace Go.Proofs.Ytddkhkpdbjjboaa
open Go.RowKit
set_option linter.unusedVariables false
set_option linter.unusedSimpArgs false
set_option maxRecDepth 100000

/-- A long load, also behind a guard that lets it run. -/
theorem wpList_load_long {P : Program} {ops : Array Oper} {rest : List Oper} {op : Oper} {a : Act} {w : World} {Q : Exit → Act → World → Prop} (hgd : Region.wanted op (yielded ops a.tmps) = true) (ty : TypeId) (x : Operand) (ho : op.op = .load ty x)
    (b o : Nat) (hx : a.eval x = .pointer (some ⟨b, o, none⟩)) (cs : List Value) (d : TypeDesc) (hc : w.rangeAt b o cs)
    (hu : P.underlying ty = some d) (hd : d.isRow = true) (hi : (P.info? ty).map (·.size) = some cs.length)
    (h : wpList P ops Q rest (a.put op.dst (.agg cs.toArray)) w) : wpList P ops Q (op :: rest) a w :=
  wpList_step fun K hK => by
    rw [if_pos hgd]
    exact wp_load_mid ty x ho b o hx cs d hc hu hd hi (hK _ _ h)
theorem inB_take {lo hi : Int} {cs : List Int} {k : Nat} {x : Int} (hx : cs[k]? = some x) (h : inB lo hi (cs.take k) = true) (h1 : lo ≤ x) (h2 : x ≤ hi) : inB lo hi (cs.take (k + 1)) = true := by
  rw [take_snoc hx]; unfold inB at *; rw [List.all_append, h]; simp [h1, h2]
end Go.Proofs.Ytddkhkpdbjjboaa

/- The reference's clamp, Round and BlockWithin: their contracts. -/
namespace Go.Proofs.Ytddkhkpdbjjboaa
open Go.RowKit
set_option linter.unusedVariables false
set_option linter.unusedSimpArgs false
set_option maxRecDepth 100000

theorem inB_bad {lo hi : Int} {cs : List Int} {k : Nat} {x : Int} (hx : cs[k]? = some x) (h : ¬ (lo ≤ x ∧ x ≤ hi)) : inB lo hi cs = false := by
  cases e : inB lo hi cs with
  | false => rfl
  | true => exact absurd (inB_at e hx) h
set_option maxHeartbeats 1000000 in
set_option maxRecDepth 100000 in
theorem bwithin_any (cs : List Int) (lo hi : Int) (w : World) (hc : cs.length = 64) :
    Calls Try.prog 41 #[blkV cs, .int .i64 lo, .int .i64 hi] w fun e w' => e = .returned (.bool (inB lo hi cs)) ∧ Below w.heap.size w w' := by
  have hb0 := below1 w (.cells (ints .i64 cs).toArray 42)
  have hr := range_new w (ints .i64 cs) 42
  have Hl : Hid ((ints .i64 cs).length = 64) := by show _ = _; rw [ints_length, hc]
  have Hat : Hid (∀ (k : Nat) (x : Int), cs[k]? = some x → (ints .i64 cs)[k]? = some (.int .i64 x)) := fun _ _ h => ints_at h
  obtain ⟨E, hE⟩ : ∃ E, E = inB lo hi cs := ⟨_, rfl⟩
  rw [← hE]
  have HE := veil hE; clear hE
  unfold blkV
  generalize ints .i64 cs = xs at *
  go_enter Try.func41, Try.ntmps41
  go_wp2_with (first
    | (refine wpList_load_mid rfl 42 (.tmp 3) rfl w.heap.size 0 rfl xs _ hr Try.underlying42 rfl (info_blkn Hl.out) ?_)
    | fail)
  go_loopg [10] 64 (fun gk i wr => ∃ k : Nat, gk = 64 - k ∧ k ≤ 64 ∧ i = .int .i64 (k : Int) ∧ Hid (inB lo hi (cs.take k) = true) ∧ Below w.heap.size w wr)
  case atStart => exact ⟨0, rfl, by omega, rfl, by simp [inB, Hid], hb0⟩
  case round =>
    clear hr hb0
    obtain ⟨k, rfl, hk, rfl, HI, hb⟩ := hrel
    by_cases hlt : k < 64
    · have hltz : (k : Int) < 64 := by omega
      obtain ⟨x, hx⟩ := some_at (xs := cs) (j := k) (by omega)
      have hxs := Hat.out _ _ hx
      by_cases h1 : lo ≤ x ∧ x ≤ hi
      · have HI2 := veil (inB_take hx HI.out h1.1 h1.2)
        have HO := veil (out_no x lo hi h1 wr)
        clear HI hx
        go_wp2_with (first
          | (refine wpList_index_arr rfl 42 (.tmp 9) (.tmp 10) rfl 64 3 .i64 Try.underlying42 Try.underlying3 (by kernel_rfl) xs rfl .i64 k rfl (.int .i64 x) hlt hxs ?_)
          | fail)
        refine HO.out.mono ?_
        rintro e w1 ⟨rfl, rfl⟩
        go_wp2_with fail
        go_roundg (64 - (k + 1))
        case rel => exact ⟨k + 1, rfl, by omega, by go_num, HI2, hb⟩
        case measure => omega
      · have h2 := inB_bad hx h1
        have HO := veil (out_yes x lo hi (by omega) wr)
        rw [← HE.out] at h2
        subst h2
        clear HI hx
        go_wp2_with (first
          | (refine wpList_index_arr rfl 42 (.tmp 9) (.tmp 10) rfl 64 3 .i64 Try.underlying42 Try.underlying3 (by kernel_rfl) xs rfl .i64 k rfl (.int .i64 x) hlt hxs ?_)
          | fail)
        refine HO.out.mono ?_
        rintro e w1 ⟨rfl, rfl⟩
        go_wp2
        go_ret
        exact ⟨rfl, hb⟩
    · obtain rfl : k = 64 := by omega
      have h2 : inB lo hi cs = true := by have := HI.out; rw [List.take_of_length_le (by omega)] at this; exact this
      rw [← HE.out] at h2
      subst h2
      go_wp2
      go_ret
      exact ⟨rfl, hb⟩
end Go.Proofs.Ytddkhkpdbjjboaa

/- The reference's ZigOrder: the same order. -/
namespace Go.Proofs.Ytddkhkpdbjjboaa
open Go.RowKit
set_option linter.unusedVariables false
set_option linter.unusedSimpArgs false
set_option maxRecDepth 100000

/-- What place j of diagonal s adds. -/
def rowR (s j : Nat) : Int := if s % 2 = 0 then 7 - (j : Int) else (j : Int)
def oneR (s j : Nat) : List Int := if 0 ≤ (s : Int) - rowR s j ∧ (s : Int) - rowR s j ≤ 7 then [8 * rowR s j + ((s : Int) - rowR s j)] else []
def innR (s k : Nat) : List Int := (List.range k).flatMap (oneR s)
def outR (s k : Nat) : List Int := (List.range s).flatMap (fun t => innR t 8) ++ innR s k
theorem outR_all : outR 15 0 = zz := by decide +kernel
theorem outR_next (s : Nat) : outR (s + 1) 0 = outR s 8 := by simp [outR, List.range_succ, innR]
theorem outR_yes {s k : Nat} (h : 0 ≤ (s : Int) - rowR s k ∧ (s : Int) - rowR s k ≤ 7) : outR s (k + 1) = outR s k ++ [8 * rowR s k + ((s : Int) - rowR s k)] := by
  have : oneR s k = [8 * rowR s k + ((s : Int) - rowR s k)] := if_pos h
  simp [outR, innR, List.range_succ, this]
theorem outR_no {s k : Nat} (h : ¬ (0 ≤ (s : Int) - rowR s k ∧ (s : Int) - rowR s k ≤ 7)) : outR s (k + 1) = outR s k := by
  have : oneR s k = [] := if_neg h
  simp [outR, innR, List.range_succ, this]
theorem oneR_length (s k : Nat) : (oneR s k).length ≤ 1 := by unfold oneR; split <;> simp
theorem innR_length (s k : Nat) : (innR s k).length ≤ k := by
  induction k with
  | zero => simp [innR]
  | succ k ih => have := oneR_length s k; simp [innR, List.range_succ] at ih ⊢; omega
theorem outR_length (s k : Nat) : (outR s k).length ≤ 8 * s + k := by
  have h1 := innR_length s k
  have h2 : ((List.range s).flatMap (fun t => innR t 8)).length ≤ 8 * s := by
    clear h1
    induction s with
    | zero => simp
    | succ s ih => have := innR_length s 8; simp [List.range_succ] at ih ⊢; omega
  unfold outR; rw [List.length_append]; omega
set_option maxHeartbeats 4000000 in
set_option maxRecDepth 100000 in
theorem refOrder_any (w : World) :
    Calls Try.prog 90 #[] w fun e w' => ∃ g c, e = .returned (.slice (some ⟨g, 0, none⟩) 64 c) ∧ Owns w.heap.size [intRow 3 .i64 (.slice (some ⟨g, 0, none⟩) 64 c) zz] w' ∧ Below w.heap.size w w' := by
  go_enter Try.func90, Try.ntmps90
  go_wp2
  go_loopg [1, 6] 15 (fun gk v i wr => ∃ s : Nat, gk = 15 - s ∧ s ≤ 15 ∧ i = .int .i64 (s : Int) ∧ Hid (Owns w.heap.size [intRow 3 .i64 v (outR s 0)] wr) ∧ Hid (Below w.heap.size w wr))
  case atStart => exact ⟨0, rfl, by omega, rfl, veil ((Owns.start w).fresh _ _), veil (Below.refl _ _)⟩
  case round =>
    obtain ⟨s, rfl, hs, rfl, HO, HB⟩ := hrel
    by_cases hlt : s < 15
    · have hltz : (s : Int) < 15 := by omega
      go_wp2_with fail
      rename World => W0
      go_loopg [1, 9] 8 (fun gk v i wr => ∃ k : Nat, gk = 8 - k ∧ k ≤ 8 ∧ i = .int .i64 (k : Int) ∧ Hid (Owns w.heap.size [intRow 3 .i64 v (outR s k)] wr) ∧ Hid (Below w.heap.size w wr))
      case atStart => exact ⟨0, rfl, by omega, rfl, HO, HB⟩
      case round =>
        clear HO HB
        obtain ⟨k, rfl, hk, rfl, HO, HB⟩ := hrel
        by_cases hkt : k < 8
        · have hktz : (k : Int) < 8 := by omega
          have hrow : Hid (rowR s k = if s % 2 = 0 then 7 - (k : Int) else (k : Int)) := rfl
          have hrb : 0 ≤ rowR s k ∧ rowR s k ≤ 7 := by unfold rowR; split <;> omega
          have hol := outR_length s k
          have HY := veil (outR_yes (s := s) (k := k))
          have HNo := veil (outR_no (s := s) (k := k))
          generalize outR s k = l at *
          generalize rowR s k = r at *
          by_cases he : s % 2 = 0
          · have het : ((s : Int) % 2 == 0) = true := by simp; omega
            have hez : (s : Int).tmod 2 = 0 := by rw [Int.tmod_eq_emod_of_nonneg (by omega)]; omega
            have hr : r = 7 - (k : Int) := by rw [hrow.out, if_pos he]
            subst hr
            clear hrow
            by_cases hin : 0 ≤ (s : Int) - (7 - (k : Int)) ∧ (s : Int) - (7 - (k : Int)) ≤ 7
            · have HC := veil (out_no ((s : Int) - (7 - (k : Int))) 0 7 hin)
              go_wp2_with fail
              refine (HC.out _).mono ?_
              rintro e w2 ⟨rfl, rfl⟩
              go_wp2_with (first
                | (at_builtin; go_loud (refine wpList_ownI _ rfl (.tmp 24) (.tmp 29) _ rfl w.heap.size 3 .i64 8 elemZ u1 l [] rfl HO.out [_] rfl (by unfold maxLen; simp; omega) (by simp; omega) ?_); intro v4 w4 HO4 hb4 hz4)
                | fail)
              go_roundg (8 - (k + 1))
              case rel => exact ⟨k + 1, rfl, by omega, by go_num, veil (by rw [HY.out hin]; exact HO4), veil (HB.out.trans hb4)⟩
              case measure => omega
            · have HC := veil (out_yes ((s : Int) - (7 - (k : Int))) 0 7 (by omega))
              go_wp2_with fail
              refine (HC.out _).mono ?_
              rintro e w2 ⟨rfl, rfl⟩
              go_wp2_with fail
              go_roundg (8 - (k + 1))
              case rel => exact ⟨k + 1, rfl, by omega, by go_num, veil (by rw [HNo.out hin]; exact HO.out), HB⟩
              case measure => omega
          · have het : ((s : Int) % 2 == 0) = false := by simp; omega
            have hez : ¬ (s : Int).tmod 2 = 0 := by rw [Int.tmod_eq_emod_of_nonneg (by omega)]; omega
            have hr : r = (k : Int) := by rw [hrow.out, if_neg he]
            subst hr
            clear hrow
            by_cases hin : 0 ≤ (s : Int) - (k : Int) ∧ (s : Int) - (k : Int) ≤ 7
            · have HC := veil (out_no ((s : Int) - (k : Int)) 0 7 hin)
              go_wp2_with fail
              refine (HC.out _).mono ?_
              rintro e w2 ⟨rfl, rfl⟩
              go_wp2_with (first
                | (at_builtin; go_loud (refine wpList_ownI _ rfl (.tmp 24) (.tmp 29) _ rfl w.heap.size 3 .i64 8 elemZ u1 l [] rfl HO.out [_] rfl (by unfold maxLen; simp; omega) (by simp; omega) ?_); intro v4 w4 HO4 hb4 hz4)
                | fail)
              go_roundg (8 - (k + 1))
              case rel => exact ⟨k + 1, rfl, by omega, by go_num, veil (by rw [HY.out hin]; exact HO4), veil (HB.out.trans hb4)⟩
              case measure => omega
            · have HC := veil (out_yes ((s : Int) - (k : Int)) 0 7 (by omega))
              go_wp2_with fail
              refine (HC.out _).mono ?_
              rintro e w2 ⟨rfl, rfl⟩
              go_wp2_with fail
              go_roundg (8 - (k + 1))
              case rel => exact ⟨k + 1, rfl, by omega, by go_num, veil (by rw [HNo.out hin]; exact HO.out), HB⟩
              case measure => omega
        · obtain rfl : k = 8 := by omega
          rw [← outR_next] at HO
          go_wp2_with fail
          go_roundg (15 - (s + 1))
          case rel => exact ⟨s + 1, rfl, by omega, by go_num, HO, HB⟩
          case measure => omega
    · obtain rfl : s = 15 := by omega
      rw [outR_all] at HO
      obtain ⟨g, c, rfl⟩ := own_some HO.out (by rw [zz_length]; omega)
      rw [zz_length] at HO
      go_wp2
      go_ret
      exact ⟨g, c, rfl, HO.out, HB.out⟩
end Go.Proofs.Ytddkhkpdbjjboaa

/- The reference's ZigTo and ZigFrom: their contracts. -/
namespace Go.Proofs.Ytddkhkpdbjjboaa
open Go.RowKit
set_option linter.unusedVariables false
set_option linter.unusedSimpArgs false
set_option maxRecDepth 100000

set_option maxHeartbeats 4000000 in
set_option maxRecDepth 100000 in
theorem refTo_any (cs : List Int) (w : World) (hc : cs.length = 64) :
    Calls Try.prog 68 #[blkV cs] w fun e w' => e = .returned (blkV (toL cs)) ∧ Below w.heap.size w w' := by
  have HA := veil (refOrder_any (box3 cs w))
  obtain ⟨hb3, HB0, HB1, HB2, hz3⟩ := box3_is cs w
  go_enter Try.func68, Try.ntmps68
  go_wp2_with fail
  refine HA.out.mono ?_
  rintro e w2 ⟨g, c, rfl, HO, hb2⟩
  have h1 := (zz_form HO).1
  rw [hz3] at HO hb2
  have HB0' := HB0.below hb2 (by omega)
  have HB1' := HB1.below hb2 (by omega)
  have HB2' := veil (HB2.below hb2 (by omega))
  have hz2 := hb2.size
  have hbw := hb3.trans (hb2.mono (by omega))
  clear HA HB0 HB1 HB2 hb2 h1 hb3
  go_wp2_with fail
  go_loopg [8] 64 (fun gk i wr => ∃ k : Nat, gk = 64 - k ∧ k ≤ 64 ∧ i = .int .i64 (k : Int) ∧ Hid (Blk wr (w.heap.size + 1 + 1) (ints .i64 (toK cs k)) 42) ∧ Hid (w2.grownBy wr (some (w.heap.size + 1 + 1))))
  case atStart => exact ⟨0, rfl, by omega, rfl, veil (by rw [toK_zero]; exact HB2'.out), veil (World.grownBy.refl _ _)⟩
  case round =>
    clear HB2'
    obtain ⟨k, rfl, hk, rfl, HB, HG⟩ := hrel
    have HBX := HB0'.kept HG.out (by simp; omega)
    have HO2 := HO.kept HG.out (by omega)
    have h1 := (zz_form HO2).1
    by_cases hlt : k < 64
    · have hltz : (k : Int) < 64 := by omega
      obtain ⟨⟨n, hn64⟩, hn, _⟩ := zz_at ⟨k, hlt⟩
      simp only at hn
      have hnz : (n : Int) < 64 := by omega
      obtain ⟨x, hx⟩ := some_at (xs := cs) (j := n) (by omega)
      have hcn := zz_cellK h1 hn
      have hcx := HBX.cell (ints_at hx)
      obtain ⟨y, hy⟩ := some_at (xs := toK cs k) (j := k) (by rw [toK_length]; omega)
      have hcy := HB.out.cell (ints_at hy)
      have hfy := HB.out.frozen k
      have HB5 : Hid (Blk (wr.setCell ⟨w.heap.size + 1 + 1, k, none⟩ (.int .i64 x)) (w.heap.size + 1 + 1) (ints .i64 (toK cs (k + 1))) 42) := by
        rw [toK_next hlt hn hx]
        have := HB.out.set k (.int .i64 x)
        rw [show (ints .i64 (toK cs k)).set k (.int .i64 x) = ints .i64 ((toK cs k).set k x) by simp [ints, List.map_set]] at this
        exact this
      have HG5 : Hid (w2.grownBy (wr.setCell ⟨w.heap.size + 1 + 1, k, none⟩ (.int .i64 x)) (some (w.heap.size + 1 + 1))) :=
        HG.out.trans ⟨rfl, rfl, rfl, by simp [World.setCell], fun i _ hi => Below.heap_setCell _ _ _ _ (fun e => hi (by rw [e]))⟩
      clear HB HG HBX HO2 h1 hn hx hy
      go_wp2_with fail
      go_roundg (64 - (k + 1))
      case rel => exact ⟨k + 1, rfl, by omega, by go_num, HB5, HG5⟩
      case measure => omega
    · obtain rfl : k = 64 := by omega
      have HR := HB1'.kept HG.out (by simp)
      have HBr := HB.out
      have Hlen : Hid ((ints .i64 (toK cs 64)).length = 64) := by show _ = _; rw [ints_length, toK_length]
      have hone := ints_one (k := .i64) (l := toK cs 64)
      have hbg : Below w.heap.size w wr := hbw.grown HG.out hbw.size (fun j hj => by injection hj with hj; omega)
      have Hz := veil zeroB_length
      obtain ⟨xs, hxs⟩ : ∃ xs, xs = ints .i64 (toK cs 64) := ⟨_, rfl⟩
      rw [← hxs] at Hlen hone HBr
      have HX := veil hxs
      generalize zeroB = x0 at *
      clear HB HG HBX HO2 h1 hxs
      go_wp2_with (first
        | (refine wpList_load_mid rfl 42 (.tmp 3) rfl (w.heap.size + 1 + 1) 0 rfl xs _ HBr.range Try.underlying42 rfl (info_blkn Hlen.out) ?_)
        | (refine wpList_store_blk wr rfl 42 (.tmp 2) (.tmp 19) rfl (w.heap.size + 1) x0 xs 42 HR rfl rfl (info_blkn Hlen.out) (by rw [Hlen.out, Hz.out]) hone ?_; intro w5 HB5 hg5)
        | fail)
      refine bodyPost_ret (v := .agg xs.toArray) (results_cell_row rfl _ _ (w.heap.size + 1) 42 xs.toArray (0, 0) _ rfl HB5 Try.underlying42 rfl (by simp only [List.size_toArray]; exact info_blkn Hlen.out)) rfl ⟨by rw [HX.out]; rfl, hbg.grown hg5 hbg.size (fun j hj => by injection hj with hj; omega)⟩
end Go.Proofs.Ytddkhkpdbjjboaa

/- The reference's token and Tokens: their contracts. -/
namespace Go.Proofs.Ytddkhkpdbjjboaa
open Go.RowKit
set_option linter.unusedVariables false
set_option linter.unusedSimpArgs false
set_option maxRecDepth 100000

set_option maxHeartbeats 1000000 in
theorem token_any (r : Nat) (n : Int) (w : World) (hr : r ≤ 15) (h1 : -4095 ≤ n) (h2 : n ≤ 4095) :
    Calls Try.prog 69 #[.int .i64 (r : Int), .int .i64 n] w fun e w' => e = .returned (tokV (tkN r n)) ∧ Below w.heap.size w w' := by
  have H1 := veil (fun W => refBits_ok n W h1 h2)
  have hs := sz_12 h1 h2
  unfold tkN tokV
  generalize szZ n = s at *
  generalize vbZ n = v at *
  go_enter Try.func69, Try.ntmps69
  go_wp2_with fail
  refine (H1.out _).mono ?_
  rintro e w1 ⟨rfl, rfl⟩
  go_wp2_with fail
  exact bodyPost_ret (v := .agg #[.int .i64 (16 * (r : Int) + (s : Int)), .int .i64 (s : Int), .int .i64 v]) (results_cell_row rfl _ _ w.heap.size 76 #[.int .i64 (16 * (r : Int) + (s : Int)), .int .i64 (s : Int), .int .i64 v] (0, 0) _ rfl (Blk.new w [.int .i64 (16 * (r : Int) + (s : Int)), .int .i64 (s : Int), .int .i64 v] 76) Try.underlying76 rfl (by kernel_rfl)) rfl ⟨rfl, below1 _ _⟩
/-- The list of one token just laid. -/
theorem own_lit {w : World} {B : Nat} (hB : B ≤ w.heap.size) (f0 f1 f2 : Int) : Owns B [tokRow (.slice (some ⟨w.heap.size, 0, none⟩) 1 1) [(f0, f1, f2)]] (w.alloc (.cells #[.int .i64 f0, .int .i64 f1, .int .i64 f2] 76)) :=
  .one (by simp; omega) (World.ownsRow_lit w #[.int .i64 f0, .int .i64 f1, .int .i64 f2] 1 hB (by unfold maxLen; omega) rfl)
theorem refTokens_bad1 (b : Int) (cs : List Int) (w : World) (hc : cs.length = 64) (hb : b < -2047 ∨ 2047 < b) :
    Calls Try.prog 42 #[.int .i64 b, blkV cs] w fun e w' => ∃ v, e = .returned (.tuple #[v, .int .i64 1]) ∧ Owns w.heap.size [tokRow v []] w' ∧ Below w.heap.size w w' := by
  have HO := veil (fun W => out_yes b (-2047) 2047 hb W)
  unfold blkV
  generalize ints .i64 cs = xs at *
  clear hb
  go_enter Try.func42, Try.ntmps42
  go_wp2_with fail
  refine (HO.out _).mono ?_
  rintro e w1 ⟨rfl, rfl⟩
  go_wp2
  go_ret2
  exact ⟨_, rfl, (Owns.nil (by simp)).fresh _ _, below1 _ _⟩
theorem refTokens_bad2 (b : Int) (cs : List Int) (w : World) (hc : cs.length = 64) (hb : -2047 ≤ b ∧ b ≤ 2047) (hin : inB (-2047) 2047 cs = false) :
    Calls Try.prog 42 #[.int .i64 b, blkV cs] w fun e w' => ∃ v, e = .returned (.tuple #[v, .int .i64 1]) ∧ Owns w.heap.size [tokRow v []] w' ∧ Below w.heap.size w w' := by
  have HO := veil (fun W => out_no b (-2047) 2047 hb W)
  have HI := veil (fun W => bwithin_any cs (-2047) 2047 W hc)
  rw [hin] at HI
  have Hl : Hid ((ints .i64 cs).length = 64) := by show _ = _; rw [ints_length, hc]
  have hr := range_new w (ints .i64 cs) 42
  have hb0 := below1 w (.cells (ints .i64 cs).toArray 42)
  unfold blkV at *
  generalize ints .i64 cs = xs at *
  clear hin
  go_enter Try.func42, Try.ntmps42
  go_wp2_with fail
  refine (HO.out _).mono ?_
  rintro e w1 ⟨rfl, rfl⟩
  go_wp2_with (first
    | (refine wpList_load_long rfl 42 (.tmp 3) rfl w.heap.size 0 rfl xs _ hr Try.underlying42 rfl (info_blkn Hl.out) ?_)
    | fail)
  refine (HI.out _).mono ?_
  rintro e w2 ⟨rfl, hb2⟩
  have hf := hb0.trans (hb2.mono (by simp))
  clear hr hb0 hb2
  go_wp2
  go_ret2
  exact ⟨_, rfl, (Owns.nil hf.size).fresh _ _, hf⟩
set_option maxHeartbeats 4000000 in
set_option maxRecDepth 100000 in
theorem refTokens_ok (b : Int) (cs : List Int) (w : World) (hc : cs.length = 64) (hb : -2047 ≤ b ∧ b ≤ 2047) (hin : inB (-2047) 2047 cs = true) :
    Calls Try.prog 42 #[.int .i64 b, blkV cs] w fun e w' => ∃ v, e = .returned (.tuple #[v, .int .i64 0]) ∧ Owns w.heap.size [tokRow v (toksZ b (toL cs))] w' ∧ Below w.heap.size w w' := by
  have HO := veil (fun W => out_no b (-2047) 2047 hb W)
  have HI := veil (fun W => bwithin_any cs (-2047) 2047 W hc)
  rw [hin] at HI
  have HZ := veil (fun W => refTo_any cs W hc)
  have hZl := toL_length cs
  have HZin := veil (toL_in hc hin)
  have Hlen := veil (toks_len b hZl)
  generalize toL cs = Z at *
  have Hl : Hid ((ints .i64 cs).length = 64) := by show _ = _; rw [ints_length, hc]
  have HlZ : Hid ((ints .i64 Z).length = 64) := by show _ = _; rw [ints_length, hZl]
  have honeZ := ints_one (k := .i64) (l := Z)
  have hr := range_new w (ints .i64 cs) 42
  have hb0 := below1 w (.cells (ints .i64 cs).toArray 42)
  obtain ⟨z0, hz0⟩ := some_at (xs := Z) (j := 0) (by omega)
  have hz0b := HZin.out z0 (List.mem_of_getElem? hz0)
  have HT0 := veil (fun W => token_any 0 (z0 - b) W (by omega) (by omega) (by omega))
  have HS : Hid (toksZ b Z = [tkN 0 (z0 - b)] ++ restT 0 (Z.drop 1)) := by
    show _ = _
    match Z, hz0 with
    | z :: zs, h => simp at h; subst h; rfl
  unfold blkV at *
  generalize ints .i64 cs = xs at *
  clear hin hc
  generalize toksZ b Z = T at *
  go_enter Try.func42, Try.ntmps42
  go_wp2_with fail
  refine (HO.out _).mono ?_
  rintro e w1 ⟨rfl, rfl⟩
  go_wp2_with (first
    | (refine wpList_load_long rfl 42 (.tmp 3) rfl w.heap.size 0 rfl xs _ hr Try.underlying42 rfl (info_blkn Hl.out) ?_)
    | fail)
  refine (HI.out _).mono ?_
  rintro e w2 ⟨rfl, hb2⟩
  have hf := hb0.trans (hb2.mono (by simp))
  have hr2 := range_below hr hb2 (by simp)
  clear hr hb0 hb2 HO HI
  go_wp2_with (first
    | (refine wpList_load_mid rfl 42 (.tmp 3) rfl w.heap.size 0 rfl xs _ hr2 Try.underlying42 rfl (info_blkn Hl.out) ?_)
    | fail)
  refine (HZ.out _).mono ?_
  rintro e w3 ⟨rfl, hb3⟩
  have hf3 := hf.trans (hb3.mono hf.size)
  clear hr2 hf hb3 HZ
  have HBz := Blk.new w3 (ints .i64 Z) 42
  have hb4 := hf3.alloc hf3.size (.cells (ints .i64 Z).toArray 42)
  have hc0 := HBz.cell (ints_at hz0)
  have hsz4 : (w3.alloc (.cells (ints .i64 Z).toArray 42)).heap.size = w3.heap.size + 1 := by simp
  obtain ⟨ys, hys⟩ : ∃ ys, ys = ints .i64 Z := ⟨_, rfl⟩
  rw [← hys] at HBz hb4 hc0 hsz4 HlZ honeZ ⊢
  have HY := veil hys; clear hys
  go_wp2_with (first
    | (refine wpList_store_new w3 rfl 42 (.tmp 6) (.tmp 19) rfl zeroB.toArray ys rfl rfl (info_blkn HlZ.out) (by rw [HlZ.out]; rfl) honeZ ?_)
    | fail)
  refine (HT0.out _).mono ?_
  rintro e w5 ⟨rfl, hb5⟩
  have HBz5 := HBz.below hb5 (by rw [hsz4]; omega)
  rw [hsz4] at hb5
  have hz5 := hb5.size
  rw [hsz4] at hz5
  have hf5 : Below w.heap.size w w5 := hb4.trans (hb5.mono (by have := hf3.size; omega))
  clear hc0 HBz hb4 hb5 hsz4 HT0
  have HTK : Hid (∀ (r : Nat) (x : Int) (W : World), r ≤ 15 → -2047 ≤ x → x ≤ 2047 → _) := fun r x W h1 h2 h3 => token_any r x W h1 (by omega) (by omega)
  obtain ⟨⟨p0, p1, p2⟩, hp⟩ : ∃ t, t = tkN 0 (z0 - b) := ⟨_, rfl⟩
  rw [← hp] at HS ⊢
  clear hp
  simp only [tokV]
  have HO5 := own_lit (w := w5) (B := w5.heap.size) (Nat.le_refl _) p0 p1 p2
  have hb6 := below1 w5 (.cells #[.int .i64 p0, .int .i64 p1, .int .i64 p2] 76)
  go_wp2_with fail
  go_loopg [7, 8, 9] 63 (fun gk v lv iv wr => ∃ (i last : Nat) (D : List (Int × Int × Int)), gk = 64 - i ∧ i ≤ 64 ∧ last < i ∧ lv = .int .i64 (last : Int) ∧ iv = .int .i64 (i : Int) ∧ Hid (T = D ++ restT (i - last - 1) (Z.drop i)) ∧ Owns w5.heap.size [tokRow v D] wr ∧ Below w5.heap.size w5 wr)
  case atStart => exact ⟨1, 0, [(p0, p1, p2)], rfl, by omega, by omega, rfl, rfl, HS, HO5, hb6⟩
  case round =>
    clear HO5 hb6 HS
    obtain ⟨i, last, D, rfl, hi, hlast, rfl, rfl, HD, HW, hbw⟩ := hrel
    by_cases hlt : i < 64
    · have hltz : (i : Int) < 64 := by omega
      obtain ⟨x, hx⟩ := some_at (xs := Z) (j := i) (by omega)
      have hxb := HZin.out x (List.mem_of_getElem? hx)
      have hcx : wr.cell? ⟨w3.heap.size, i, none⟩ = some (.int .i64 x) := (HBz5.below hbw (by omega)).cell (by rw [HY.out]; exact ints_at hx)
      have HN := veil (toks_next (i - last - 1) hx)
      by_cases h0 : x = 0
      · subst h0
        have HD2 : Hid (T = D ++ restT (i + 1 - last - 1) (Z.drop (i + 1))) := by
          show _ = _
          rw [HD.out, HN.out, if_pos rfl]; congr 2; omega
        clear HD HN hx
        go_wp2_with fail
        go_roundg (64 - (i + 1))
        case rel => exact ⟨i + 1, last, D, rfl, by omega, by omega, rfl, by go_num, HD2, HW, hbw⟩
        case measure => omega
      · obtain ⟨r, hr⟩ : ∃ r : Nat, i - last - 1 = r := ⟨_, rfl⟩
        rw [hr] at HD HN
        have hrz : (i : Int) - (last : Int) - 1 = (r : Int) := by omega
        have HD2 : Hid (T = D ++ List.replicate (r / 16) tkLong ++ tkN (r % 16) x :: restT 0 (Z.drop (i + 1))) := by
          show _ = _
          rw [HD.out, HN.out, if_neg h0, List.append_assoc]
        have HDl : Hid (D.length + r / 16 + 1 ≤ 64) := by
          have h1 := Hlen.out
          rw [HD2.out] at h1
          simp only [List.length_append, List.length_replicate, List.length_cons] at h1
          show _ ≤ _; omega
        have hx0 : (x == 0) = false := by simpa using h0
        clear HD HN hx hr h0
        go_wp2_with fail
        rename World => W0
        go_loopg [7, 40] (r / 16) (fun gk v jv wr => ∃ j : Nat, gk = r / 16 - j ∧ j ≤ r / 16 ∧ jv = .int .i64 (j : Int) ∧ Owns w5.heap.size [tokRow v (D ++ List.replicate j tkLong)] wr ∧ Below w5.heap.size w5 wr)
        case atStart => exact ⟨0, rfl, by omega, rfl, by rw [List.replicate_zero, List.append_nil]; exact HW, hbw⟩
        case round =>
          obtain ⟨j, rfl, hj, rfl, HW2, hbw2⟩ := hrel
          by_cases hjl : j < r / 16
          · have hjz : (j : Int) < (r : Int) / 16 := by omega
            go_wp2_with (first
              | (refine wpList_ownK wr rfl (.tmp 42) (.tmp 44) rfl w5.heap.size u7 (D ++ List.replicate j tkLong) [] rfl HW2 240 0 0 rfl (by have := HDl.out; simp only [List.length_append, List.length_replicate]; omega) ?_; intro v' w' HO' hb' hs')
              | fail)
            go_roundg (r / 16 - (j + 1))
            case rel => exact ⟨j + 1, rfl, by omega, by go_num, by rw [List.replicate_succ', ← List.append_assoc]; exact HO', hbw2.trans (hb'.mono (Nat.le_refl _))⟩
            case measure => omega
          · obtain rfl : j = r / 16 := by omega
            have hcx2 : wr.cell? ⟨w3.heap.size, i, none⟩ = some (.int .i64 x) := by
              rw [hbw2.cell (by simp; omega), ← hbw.cell (by simp; omega)]; exact hcx
            have HT1 := veil (HTK.out (r % 16) x wr (by omega) hxb.1 hxb.2)
            rw [show ((r % 16 : Nat) : Int) = (r : Int) % 16 by omega] at HT1
            obtain ⟨⟨q0, q1, q2⟩, hq⟩ : ∃ t, t = tkN (r % 16) x := ⟨_, rfl⟩
            rw [← hq] at HD2 HT1
            clear hq hcx
            go_wp2_with fail
            refine HT1.out.mono ?_
            rintro e w7 ⟨rfl, hb7⟩
            have HW7 := HW2.below hb7
            have hb7' := hbw2.trans (hb7.mono hbw2.size)
            have HD3 : Hid (T = (D ++ List.replicate (r / 16) tkLong ++ [(q0, q1, q2)]) ++ restT (i + 1 - i - 1) (Z.drop (i + 1))) := by
              show _ = _
              rw [HD2.out, show i + 1 - i - 1 = 0 by omega, List.append_assoc _ [(q0, q1, q2)]]; rfl
            clear HD2 HT1 hb7 HW2 hbw2
            simp only [tokV]
            go_wp2_with (first
              | (refine wpList_ownK w7 rfl (.tmp 47) (.tmp 54) rfl w5.heap.size u7 (D ++ List.replicate (r / 16) tkLong) [] rfl HW7 q0 q1 q2 rfl (by have := HDl.out; simp only [List.length_append, List.length_replicate]; omega) ?_; intro v' w' HO' hb' hs')
              | fail)
            go_roundg (64 - (i + 1))
            case rel => exact ⟨i + 1, i, _, rfl, by omega, by omega, rfl, by go_num, HD3, HO', hb7'.trans hb'⟩
            case measure => omega
    · obtain rfl : i = 64 := by omega
      by_cases hl63 : last < 63
      · have HD2 : Hid (T = D ++ [(0, 0, 0)]) := by
          show _ = _
          rw [HD.out, List.drop_of_length_le (by omega), restT_nil, if_neg (by omega)]; rfl
        have hDl : D.length + 1 ≤ 64 := by
          have h1 := Hlen.out
          rw [HD2.out, List.length_append, List.length_singleton] at h1
          exact h1
        have HDl := veil hDl
        clear HD hDl
        go_wp2_with (first
          | (refine wpList_ownK wr rfl (.tmp 59) (.tmp 61) rfl w5.heap.size u7 D [] rfl HW 0 0 0 rfl (by have := HDl.out; omega) ?_; intro v' w' HO' hb' hs')
          | fail)
        go_ret2
        refine ⟨_, rfl, ?_, hf5.trans ((hbw.trans hb').mono hf5.size)⟩
        rw [HD2.out]
        exact HO'.down hf5.size
      · have HD2 : Hid (T = D) := by
          show _ = _
          rw [HD.out, List.drop_of_length_le (by omega), restT_nil, if_pos (by omega), List.append_nil]
        clear HD
        go_wp2
        go_ret2
        refine ⟨_, rfl, ?_, hf5.trans (hbw.mono hf5.size)⟩
        rw [HD2.out]
        exact HW.down hf5.size
theorem refTokens_any (b : Int) (cs : List Int) (w : World) (hc : cs.length = 64) :
    Calls Try.prog 42 #[.int .i64 b, blkV cs] w fun e w' => ∃ v, e = .returned (.tuple #[v, .int .i64 (eT b cs)]) ∧ Owns w.heap.size [tokRow v (oT b cs)] w' ∧ Below w.heap.size w w' := by
  by_cases hb : -2047 ≤ b ∧ b ≤ 2047
  · cases hin : inB (-2047) 2047 cs with
    | true =>
      rw [oT_ok (eT_ok hb.1 hb.2 hin), eT_ok hb.1 hb.2 hin]
      exact refTokens_ok b cs w hc hb hin
    | false =>
      have e := eT_bad (b := b) (cs := cs) (by rw [hin]; simp)
      rw [oT_bad (by rw [e]; decide), e]
      exact refTokens_bad2 b cs w hc hb hin
  · have e := eT_bad (b := b) (cs := cs) (fun h => hb ⟨h.1, h.2.1⟩)
    rw [oT_bad (by rw [e]; decide), e]
    exact refTokens_bad1 b cs w hc (by omega)
end Go.Proofs.Ytddkhkpdbjjboaa
