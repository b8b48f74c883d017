/- bits.number: so many bits from a place on. -/
import Derived.Test.YtjphfbapekdjmaaBitsWrite
namespace Go.Proofs.Ytjphfbapekdjmaa
open Go.RowKit
set_option linter.unusedVariables false
set_option linter.unusedSimpArgs false
set_option maxRecDepth 100000

theorem bitsN_at (w v i : Nat) (h : i < w) : (bitsN w v)[i]? = some (decide (v / 2 ^ (w - 1 - i) % 2 = 1)) := by
  induction w generalizing v with
  | zero => omega
  | succ w ih =>
    rw [bitsN]
    by_cases hi : i < w
    · rw [List.getElem?_append_left (by rw [bitsN_length]; exact hi), ih _ hi, Nat.div_div_eq_div_mul, ← Nat.pow_succ', show w + 1 - 1 - i = w - 1 - i + 1 by omega]
    · have : i = w := by omega
      subst this
      rw [List.getElem?_append_right (by rw [bitsN_length]; omega)]
      simp [bitsN_length]
theorem unpack_at : ∀ (bs : List Int) (j : Nat) (x : Int), bs[j / 8]? = some x → (unpack bs)[j]? = some (decide (x.toNat / 2 ^ (7 - j % 8) % 2 = 1))
  | [], j, x, h => by simp at h
  | y :: bs, j, x, h => by
    rw [unpack_cons]
    by_cases hj : j < 8
    · have e : j / 8 = 0 := by omega
      rw [e] at h
      simp at h
      subst h
      rw [List.getElem?_append_left (by rw [bitsN_length]; exact hj), bitsN_at 8 _ _ hj, show 8 - 1 - j = 7 - j % 8 by omega]
    · rw [List.getElem?_append_right (by rw [bitsN_length]; omega), bitsN_length]
      have e : j / 8 = (j - 8) / 8 + 1 := by omega
      rw [e, List.getElem?_cons_succ] at h
      rw [unpack_at bs (j - 8) x h, show (j - 8) % 8 = j % 8 by omega]
/-- The bits from 'at' on, so many. -/
def cutB (bs : List Int) (at_ n : Nat) : List Bool := ((unpack bs).drop at_).take n
theorem cutB_length (bs : List Int) (at_ n : Nat) (h : at_ + n ≤ 8 * bs.length) : (cutB bs at_ n).length = n := by
  simp [cutB, unpack_length]; omega
theorem cutB_snoc (bs : List Int) (at_ n : Nat) (x : Int) (h : bs[(at_ + n) / 8]? = some x) : cutB bs at_ (n + 1) = cutB bs at_ n ++ [decide (x.toNat / 2 ^ (7 - (at_ + n) % 8) % 2 = 1)] := by
  unfold cutB
  apply take_snoc
  rw [List.getElem?_drop]
  exact unpack_at bs _ x h

theorem bit_step (bs : List Int) (at_ n J : Nat) (x : Int) (hJ : at_ + n = J) (h : bs[J / 8]? = some x) (hx : 0 ≤ x ∧ x ≤ 255) (hn : n < 24) (hin : at_ + n ≤ 8 * bs.length) :
    bits BinOp.or IntKind.i64 (wrap64 ((valB (cutB bs at_ n) : Int) * 2)) (bits BinOp.and IntKind.i64 (wrap64 (x / 2 ^ (7 - J % 8))) 1) = (valB (cutB bs at_ (n + 1)) : Int) := by
  subst hJ
  rw [cutB_snoc bs at_ n x h, valB_snoc]
  have h1 := valB_lt (cutB bs at_ n)
  rw [cutB_length _ _ _ hin] at h1
  have h2 : 2 ^ n ≤ 2 ^ 24 := two_pow_lt _ _ (by omega)
  generalize valB (cutB bs at_ n) = V at *
  obtain ⟨X, rfl⟩ := Int.eq_ofNat_of_zero_le hx.1
  have e1 : (X : Int) / 2 ^ (7 - (at_ + n) % 8) = ((X / 2 ^ (7 - (at_ + n) % 8) : Nat) : Int) := by simp
  have h3 : X / 2 ^ (7 - (at_ + n) % 8) ≤ X := Nat.div_le_self _ _
  rw [e1, Int.toNat_natCast]
  generalize X / 2 ^ (7 - (at_ + n) % 8) = q at *
  rw [wrap64_nat q (by omega), show (1 : Int) = ((1 : Nat) : Int) from rfl, i64_and _ _ (by omega) (by omega), Nat.and_one_is_mod]
  have e2 : wrap64 ((V : Int) * 2) = ((V * 2 ^ 1 : Nat) : Int) := by
    rw [show (V : Int) * 2 = ((V * 2 : Nat) : Int) by simp]; exact wrap64_nat _ (by omega)
  rw [e2, i64_or _ _ (by omega) (by omega), nat_or_low _ 1 _ (by omega)]
  rcases Nat.mod_two_eq_zero_or_one q with hq | hq <;> simp [hq] <;> omega
set_option maxHeartbeats 1000000 in
theorem number_any (A : Option Addr) (c G : Nat) (bs : List Int) (at_ wd : Nat) (w : World) (hb : Seen w G A (ints .u8 bs)) (hby : Bytes bs) (h : at_ + wd ≤ 8 * bs.length) (hwd : wd ≤ 24) (hl : bs.length ≤ 1152921504606846975) :
    Calls Try.prog 36 #[.slice A bs.length c, .int .i64 at_, .int .i64 wd] w fun e w' => e = .returned (.int .i64 (valB (cutB bs at_ wd))) ∧ w = w' := by
  go_enter Try.func36, Try.ntmps36
  go_wp2_with fail
  go_loopg [7, 8, 9] wd (fun gk n i b wr => ∃ k : Nat, gk = wd - k ∧ k ≤ wd ∧ i = .int .i64 (at_ + k : Nat) ∧ n = .int .i64 (valB (cutB bs at_ k)) ∧ w = wr)
  case atStart => exact ⟨0, rfl, Nat.zero_le _, rfl, rfl, rfl⟩
  case round =>
    obtain ⟨k, rfl, hk, rfl, rfl, rfl⟩ := hrel
    by_cases hlt : k < wd
    · obtain ⟨g, o, x, rfl, _, hx, h1⟩ := hb.int (k := (at_ + k) / 8) (by omega)
      have hxb := hby x (List.mem_of_getElem? hx)
      have Hx := veil hx
      clear hx
      generalize HJ : at_ + k = J at *
      have HJ := veil HJ
      go_wp2_with fail
      go_roundg (wd - (k + 1))
      case rel => exact ⟨k + 1, rfl, by omega, by rw [← HJ.out]; go_num, congrArg (Value.int .i64) (bit_step _ _ _ _ _ HJ.out Hx.out hxb (by omega) (by omega)), rfl⟩
      case measure => omega
    · obtain rfl : k = wd := by omega
      go_wp2
      go_ret
      exact ⟨rfl, rfl⟩
end Go.Proofs.Ytjphfbapekdjmaa
