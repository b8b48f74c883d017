/- The reference's binary digits: texts of zeros and ones. -/
import Derived.Test.YthelblkpfkngmaaBitMath
import Derived.Test.YthelblkpfkngmaaSmallMath
import Derived.Test.YthelblkpfkngmaaMem
import Derived.Test.YthelblkpfkngmaaChecked
import Derived.Lib.OthersKept
namespace Go.Proofs.Ythelblkpfkngmaa
open Go.RowKit
set_option linter.unusedVariables false
set_option linter.unusedSimpArgs false

def digB (b : Bool) : UInt8 := if b then 49 else 48
def dig (l : List Bool) : List UInt8 := l.map digB
/-- The text of these digits. -/
def txt (l : List Bool) : ByteArray := ⟨(dig l).toArray⟩
theorem txt_nil : txt [] = ⟨#[]⟩ := rfl
theorem txt_append (a b : List Bool) : txt a ++ txt b = txt (a ++ b) := by
  apply ByteArray.ext; simp [txt, dig]
theorem txt_size (l : List Bool) : (txt l).size = l.length := by simp [txt, dig, ByteArray.size]

theorem enc_bit (q : Nat) : Utf8.encode (48 + (q : Int) % 2) = txt [decide (q % 2 = 1)] := by
  rcases Nat.mod_two_eq_zero_or_one q with h | h
  · have e : (q : Int) % 2 = 0 := by omega
    rw [e, h]; decide +kernel
  · have e : (q : Int) % 2 = 1 := by omega
    rw [e, h]; decide +kernel

theorem outside_any (n lo hi : Int) (w : World) : Calls Try.prog 31 #[.int .i64 n, .int .i64 lo, .int .i64 hi] w fun e w' => e = .returned (.bool (!(decide (lo ≤ n) && decide (n ≤ hi)))) ∧ w = w' := by
  have Hd : Hid (∀ b, b = (!(decide (lo ≤ n) && decide (n ≤ hi))) → b = (!(decide (lo ≤ n) && decide (n ≤ hi)))) := fun b h => h
  generalize hB : (!(decide (lo ≤ n) && decide (n ≤ hi))) = B at *
  have HB := veil hB; clear hB
  by_cases h1 : n < lo <;> by_cases h2 : hi < n <;>
  · go_enter Try.func31, Try.ntmps31
    go_wp2
    go_ret
    exact ⟨ret_bool (by rw [← HB.out]; symm; simp; omega), rfl⟩

set_option maxHeartbeats 400000 in
theorem binary_any (k n : Nat) (w : World) (hk : k ≤ 64) (hn : n < 9223372036854775808) :
    Calls Try.prog 49 #[.int .i64 k, .int .i64 n] w fun e w' => e = .returned (.string (txt (bitsN k n))) ∧ w = w' := by
  go_enter Try.func49, Try.ntmps49
  go_wp2_with fail
  go_loopg [1, 5, 7] k (fun gk nv s i wr => ∃ j : Nat, gk = k - j ∧ j ≤ k ∧ i = .int .i64 j ∧ nv = .int .i64 (n / 2 ^ j : Nat) ∧ s = .string (txt (bitsN j n)) ∧ w = wr)
  case atStart => exact ⟨0, rfl, Nat.zero_le _, rfl, by simp, rfl, rfl⟩
  case round =>
    obtain ⟨j, rfl, hj, rfl, rfl, rfl, rfl⟩ := hrel
    have hq : n / 2 ^ j < 9223372036854775808 := Nat.lt_of_le_of_lt (Nat.div_le_self _ _) hn
    by_cases hlt : j < k
    · generalize hQ : n / 2 ^ j = q at *
      have HQ := veil hQ; clear hQ
      have henc := enc_bit q
      have hsz : (Utf8.encode (48 + (q : Int) % 2)).size + (txt (bitsN j n)).size ≤ 9223372036854775807 := by
        rw [henc, txt_size, txt_size, bitsN_length]; simp; omega
      have Henc := veil henc; clear henc
      go_wp2
      go_roundg (k - (j + 1))
      case rel => exact ⟨j + 1, rfl, by omega, by go_num, by rw [Nat.pow_succ, ← Nat.div_div_eq_div_mul, HQ.out]; go_num, by rw [Henc.out, txt_append, ← HQ.out, Nat.add_comm j 1, bitsN_add]; rfl, rfl⟩
      case measure => omega
    · obtain rfl : j = k := by omega
      go_wp2
      go_ret
      exact ⟨rfl, rfl⟩
theorem txt_at (l : List Bool) (p : Nat) (b : Bool) (h : l[p]? = some b) (hp : p < (txt l).size) : ((txt l)[p]'hp).toNat = if b then 49 else 48 := by
  obtain ⟨hl, rfl⟩ := List.getElem?_eq_some_iff.1 h
  have : (txt l)[p]'hp = digB l[p] := by
    show (txt l).data[p]'hp = _
    simp [txt, dig]
  rw [this, digB]
  split <;> rfl
end Go.Proofs.Ythelblkpfkngmaa
