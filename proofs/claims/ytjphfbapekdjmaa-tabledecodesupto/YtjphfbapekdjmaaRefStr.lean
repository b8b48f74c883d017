/- The reference's binary digits: texts of zeros and ones. -/
import Derived.Test.YtjphfbapekdjmaaBitsWrite
import Derived.Test.YtjphfbapekdjmaaBitMath
import Derived.Test.YtjphfbapekdjmaaSmallMath
import Derived.Test.YtjphfbapekdjmaaMem
import Derived.Test.YtjphfbapekdjmaaChecked
import Derived.Lib.OthersKept
namespace Go.Proofs.Ytjphfbapekdjmaa
open Go.RowKit
set_option linter.unusedVariables false
set_option linter.unusedSimpArgs false
set_option maxRecDepth 100000

def digB (b : Bool) : UInt8 := if b then 49 else 48
def dig (l : List Bool) : List UInt8 := l.map digB
/-- The text of these digits. -/
def txt (l : List Bool) : ByteArray := ⟨(dig l).toArray⟩
theorem txt_nil : txt [] = ⟨#[]⟩ := rfl
theorem txt_append (a b : List Bool) : txt a ++ txt b = txt (a ++ b) := by
  apply ByteArray.ext; simp [txt, dig]
theorem txt_size (l : List Bool) : (txt l).size = l.length := by simp [txt, dig, ByteArray.size]

theorem enc_bit (q : Nat) : Utf8.encode (48 + (q : Int) % 2) = txt [decide (q % 2 = 1)] := by
  rcases Nat.mod_two_eq_zero_or_one q with h | h
  · have e : (q : Int) % 2 = 0 := by omega
    rw [e, h]; decide +kernel
  · have e : (q : Int) % 2 = 1 := by omega
    rw [e, h]; decide +kernel

theorem outside_any (n lo hi : Int) (w : World) : Calls Try.prog 30 #[.int .i64 n, .int .i64 lo, .int .i64 hi] w fun e w' => e = .returned (.bool (!(decide (lo ≤ n) && decide (n ≤ hi)))) ∧ w = w' := by
  have Hd : Hid (∀ b, b = (!(decide (lo ≤ n) && decide (n ≤ hi))) → b = (!(decide (lo ≤ n) && decide (n ≤ hi)))) := fun b h => h
  generalize hB : (!(decide (lo ≤ n) && decide (n ≤ hi))) = B at *
  have HB := veil hB; clear hB
  by_cases h1 : n < lo <;> by_cases h2 : hi < n <;>
  · go_enter Try.func30, Try.ntmps30
    go_wp2
    go_ret
    exact ⟨ret_bool (by rw [← HB.out]; symm; simp; omega), rfl⟩

set_option maxHeartbeats 400000 in
theorem binary_any (k n : Nat) (w : World) (hk : k ≤ 64) (hn : n < 9223372036854775808) :
    Calls Try.prog 42 #[.int .i64 k, .int .i64 n] w fun e w' => e = .returned (.string (txt (bitsN k n))) ∧ w = w' := by
  go_enter Try.func42, Try.ntmps42
  go_wp2_with fail
  go_loopg [1, 5, 7] k (fun gk nv s i wr => ∃ j : Nat, gk = k - j ∧ j ≤ k ∧ i = .int .i64 j ∧ nv = .int .i64 (n / 2 ^ j : Nat) ∧ s = .string (txt (bitsN j n)) ∧ w = wr)
  case atStart => exact ⟨0, rfl, Nat.zero_le _, rfl, by simp, rfl, rfl⟩
  case round =>
    obtain ⟨j, rfl, hj, rfl, rfl, rfl, rfl⟩ := hrel
    have hq : n / 2 ^ j < 9223372036854775808 := Nat.lt_of_le_of_lt (Nat.div_le_self _ _) hn
    by_cases hlt : j < k
    · generalize hQ : n / 2 ^ j = q at *
      have HQ := veil hQ; clear hQ
      have henc := enc_bit q
      have hsz : (Utf8.encode (48 + (q : Int) % 2)).size + (txt (bitsN j n)).size ≤ 9223372036854775807 := by
        rw [henc, txt_size, txt_size, bitsN_length]; simp; omega
      have Henc := veil henc; clear henc
      go_wp2
      go_roundg (k - (j + 1))
      case rel => exact ⟨j + 1, rfl, by omega, by go_num, by rw [Nat.pow_succ, ← Nat.div_div_eq_div_mul, HQ.out]; go_num, by rw [Henc.out, txt_append, ← HQ.out, Nat.add_comm j 1, bitsN_add]; rfl, rfl⟩
      case measure => omega
    · obtain rfl : j = k := by omega
      go_wp2
      go_ret
      exact ⟨rfl, rfl⟩
theorem txt_at (l : List Bool) (p : Nat) (b : Bool) (h : l[p]? = some b) (hp : p < (txt l).size) : ((txt l)[p]'hp).toNat = if b then 49 else 48 := by
  obtain ⟨hl, rfl⟩ := List.getElem?_eq_some_iff.1 h
  have : (txt l)[p]'hp = digB l[p] := by
    show (txt l).data[p]'hp = _
    simp [txt, dig]
  rw [this, digB]
  split <;> rfl
theorem next_dig (wr : World) (k : Nat) (l : List Bool) (p : Nat) (b : Bool) (hk : wr.heap[k]? = some (.stringIter (txt l) p)) (h : l[p]? = some b) (ty : TypeId) :
    (Instr.next (.pointer (some ⟨k, 0, none⟩)) true ty).run Try.prog wr = .ok (.tuple #[.bool true, .int .i64 p, .int .i32 (if b then 49 else 48)]) (wr.iterAt k (txt l) (p + 1)) := by
  have hp : p < (txt l).size := by rw [txt_size]; exact (List.getElem?_eq_some_iff.1 h).1
  have e := txt_at l p b h hp
  have h1 := Lib.run_next_ascii_at (P := Try.prog) wr k (txt l) p ty hk hp (by rw [e]; split <;> omega)
  rw [h1, e]
  cases b <;> rfl

theorem below_iter (w : World) (s : ByteArray) (p : Nat) : Below w.heap.size w (w.iter s p) := below1 w _
set_option maxHeartbeats 400000 in
theorem fromBinary_any (l : List Bool) (w : World) (hl : l.length ≤ 24) :
    Calls Try.prog 39 #[.string (txt l)] w fun e w' => e = .returned (.int .i64 (valB l)) ∧ Below w.heap.size w w' := by
  go_enter Try.func39, Try.ntmps39
  go_wp2_with fail
  go_loopg [3, 5] (l.length + 1) (fun gk nv cv wr => ∃ p : Nat, gk = l.length + 1 - p ∧ p ≤ l.length ∧ nv = .int .i64 (valB (l.take p)) ∧ wr.heap[w.heap.size]? = some (.stringIter (txt l) p) ∧ Below w.heap.size w wr)
  case atStart => exact ⟨0, rfl, Nat.zero_le _, rfl, World.iter_heap _ _ _, below_iter _ _ _⟩
  case round =>
    obtain ⟨p, rfl, hp, rfl, hit, hb⟩ := hrel
    by_cases hlt : p < l.length
    · obtain ⟨b, hbit⟩ := some_at hlt
      have hnx := next_dig wr w.heap.size l p b hit hbit
      have hv := valB_lt (l.take p)
      have hv2 : 2 ^ (l.take p).length ≤ 2 ^ 24 := two_pow_lt _ _ (by simp; omega)
      have hv3 : valB (l.take p) ≤ 16777216 := by omega
      have hstep : valB (l.take (p + 1)) = 2 * valB (l.take p) + b.toNat := by rw [take_snoc hbit, valB_snoc]
      have Hst := veil hstep
      clear hbit hv hv2 hstep
      have hit' := Lib.iterAt_heap wr w.heap.size (txt l) p (p + 1) hit
      have hb' := Lib.below_iterAt hb (Nat.le_refl _) (txt l) (p + 1)
      have Hit' := veil hit'; clear hit'
      have Hit := veil hit; clear hit
      cases b
      · simp only [Bool.false_eq_true, if_false] at hnx
        go_wp2
        go_roundg (l.length + 1 - (p + 1))
        case rel => exact ⟨p + 1, rfl, by omega, by rw [Hst.out]; go_num, Hit'.out, hb'⟩
        case measure => omega
      · simp only [if_true] at hnx
        go_wp2
        go_roundg (l.length + 1 - (p + 1))
        case rel => exact ⟨p + 1, rfl, by omega, by rw [Hst.out]; go_num, Hit'.out, hb'⟩
        case measure => omega
    · obtain rfl : p = l.length := by omega
      have hnx := fun ty => Lib.run_next_end_at (P := Try.prog) wr w.heap.size (txt l) l.length ty hit (by rw [txt_size]; omega)
      rw [List.take_length]
      clear hit
      go_wp2
      go_ret
      exact ⟨rfl, hb⟩
end Go.Proofs.Ytjphfbapekdjmaa
