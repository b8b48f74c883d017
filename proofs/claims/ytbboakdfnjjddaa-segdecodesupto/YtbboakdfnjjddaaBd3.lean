/- Texts shared by the claims of this seat, in one. -/
import Derived.Test.YtbboakdfnjjddaaBd2
import Derived.Test.YtbboakdfnjjddaaBd1
import Derived.Test.YtbboakdfnjjddaaChecked
import Derived.Lib.OthersKept
import Derived.Test.YtbboakdfnjjddaaRows
import Derived.Laws.MakeOwn
import Derived.Laws.DeepStrings4
/- The reference's binary digits: texts of zeros and ones. -/
namespace Go.Proofs.Ytbboakdfnjjddaa
open Go.RowKit
set_option linter.unusedVariables false
set_option linter.unusedSimpArgs false
set_option maxRecDepth 100000

def digB (b : Bool) : UInt8 := if b then 49 else 48
def dig (l : List Bool) : List UInt8 := l.map digB
/-- The text of these digits. -/
def txt (l : List Bool) : ByteArray := ⟨(dig l).toArray⟩
theorem txt_append (a b : List Bool) : txt a ++ txt b = txt (a ++ b) := by
  apply ByteArray.ext; simp [txt, dig]
theorem txt_size (l : List Bool) : (txt l).size = l.length := by simp [txt, dig, ByteArray.size]

theorem enc_bit (q : Nat) : Utf8.encode (48 + (q : Int) % 2) = txt [decide (q % 2 = 1)] := by
  rcases Nat.mod_two_eq_zero_or_one q with h | h
  · have e : (q : Int) % 2 = 0 := by omega
    rw [e, h]; decide +kernel
  · have e : (q : Int) % 2 = 1 := by omega
    rw [e, h]; decide +kernel

theorem outside_any (n lo hi : Int) (w : World) : Calls Try.prog 43 #[.int .i64 n, .int .i64 lo, .int .i64 hi] w fun e w' => e = .returned (.bool (!(decide (lo ≤ n) && decide (n ≤ hi)))) ∧ w = w' := by
  have Hd : Hid (∀ b, b = (!(decide (lo ≤ n) && decide (n ≤ hi))) → b = (!(decide (lo ≤ n) && decide (n ≤ hi)))) := fun b h => h
  generalize hB : (!(decide (lo ≤ n) && decide (n ≤ hi))) = B at *
  have HB := veil hB; clear hB
  by_cases h1 : n < lo <;> by_cases h2 : hi < n <;>
  · go_enter Try.func43, Try.ntmps43
    go_wp2
    go_ret
    exact ⟨ret_bool (by rw [← HB.out]; symm; simp; omega), rfl⟩

set_option maxHeartbeats 400000 in
theorem binary_any (k n : Nat) (w : World) (hk : k ≤ 64) (hn : n < 9223372036854775808) :
    Calls Try.prog 36 #[.int .i64 k, .int .i64 n] w fun e w' => e = .returned (.string (txt (bitsN k n))) ∧ w = w' := by
  go_enter Try.func36, Try.ntmps36
  go_wp2_with fail
  go_loopg [1, 5, 7] k (fun gk nv s i wr => ∃ j : Nat, gk = k - j ∧ j ≤ k ∧ i = .int .i64 j ∧ nv = .int .i64 (n / 2 ^ j : Nat) ∧ s = .string (txt (bitsN j n)) ∧ w = wr)
  case atStart => exact ⟨0, rfl, Nat.zero_le _, rfl, by simp, rfl, rfl⟩
  case round =>
    obtain ⟨j, rfl, hj, rfl, rfl, rfl, rfl⟩ := hrel
    have hq : n / 2 ^ j < 9223372036854775808 := Nat.lt_of_le_of_lt (Nat.div_le_self _ _) hn
    by_cases hlt : j < k
    · generalize hQ : n / 2 ^ j = q at *
      have HQ := veil hQ; clear hQ
      have henc := enc_bit q
      have hsz : (Utf8.encode (48 + (q : Int) % 2)).size + (txt (bitsN j n)).size ≤ 9223372036854775807 := by
        rw [henc, txt_size, txt_size, bitsN_length]; simp; omega
      have Henc := veil henc; clear henc
      go_wp2
      go_roundg (k - (j + 1))
      case rel => exact ⟨j + 1, rfl, by omega, by go_num, by rw [Nat.pow_succ, ← Nat.div_div_eq_div_mul, HQ.out]; go_num, by rw [Henc.out, txt_append, ← HQ.out, Nat.add_comm j 1, bitsN_add]; rfl, rfl⟩
      case measure => omega
    · obtain rfl : j = k := by omega
      go_wp2
      go_ret
      exact ⟨rfl, rfl⟩
theorem txt_at (l : List Bool) (p : Nat) (b : Bool) (h : l[p]? = some b) (hp : p < (txt l).size) : ((txt l)[p]'hp).toNat = if b then 49 else 48 := by
  obtain ⟨hl, rfl⟩ := List.getElem?_eq_some_iff.1 h
  have : (txt l)[p]'hp = digB l[p] := by
    show (txt l).data[p]'hp = _
    simp [txt, dig]
  rw [this, digB]
  split <;> rfl
theorem next_dig (wr : World) (k : Nat) (l : List Bool) (p : Nat) (b : Bool) (hk : wr.heap[k]? = some (.stringIter (txt l) p)) (h : l[p]? = some b) (ty : TypeId) :
    (Instr.next (.pointer (some ⟨k, 0, none⟩)) true ty).run Try.prog wr = .ok (.tuple #[.bool true, .int .i64 p, .int .i32 (if b then 49 else 48)]) (wr.iterAt k (txt l) (p + 1)) := by
  have hp : p < (txt l).size := by rw [txt_size]; exact (List.getElem?_eq_some_iff.1 h).1
  have e := txt_at l p b h hp
  have h1 := Lib.run_next_ascii_at (P := Try.prog) wr k (txt l) p ty hk hp (by rw [e]; split <;> omega)
  rw [h1, e]
  cases b <;> rfl

theorem below_iter (w : World) (s : ByteArray) (p : Nat) : Below w.heap.size w (w.iter s p) := below1 w _
set_option maxHeartbeats 400000 in
theorem fromBinary_any (l : List Bool) (w : World) (hl : l.length ≤ 24) :
    Calls Try.prog 49 #[.string (txt l)] w fun e w' => e = .returned (.int .i64 (valB l)) ∧ Below w.heap.size w w' := by
  go_enter Try.func49, Try.ntmps49
  go_wp2_with fail
  go_loopg [3, 5] (l.length + 1) (fun gk nv cv wr => ∃ p : Nat, gk = l.length + 1 - p ∧ p ≤ l.length ∧ nv = .int .i64 (valB (l.take p)) ∧ wr.heap[w.heap.size]? = some (.stringIter (txt l) p) ∧ Below w.heap.size w wr)
  case atStart => exact ⟨0, rfl, Nat.zero_le _, rfl, World.iter_heap _ _ _, below_iter _ _ _⟩
  case round =>
    obtain ⟨p, rfl, hp, rfl, hit, hb⟩ := hrel
    by_cases hlt : p < l.length
    · obtain ⟨b, hbit⟩ := some_at hlt
      have hnx := next_dig wr w.heap.size l p b hit hbit
      have hv := valB_lt (l.take p)
      have hv2 : 2 ^ (l.take p).length ≤ 2 ^ 24 := two_pow_lt _ _ (by simp; omega)
      have hv3 : valB (l.take p) ≤ 16777216 := by omega
      have hstep : valB (l.take (p + 1)) = 2 * valB (l.take p) + b.toNat := by rw [take_snoc hbit, valB_snoc]
      have Hst := veil hstep
      clear hbit hv hv2 hstep
      have hit' := Lib.iterAt_heap wr w.heap.size (txt l) p (p + 1) hit
      have hb' := Lib.below_iterAt hb (Nat.le_refl _) (txt l) (p + 1)
      have Hit' := veil hit'; clear hit'
      have Hit := veil hit; clear hit
      cases b
      · simp only [Bool.false_eq_true, if_false] at hnx
        go_wp2
        go_roundg (l.length + 1 - (p + 1))
        case rel => exact ⟨p + 1, rfl, by omega, by rw [Hst.out]; go_num, Hit'.out, hb'⟩
        case measure => omega
      · simp only [if_true] at hnx
        go_wp2
        go_roundg (l.length + 1 - (p + 1))
        case rel => exact ⟨p + 1, rfl, by omega, by rw [Hst.out]; go_num, Hit'.out, hb'⟩
        case measure => omega
    · obtain rfl : p = l.length := by omega
      have hnx := fun ty => Lib.run_next_end_at (P := Try.prog) wr w.heap.size (txt l) l.length ty hit (by rw [txt_size]; omega)
      rw [List.take_length]
      clear hit
      go_wp2
      go_ret
      exact ⟨rfl, hb⟩
end Go.Proofs.Ytbboakdfnjjddaa

/- The reference's power and outside. -/
namespace Go.Proofs.Ytbboakdfnjjddaa
open Go.RowKit
set_option linter.unusedVariables false
set_option linter.unusedSimpArgs false
set_option maxRecDepth 100000

theorem power_any (k : Nat) (w : World) (h : k ≤ 24) : Calls Try.prog 83 #[.int .i64 k] w fun e w' => e = .returned (.int .i64 (2 ^ k : Nat)) ∧ w = w' := by
  go_enter Try.func83, Try.ntmps83
  go_wp2
  go_ret
  refine ⟨?_, rfl⟩
  have h1 : 2 ^ k ≤ 2 ^ 24 := two_pow_lt _ _ h
  have e : wrap64 ((2 : Int) ^ k) = ((2 ^ k : Nat) : Int) := by rw [show ((2 : Int) ^ k) = ((2 ^ k : Nat) : Int) by simp]; exact wrap64_nat _ (by omega)
  exact congrArg (fun x => Ending.returned (.int .i64 x)) e

theorem outside_yes (n lo hi : Int) (h : n < lo ∨ hi < n) (w : World) : Calls Try.prog 43 #[.int .i64 n, .int .i64 lo, .int .i64 hi] w fun e w' => e = .returned (.bool true) ∧ w' = w :=
  (outside_any n lo hi w).mono fun e w' h2 => ⟨by rw [h2.1]; refine ret_bool ?_; simp; omega, h2.2.symm⟩
theorem outside_no (n lo hi : Int) (h : lo ≤ n ∧ n ≤ hi) (w : World) : Calls Try.prog 43 #[.int .i64 n, .int .i64 lo, .int .i64 hi] w fun e w' => e = .returned (.bool false) ∧ w' = w :=
  (outside_any n lo hi w).mono fun e w' h2 => ⟨by rw [h2.1]; refine ret_bool ?_; simp; omega, h2.2.symm⟩
end Go.Proofs.Ytbboakdfnjjddaa

/- The reference's words of a table, as binary digits. -/
namespace Go.Proofs.Ytbboakdfnjjddaa
open Go.RowKit
set_option linter.unusedVariables false
set_option linter.unusedSimpArgs false
set_option maxRecDepth 100000

theorem elem_str : ElemOf Try.prog 117 9 1 16 := .mk' (z := .string .empty) Try.underlying117 (by kernel_rfl) rfl (by omega)
def strs (l : List (Nat × Nat)) : List Value := l.map fun p => .string (txt (bitsN p.1 p.2))
theorem strs_at {l : List (Nat × Nat)} {k : Nat} {p : Nat × Nat} (h : l[k]? = some p) : (strs l)[k]? = some (.string (txt (bitsN p.1 p.2))) := by simp [strs, h]
abbrev strRow (v : Value) (l : List (Nat × Nat)) : Row := ⟨9, 1, v, l.length, strs l⟩
theorem strRow_snoc (v : Value) (l : List (Nat × Nat)) (p : Nat × Nat) : (⟨9, 1, v, l.length + [Value.string (txt (bitsN p.1 p.2))].length, strs l ++ [.string (txt (bitsN p.1 p.2))]⟩ : Row) = strRow v (l ++ [p]) := by simp [strRow, strs]

set_option maxRecDepth 100000 in
set_option maxHeartbeats 2000000 in
theorem refWordsOf_any (ns : List Nat) (A : Option Addr) (n c : Nat) (w : World) (hns : ns.length = 16) (hsum : ns.sum ≤ 256) :
    Calls Try.prog 60 #[tabV (natI ns) A n c] w fun e w' => ∃ v, e = .returned (.tuple #[v, .bool (codes ns).isSome]) ∧ Owns w.heap.size [strRow v ((codes ns).getD [])] w' ∧ Below w.heap.size w w' := by
  have hcs : (natI ns).length = 16 := by rw [natI_length]; exact hns
  have hr : Hid (∀ xs, xs = tabCells (natI ns) A n c → (w.alloc (.cells xs.toArray 34)).rangeAt w.heap.size 0 (ints .i64 (natI ns))) := by
    show ∀ xs, _
    intro xs e
    subst e
    exact range_left (range_new w _ _)
  have Hcs := veil hcs; have Hns := veil hns; have Hsum := veil hsum
  clear hcs hns hsum
  obtain ⟨xs, hxs⟩ : ∃ xs, xs = tabCells (natI ns) A n c := ⟨_, rfl⟩
  have Hr := veil (hr.out xs hxs)
  unfold tabV
  rw [← hxs]
  clear hr hxs
  go_enter Try.func60, Try.ntmps60
  go_wp2_with (first
    | (refine wpList_load_mid rfl 32 (.tmp 8) rfl w.heap.size 0 rfl (ints .i64 (natI ns)) _ Hr.out Try.underlying32 rfl (by rw [ints_length, Hcs.out]; exact info_arr) ?_)
    | fail)
  go_loopg [4, 5, 6, 7, 10] 16 (fun gk v cv kv nv i wr => ∃ (k cd : Nat) (acc : List (Nat × Nat)), gk = 16 - k ∧ k ≤ 16 ∧ i = .int .i64 k ∧ cv = .int .i64 cd ∧ Hid (CInv ns k (2 * cd) acc) ∧ Owns w.heap.size [strRow v acc] wr ∧ Below w.heap.size w wr)
  case atStart => exact ⟨0, 0, [], rfl, by omega, rfl, rfl, veil (CInv.start ns), (Owns.nil (by simp)).fresh _ _, below1 _ _⟩
  case round =>
    obtain ⟨k, cd0, acc, rfl, hk, rfl, rfl, HI, HO, hbel⟩ := hrel
    by_cases hlt : k < 16
    · obtain ⟨q, hq⟩ := some_at (xs := ns) (j := k) (by rw [Hns.out]; omega)
      have hcd := HI.out.2.1
      have hp16 : 2 ^ (k + 1) ≤ 2 ^ 16 := Nat.pow_le_pow_right (by omega) (by omega)
      have hacc : acc.length + q ≤ 256 := by
        have h1 := take_sum hq
        have h2 : (ns.take (k + 1)).sum + (ns.drop (k + 1)).sum = ns.sum := by rw [← List.sum_append, List.take_append_drop]
        have := Hsum.out
        have := HI.out.2.2
        omega
      obtain ⟨cd, hcd0⟩ : ∃ cd, cd = 2 * cd0 := ⟨_, rfl⟩
      rw [← hcd0] at HI hcd
      have Hn := veil hq; have Hcd := veil hcd; have Hp16 := veil hp16
      have hcd2 : cd < 65536 := by omega
      have hq2 : q ≤ 256 := by omega
      have hw2 : (cd0 : Int) * 2 = (cd : Int) := by omega
      have Hcd0 := veil hcd0
      clear hq hcd hp16 hcd0
      go_wp2_with (first
        | (refine wpList_index_arr rfl 32 (.tmp 9) (.tmp 10) rfl 16 3 .i64 Try.underlying32 Try.underlying3 info_int1 (ints .i64 (natI ns)) rfl .i64 k rfl (.int .i64 (q : Int)) hlt (ints_at (natI_at Hn.out)) ?_)
        | fail)
      obtain ⟨N, hN⟩ : ∃ N, N = 2 ^ (k + 1) - 1 := ⟨_, rfl⟩
      have hN2 : N < 65536 := by have := Hp16.out; omega
      have HN := veil hN
      have hpw := fun w => power_any (k + 1) w (by omega)
      have hp0 : 0 < 2 ^ (k + 1) := Nat.pow_pos (by omega)
      have hN1 : 2 ^ (k + 1) = N + 1 := by omega
      rw [hN1] at hpw
      clear hN hp0 hN1
      have Hpw := veil hpw; clear hpw
      go_loopg [4, 5, 17] q (fun gk v cv i wr2 => ∃ j : Nat, gk = q - j ∧ j ≤ q ∧ i = .int .i64 j ∧ cv = .int .i64 ((cd + j : Nat) : Int) ∧ Hid (cd + j ≤ N) ∧ Owns w.heap.size [strRow v (acc ++ wordsTo k cd j)] wr2 ∧ Below w.heap.size w wr2)
      case atStart => exact ⟨0, rfl, Nat.zero_le _, rfl, by go_num, veil (by have := Hcd.out; have := HN.out; omega), by simpa [wordsTo] using HO, hbel⟩
      case round =>
        obtain ⟨j, rfl, hj, rfl, rfl, HJ, HO2, hbel2⟩ := hrel
        have hz2 := hbel2.size
        by_cases hjn : j < q
        · have hpw := Hpw.out wr
          rw [show (((k + 1 : Nat)) : Int) = (k : Int) + 1 from rfl, show (((N + 1 : Nat)) : Int) = (N : Int) + 1 from rfl] at hpw
          have Hp := veil hpw; clear hpw
          by_cases hf : N ≤ cd + j
          · have hd := HI.out.fail Hn.out hjn (by rw [← HN.out]; exact hf)
            have Hd := veil hd; clear hd
            have hf' : (N : Int) ≤ (cd : Int) + j := by omega
            go_wp2_with fail
            refine Hp.out.mono ?_
            rintro e w3 ⟨rfl, rfl⟩
            go_wp2
            go_ret2
            exact ⟨_, ret_two rfl (by rw [Hd.out]; rfl), by rw [Hd.out]; exact (Owns.nil hbel2.size).fresh _ _, hbel2⟩
          · have hf' : ¬ (N : Int) ≤ (cd : Int) + j := by omega
            have hbn := binary_any (k + 1) (cd + j) wr (by omega) (by omega)
            rw [show (((k + 1 : Nat)) : Int) = (k : Int) + 1 from rfl, show (((cd + j : Nat)) : Int) = (cd : Int) + j from rfl] at hbn
            have Hbn := veil hbn; clear hbn
            have hlen : (acc ++ wordsTo k cd j).length = acc.length + j := by rw [List.length_append, wordsTo_length]
            have hap : acc ++ wordsTo k cd (j + 1) = (acc ++ wordsTo k cd j) ++ [(k + 1, cd + j)] := by rw [wordsTo_snoc, List.append_assoc]
            have Hlen := veil hlen; have Hap := veil hap
            clear hlen hap
            generalize acc ++ wordsTo k cd j = ws at *
            go_wp2_with fail
            refine Hp.out.mono ?_
            rintro e w3 ⟨rfl, rfl⟩
            go_wp2_with fail
            refine Hbn.out.mono ?_
            rintro e w3 ⟨rfl, rfl⟩
            go_wp2_with (first
              | (at_builtin; go_loud (refine wpList_ownN _ rfl (.tmp 25) (.tmp 30) _ rfl w.heap.size 9 16 elem_str u4 ws.length (strs ws) [] rfl HO2 [.string (txt (bitsN (k + 1) (cd + j)))] rfl (by simp [Value.oneCell']) (by have := Hlen.out; unfold maxLen; simp; omega) (by have := Hlen.out; simp; omega) ?_); intro v1 w1 HO3 hb3 hz3))
            rw [strRow_snoc _ _ (k + 1, cd + j)] at HO3
            go_roundg (q - (j + 1))
            case rel => exact ⟨j + 1, rfl, by omega, by go_num, by go_num, veil (by omega), by rw [Hap.out]; exact HO3, hbel2.trans hb3⟩
            case measure => omega
        · obtain rfl : j = q := by omega
          go_wp2
          go_roundg (16 - (k + 1))
          case rel => exact ⟨k + 1, cd + j, acc ++ wordsTo k cd j, rfl, by omega, by go_num, rfl, veil (HI.out.next Hn.out (by rw [← HN.out]; exact HJ.out)), HO2, hbel2⟩
          case measure => omega
    · obtain rfl : k = 16 := by omega
      have hd : codes ns = some acc := by have h := HI.out; rw [← Hns.out] at h; exact h.done
      have Hd := veil hd; clear hd
      go_wp2
      go_ret2
      exact ⟨_, ret_two rfl (by rw [Hd.out]; rfl), by rw [Hd.out]; exact HO, hbel⟩
end Go.Proofs.Ytbboakdfnjjddaa

/- The reference's Has at numbers. -/
namespace Go.Proofs.Ytbboakdfnjjddaa
open Go.RowKit
set_option linter.unusedVariables false
set_option linter.unusedSimpArgs false
set_option maxRecDepth 100000

theorem hasInt (A : Option Addr) (c G : Nat) (xs : List Int) (y : Int) (w : World) (hx : Seen w G A (ints .i64 xs)) (hl : xs.length ≤ maxLen) :
    Calls Try.prog 82 #[.slice A xs.length c, .int .i64 y] w fun e w' => e = .returned (.bool (decide (y ∈ xs))) ∧ w = w' := by
  unfold maxLen at hl
  go_enter Try.func82, Try.ntmps82
  go_wp2_with fail
  go_loopg [6, 9] xs.length (fun gk v i wr => ∃ k : Nat, gk = xs.length - k ∧ k ≤ xs.length ∧ i = .int .i64 k ∧ Hid (y ∉ xs.take k) ∧ w = wr)
  case atStart => exact ⟨0, rfl, Nat.zero_le _, rfl, veil (by simp), rfl⟩
  case round =>
    obtain ⟨k, rfl, hk, rfl, HN, rfl⟩ := hrel
    by_cases hlt : k < xs.length
    · obtain ⟨g, o, x, rfl, _, hxk, h1⟩ := hx.int hlt
      have Hx := veil hxk; clear hxk
      by_cases hxy : y = x
      · have hb : (y == x) = true := by simpa using hxy
        have hm : y ∈ xs := by rw [hxy]; exact List.mem_of_getElem? Hx.out
        have Hd := veil (decide_eq_true hm)
        clear hxy hm
        go_wp2
        go_ret
        exact ⟨ret_bool Hd.out.symm, rfl⟩
      · have hb : (y == x) = false := by simpa using hxy
        have Hxy := veil hxy; clear hxy
        go_wp2
        go_roundg (xs.length - (k + 1))
        case rel =>
          refine ⟨k + 1, rfl, by omega, by go_num, veil ?_, rfl⟩
          rw [take_snoc Hx.out]
          intro h
          rcases List.mem_append.1 h with h | h
          · exact HN.out h
          · simp at h; exact Hxy.out h
        case measure => omega
    · obtain rfl : k = xs.length := by omega
      have hm : y ∉ xs := by have := HN.out; rw [List.take_length] at this; exact this
      have Hd := veil (decide_eq_false hm)
      clear hm
      go_wp2
      go_ret
      exact ⟨ret_bool Hd.out.symm, rfl⟩
end Go.Proofs.Ytbboakdfnjjddaa

/- The reference's check of a table: the same contract as Check's. -/
namespace Go.Proofs.Ytbboakdfnjjddaa
open Go.RowKit
set_option linter.unusedVariables false
set_option linter.unusedSimpArgs false
set_option maxRecDepth 100000

theorem run_take_ints (A : Option Addr) (n c h : Nat) (h2 : h ≤ c) (u : World) : (Instr.sliceAt 23 (.slice A n c) none (some (.int .i64 (h : Int))) none).run Try.prog u = .ok (.slice A h c) u := by
  have he : Try.prog.underlying 23 = some (.slice (Try.prog.elem 23)) := by kernel_rfl
  have hz : (sizeOf (Try.prog.elem 23)).run Try.prog u = .ok 1 u := by kernel_rfl
  rw [run_sliceAt_slice _ _ _ _ _ _ he, run_slice_h _ _ _ _ _ he _ _ (by omega) (by omega), hz]
  cases A <;> simp [Result.andThen, sliced, Addr.add]
theorem notGood_sum {cs : List Int} {n k : Nat} (h0 : ∀ x ∈ cs.take k, 0 ≤ x) (h : 256 < sumW (cs.take k)) : ¬ Good cs n := by
  rintro ⟨h1, h2, h3⟩
  have e : sumW cs = sumW (cs.take k) + sumW (cs.drop k) := by
    conv => lhs; rw [← List.take_append_drop k cs, sumW_app]
  have h5 := sumW_pos (cs.drop k) fun y hy => h1 y (List.mem_of_mem_drop hy)
  omega
theorem dup_snoc {syms : List Int} {k : Nat} {x : Int} (hx : syms[k]? = some x) (h : (syms.take k).Nodup) (hn : x ∉ syms.take k) : (syms.take (k + 1)).Nodup := by
  rw [take_snoc hx, List.nodup_append]
  refine ⟨h, by simp, fun a ha b hb => ?_⟩
  simp at hb
  subst hb
  intro e
  subst e
  exact hn ha
theorem dup_stop {syms : List Int} {k : Nat} {x : Int} (hx : syms[k]? = some x) (hn : x ∈ syms.take k) : ¬ syms.Nodup := by
  intro h
  have e : syms = syms.take (k + 1) ++ syms.drop (k + 1) := (List.take_append_drop _ _).symm
  rw [e, List.nodup_append, take_snoc hx, List.nodup_append] at h
  exact h.1.2.2 x hn x (by simp) rfl

set_option maxRecDepth 100000 in
set_option maxHeartbeats 2000000 in
theorem refCheck_any (cs syms : List Int) (A : Option Addr) (c G : Nat) (w : World) (hcs : cs.length = 16) (hn : syms.length ≤ maxLen) (hcap : syms.length ≤ c) (hb : ∀ x ∈ cs, -9223372036854775808 ≤ x ∧ x ≤ 9223372036854775807) (hs : Seen w G A (ints .i64 syms)) (hG : G ≤ w.heap.size) :
    Calls Try.prog 59 #[tabV cs A syms.length c] w fun e w' => e = .returned (.int .i64 (checkErr cs syms)) ∧ Below w.heap.size w w' := by
  have h16 : (tabCells cs A syms.length c)[16]? = some (.slice A syms.length c) := tabCells_last hcs
  have hlen17 : (tabCells cs A syms.length c).length = 17 := tabCells_length hcs
  have hr : Hid (∀ xs, xs = tabCells cs A syms.length c → (w.alloc (.cells xs.toArray 34)).rangeAt w.heap.size 0 (ints .i64 cs)) := by
    show ∀ xs, _
    intro xs e
    subst e
    exact range_left (range_new w _ _)
  have hwo : Hid (Good cs syms.length → ∀ w1, Calls Try.prog 60 #[tabV cs A syms.length c] w1 fun e w' => ∃ v, e = .returned (.tuple #[v, .bool (codes (nats cs)).isSome]) ∧ Owns w1.heap.size [strRow v ((codes (nats cs)).getD [])] w' ∧ Below w1.heap.size w1 w') := by
    show _ → _
    intro hg w1
    have := refWordsOf_any (nats cs) A syms.length c w1 (by rw [nats_length]; exact hcs) (by rw [hg.sum]; exact hg.le)
    rw [natI_nats hg.1] at this
    exact this
  have Hn := veil hn
  unfold maxLen at hn
  have Hb := veil hb
  have Hcs := veil hcs
  clear hb hcs
  obtain ⟨xs, hxs⟩ : ∃ xs, xs = tabCells cs A syms.length c := ⟨_, rfl⟩
  have Hr := veil (hr.out xs hxs)
  have Hrw := veil (range_new w xs 34)
  unfold tabV at hwo ⊢
  rw [← hxs] at h16 hlen17 hwo ⊢
  have H17 := veil hlen17
  clear hr hxs hlen17
  go_enter Try.func59, Try.ntmps59
  go_wp2_with (first
    | (refine wpList_load_mid rfl 32 (.tmp 12) rfl w.heap.size 0 rfl (ints .i64 cs) _ Hr.out Try.underlying32 rfl (by rw [ints_length, Hcs.out]; exact info_arr) ?_)
    | fail)
  have c16 : (w.alloc (.cells xs.toArray 34)).cell? ⟨w.heap.size, 16, none⟩ = some (.slice A syms.length c) := by rw [World.cell?_alloc_at _ _ _ _ rfl]; simpa using h16
  have hsW := hs.alloc hG (.cells xs.toArray 34)
  have hbW := below1 w (.cells xs.toArray 34)
  have hzW : w.heap.size < (w.alloc (.cells xs.toArray 34)).heap.size := by simp
  generalize w.alloc (.cells xs.toArray 34) = W at *
  clear h16 hs Hr
  go_loopg [3, 5, 14] 16 (fun gk s x i wr => ∃ k : Nat, gk = 16 - k ∧ k ≤ 16 ∧ i = .int .i64 k ∧ (∃ z : Int, s = .int .i64 z ∧ Hid (z = sumW (cs.take k)) ∧ 0 ≤ z ∧ z ≤ 256 * k) ∧ Hid (∀ x ∈ cs.take k, 0 ≤ x) ∧ W = wr)
  case atStart => exact ⟨0, rfl, by omega, rfl, ⟨0, rfl, veil rfl, by omega, by omega⟩, veil (by simp), rfl⟩
  case round =>
    obtain ⟨k, rfl, hk, rfl, ⟨z, rfl, Hz, hz0, hz1⟩, Hp, rfl⟩ := hrel
    by_cases hlt : k < 16
    · obtain ⟨x, hx⟩ := some_at (xs := cs) (j := k) (by rw [Hcs.out]; omega)
      have hxb := Hb.out x (List.mem_of_getElem? hx)
      have Hx := veil hx; clear hx
      by_cases hout : x < 0 ∨ 256 < x
      · have hg : ¬ Good cs syms.length := by
          rcases hout with h | h
          · exact good_stop Hx.out (.inl h)
          · exact good_stop Hx.out (.inr (by have := Hz.out; omega))
        have He := veil (checkErr_form hg)
        have Ho := veil (outside_yes x 0 256 hout W)
        clear hg hout
        go_wp2_with (first
          | (refine wpList_index_arr rfl 32 (.tmp 13) (.tmp 14) rfl 16 3 .i64 Try.underlying32 Try.underlying3 info_int1 (ints .i64 cs) rfl .i64 k rfl (.int .i64 x) hlt (ints_at Hx.out) ?_)
          | fail)
        refine Ho.out.mono ?_
        rintro e w3 ⟨rfl, rfl⟩
        go_wp2
        go_ret
        exact ⟨by rw [He.out]; rfl, hbW⟩
      · have hin : 0 ≤ x ∧ x ≤ 256 := by omega
        have Ho := veil (outside_no x 0 256 hin W)
        clear hout
        by_cases hz256 : 256 < z
        · have hg : ¬ Good cs syms.length := notGood_sum Hp.out (by rw [← Hz.out]; exact hz256)
          have He := veil (checkErr_form hg)
          clear hg
          go_wp2_with (first
            | (refine wpList_index_arr rfl 32 (.tmp 13) (.tmp 14) rfl 16 3 .i64 Try.underlying32 Try.underlying3 info_int1 (ints .i64 cs) rfl .i64 k rfl (.int .i64 x) hlt (ints_at Hx.out) ?_)
            | fail)
          refine Ho.out.mono ?_
          rintro e w3 ⟨rfl, rfl⟩
          go_wp2
          go_ret
          exact ⟨by rw [He.out]; rfl, hbW⟩
        · have hw : IntKind.i64.wrap (z + x) = z + x := by rw [IntKind.wrap_i64]; omega
          go_wp2_with (first
            | (refine wpList_index_arr rfl 32 (.tmp 13) (.tmp 14) rfl 16 3 .i64 Try.underlying32 Try.underlying3 info_int1 (ints .i64 cs) rfl .i64 k rfl (.int .i64 x) hlt (ints_at Hx.out) ?_)
            | fail)
          refine Ho.out.mono ?_
          rintro e w3 ⟨rfl, rfl⟩
          go_wp2
          go_roundg (16 - (k + 1))
          case rel => exact ⟨k + 1, rfl, by omega, by go_num, ⟨z + x, by go_num, veil (by rw [sumW_take Hx.out, ← Hz.out]), by omega, by omega⟩, veil (mem_snoc Hx.out Hp.out (by omega)), rfl⟩
          case measure => omega
    · obtain rfl : k = 16 := by omega
      have e : cs.take 16 = cs := by rw [List.take_of_length_le]; rw [Hcs.out]; omega
      have h3 := Hp.out
      have h4 := Hz.out
      rw [e] at h3 h4
      have H3 := veil h3; have H4 := veil h4
      clear e h3 h4
      by_cases hz256 : 256 < z
      · have hg : ¬ Good cs syms.length := fun h => by have := h.2.1; have := H4.out; omega
        have He := veil (checkErr_form hg)
        clear hg
        go_wp2
        go_ret
        exact ⟨by rw [He.out]; rfl, hbW⟩
      · by_cases hzn : z = (syms.length : Int)
        · have hg : Good cs syms.length := ⟨H3.out, by have := H4.out; omega, by have := H4.out; omega⟩
          have Hg := veil hg
          have hne : (z != (syms.length : Int)) = false := by simpa using hzn
          have h256 := hg.le
          clear hg hzn
          go_wp2_with fail
          go_loopg [7, 39] syms.length (fun gk x i wr => ∃ k : Nat, gk = syms.length - k ∧ k ≤ syms.length ∧ i = .int .i64 k ∧ Hid (∀ s ∈ syms.take k, 0 ≤ s ∧ s ≤ 255) ∧ W = wr)
          case atStart => exact ⟨0, rfl, Nat.zero_le _, rfl, veil (by simp), rfl⟩
          case round =>
            obtain ⟨k, rfl, hk2, rfl, HP, rfl⟩ := hrel
            by_cases hlt2 : k < syms.length
            · obtain ⟨g, o, x, rfl, hg, hx, h1⟩ := hsW.int hlt2
              have Hx := veil hx; clear hx
              by_cases hin : 0 ≤ x ∧ x ≤ 255
              · have Ho := veil (outside_no x 0 255 hin W)
                go_wp2_with fail
                refine Ho.out.mono ?_
                rintro e w3 ⟨rfl, rfl⟩
                go_wp2
                go_roundg (syms.length - (k + 1))
                case rel => exact ⟨k + 1, rfl, by omega, by go_num, veil (mem_snoc Hx.out HP.out hin), rfl⟩
                case measure => omega
              · have Ho := veil (outside_yes x 0 255 (by omega) W)
                have He := veil (checkErr_arg Hg.out (notSym Hx.out (by omega)))
                go_wp2_with fail
                refine Ho.out.mono ?_
                rintro e w3 ⟨rfl, rfl⟩
                go_wp2
                go_ret
                exact ⟨by rw [He.out]; rfl, hbW⟩
            · obtain rfl : k = syms.length := by omega
              have hsok : SymOk syms := by have := HP.out; rw [List.take_length] at this; exact this
              have Hs := veil hsok; clear hsok
              go_wp2_with fail
              go_loopg [8, 9, 49] syms.length (fun gk i0 x i wr => ∃ k : Nat, gk = syms.length - k ∧ k ≤ syms.length ∧ i = .int .i64 k ∧ Hid ((syms.take k).Nodup) ∧ W = wr)
              case atStart => exact ⟨0, rfl, Nat.zero_le _, rfl, veil (by simp), rfl⟩
              case round =>
                obtain ⟨j, rfl, hj2, rfl, HD, rfl⟩ := hrel
                by_cases hjt : j < syms.length
                · obtain ⟨g, o, x, rfl, hg, hx, h1⟩ := hsW.int hjt
                  have hcut := run_take_ints (some ⟨g, o, none⟩) syms.length c j (by omega) W
                  have htl : (syms.take j).length = j := by simp; omega
                  have hha := hasInt (some ⟨g, o, none⟩) c G (syms.take j) x W (hsW.takeInts j) (by rw [htl]; unfold maxLen; omega)
                  rw [htl] at hha
                  have Hx := veil hx; clear hx htl
                  by_cases hin : x ∈ syms.take j
                  · rw [decide_eq_true hin] at hha
                    have Hha := veil hha
                    have He := veil (checkErr_bad Hg.out Hs.out fun h => dup_stop Hx.out hin h.2)
                    clear hha hin
                    go_wp2_with fail
                    refine Hha.out.mono ?_
                    rintro e w3 ⟨rfl, rfl⟩
                    go_wp2
                    go_ret
                    exact ⟨by rw [He.out]; rfl, hbW⟩
                  · rw [decide_eq_false hin] at hha
                    have Hha := veil hha; have Hin := veil hin
                    clear hha hin
                    go_wp2_with fail
                    refine Hha.out.mono ?_
                    rintro e w3 ⟨rfl, rfl⟩
                    go_wp2
                    go_roundg (syms.length - (j + 1))
                    case rel => exact ⟨j + 1, rfl, by omega, by go_num, veil (dup_snoc Hx.out HD.out Hin.out), rfl⟩
                    case measure => omega
                · obtain rfl : j = syms.length := by omega
                  have hnd : syms.Nodup := by have := HD.out; rw [List.take_length] at this; exact this
                  have Hnd := veil hnd; clear hnd
                  have Hwo := veil (hwo.out Hg.out W)
                  go_wp2_with (first
                    | (refine wpList_load_mid rfl 34 (.tmp 1) rfl w.heap.size 0 rfl xs _ Hrw.out Try.underlying34 rfl (by rw [H17.out]; exact info_tab) ?_)
                    | fail)
                  refine Hwo.out.mono ?_
                  rintro e w2 ⟨v, rfl, HO, hb2⟩
                  have hbel2 := hbW.trans (hb2.mono (Nat.le_of_lt hzW))
                  cases hco : codes (nats cs) with
                  | none =>
                    have He := veil (checkErr_bad Hg.out Hs.out (fun h => by rw [hco] at h; cases h.1))
                    simp only [Option.isSome_none]
                    clear HO Hwo
                    go_wp2
                    go_ret
                    exact ⟨by rw [He.out]; rfl, hbel2⟩
                  | some l =>
                    have He := veil (checkErr_ok Hg.out Hs.out (by rw [hco]; rfl) Hnd.out)
                    simp only [Option.isSome_some]
                    clear HO Hwo
                    go_wp2
                    go_ret
                    exact ⟨by rw [He.out]; rfl, hbel2⟩
        · have hg : ¬ Good cs syms.length := fun h => hzn (by have := h.2.2; have := H4.out; omega)
          have He := veil (checkErr_form hg)
          have hne : (z != (syms.length : Int)) = true := by simpa using hzn
          clear hg hzn
          go_wp2
          go_ret
          exact ⟨by rw [He.out]; rfl, hbW⟩
end Go.Proofs.Ytbboakdfnjjddaa

/- A symbol that has a word: where it stands. -/
namespace Go.Proofs.Ytbboakdfnjjddaa
open Go.RowKit
set_option linter.unusedVariables false
set_option linter.unusedSimpArgs false
set_option maxRecDepth 100000

theorem symF_mem {ws : List (Int × Nat × Nat)} {x : Int} {p : Int × Int} (h : symF ws x = some p) : ∃ t ∈ ws, t.1 = x ∧ fi t = p := by
  induction ws using snoc_ind with
  | h0 => simp [symF, symGo] at h
  | h1 ws t ih =>
    rw [symF_snoc] at h
    unfold upd at h
    by_cases e : x = t.1
    · rw [if_pos e] at h; injection h with h; exact ⟨t, by simp, e.symm, h⟩
    · rw [if_neg e] at h
      obtain ⟨u, hu, h2⟩ := ih h
      exact ⟨u, by simp [hu], h2⟩
theorem mem_mkWords {syms : List Int} {l : List (Nat × Nat)} {t : Int × Nat × Nat} (h : t ∈ mkWords syms l) : ∃ i : Nat, syms[i]? = some t.1 ∧ l[i]? = some t.2 := by
  obtain ⟨i, hi⟩ := List.getElem?_of_mem h
  refine ⟨i, ?_⟩
  unfold mkWords at hi
  rw [List.getElem?_zipWith] at hi
  cases h1 : syms[i]? with
  | none => simp [h1] at hi
  | some s =>
    cases h2 : l[i]? with
    | none => simp [h1, h2] at hi
    | some p => simp [h1, h2] at hi; subst hi; exact ⟨rfl, rfl⟩
end Go.Proofs.Ytbboakdfnjjddaa

/- What a written list of fields is, in numbers; the fields' element. -/
namespace Go.Proofs.Ytbboakdfnjjddaa
open Go.RowKit
set_option linter.unusedVariables false
set_option linter.unusedSimpArgs false
set_option maxRecDepth 100000

theorem okF_nat (X Y : Nat) : okF ((X : Int), (Y : Int)) ↔ X ≤ 24 ∧ Y < 2 ^ X := by
  unfold okF
  simp only [Int.toNat_natCast]
  constructor
  · rintro ⟨⟨_, h1⟩, _, h2⟩
    refine ⟨by omega, ?_⟩
    have : (Y : Int) < ((2 ^ X : Nat) : Int) := by simpa using h2
    omega
  · rintro ⟨h1, h2⟩
    refine ⟨⟨by omega, by omega⟩, by omega, ?_⟩
    have : (Y : Int) < ((2 ^ X : Nat) : Int) := by omega
    simpa using this
theorem elem_field : ElemOf Try.prog 65 69 2 16 :=
  .mk' (z := .agg #[.int .i64 0, .int .i64 0]) Try.underlying65 (by kernel_rfl) rfl (by omega)
end Go.Proofs.Ytbboakdfnjjddaa

/- table.Encode: its contract. -/
namespace Go.Proofs.Ytbboakdfnjjddaa
open Go.RowKit
set_option linter.unusedVariables false
set_option linter.unusedSimpArgs false
set_option maxRecDepth 100000

/-- The fields of symbols. -/
def fieldsOf (ws : List (Int × Nat × Nat)) (xs : List Int) : List (Int × Int) := xs.map fun x => (symF ws x).getD (0, 0)
def AllIn (ws : List (Int × Nat × Nat)) (xs : List Int) : Prop := ∀ x ∈ xs, (symF ws x).isSome = true
instance (ws : List (Int × Nat × Nat)) (xs : List Int) : Decidable (AllIn ws xs) := by unfold AllIn; infer_instance
/-- Each word that a symbol has is one of the words. -/
theorem Fine.kr {cs syms : List Int} {l : List (Nat × Nat)} (h : Fine cs syms l) (hcs : cs.length = 16) : Kr 0 l := codes_kr (by rw [nats_length]; exact hcs) h.code
theorem Fine.word {cs syms : List Int} {l : List (Nat × Nat)} (h : Fine cs syms l) (hcs : cs.length = 16) {t : Int × Nat × Nat} (ht : t ∈ mkWords syms l) : (0 ≤ t.1 ∧ t.1 ≤ 255) ∧ (1 ≤ t.2.1 ∧ t.2.1 ≤ 16) ∧ t.2.2 + 1 < 2 ^ t.2.1 := by
  obtain ⟨i, h1, h2⟩ := mem_mkWords ht
  have hm := List.mem_of_getElem? h2
  have := (h.kr hcs).ge _ hm
  exact ⟨h.ok _ (List.mem_of_getElem? h1), ⟨this.1, this.2.1⟩, (h.kr hcs).small hm⟩
theorem fi_small {cs syms : List Int} {l : List (Nat × Nat)} (h : Fine cs syms l) (hcs : cs.length = 16) {t : Int × Nat × Nat} (ht : t ∈ mkWords syms l) : WF t.1 ∧ WF (t.2.1 : Int) ∧ WF (t.2.2 : Int) := by
  obtain ⟨h1, h2, h3⟩ := h.word hcs ht
  have : 2 ^ t.2.1 ≤ 2 ^ 16 := Nat.pow_le_pow_right (by omega) h2.2
  exact ⟨wf_of (by omega), wf_of (by omega), wf_of (by omega)⟩

end Go.Proofs.Ytbboakdfnjjddaa

/- bits.number: so many bits from a place on. -/
namespace Go.Proofs.Ytbboakdfnjjddaa
open Go.RowKit
set_option linter.unusedVariables false
set_option linter.unusedSimpArgs false
set_option maxRecDepth 100000

theorem bitsN_at (w v i : Nat) (h : i < w) : (bitsN w v)[i]? = some (decide (v / 2 ^ (w - 1 - i) % 2 = 1)) := by
  induction w generalizing v with
  | zero => omega
  | succ w ih =>
    rw [bitsN]
    by_cases hi : i < w
    · rw [List.getElem?_append_left (by rw [bitsN_length]; exact hi), ih _ hi, Nat.div_div_eq_div_mul, ← Nat.pow_succ', show w + 1 - 1 - i = w - 1 - i + 1 by omega]
    · have : i = w := by omega
      subst this
      rw [List.getElem?_append_right (by rw [bitsN_length]; omega)]
      simp [bitsN_length]
theorem unpack_at : ∀ (bs : List Int) (j : Nat) (x : Int), bs[j / 8]? = some x → (unpack bs)[j]? = some (decide (x.toNat / 2 ^ (7 - j % 8) % 2 = 1))
  | [], j, x, h => by simp at h
  | y :: bs, j, x, h => by
    rw [unpack_cons]
    by_cases hj : j < 8
    · have e : j / 8 = 0 := by omega
      rw [e] at h
      simp at h
      subst h
      rw [List.getElem?_append_left (by rw [bitsN_length]; exact hj), bitsN_at 8 _ _ hj, show 8 - 1 - j = 7 - j % 8 by omega]
    · rw [List.getElem?_append_right (by rw [bitsN_length]; omega), bitsN_length]
      have e : j / 8 = (j - 8) / 8 + 1 := by omega
      rw [e, List.getElem?_cons_succ] at h
      rw [unpack_at bs (j - 8) x h, show (j - 8) % 8 = j % 8 by omega]
/-- The bits from 'at' on, so many. -/
def cutB (bs : List Int) (at_ n : Nat) : List Bool := ((unpack bs).drop at_).take n
theorem cutB_length (bs : List Int) (at_ n : Nat) (h : at_ + n ≤ 8 * bs.length) : (cutB bs at_ n).length = n := by
  simp [cutB, unpack_length]; omega
theorem cutB_snoc (bs : List Int) (at_ n : Nat) (x : Int) (h : bs[(at_ + n) / 8]? = some x) : cutB bs at_ (n + 1) = cutB bs at_ n ++ [decide (x.toNat / 2 ^ (7 - (at_ + n) % 8) % 2 = 1)] := by
  unfold cutB
  apply take_snoc
  rw [List.getElem?_drop]
  exact unpack_at bs _ x h

theorem bit_step (bs : List Int) (at_ n J : Nat) (x : Int) (hJ : at_ + n = J) (h : bs[J / 8]? = some x) (hx : 0 ≤ x ∧ x ≤ 255) (hn : n < 24) (hin : at_ + n ≤ 8 * bs.length) :
    bits BinOp.or IntKind.i64 (wrap64 ((valB (cutB bs at_ n) : Int) * 2)) (bits BinOp.and IntKind.i64 (wrap64 (x / 2 ^ (7 - J % 8))) 1) = (valB (cutB bs at_ (n + 1)) : Int) := by
  subst hJ
  rw [cutB_snoc bs at_ n x h, valB_snoc]
  have h1 := valB_lt (cutB bs at_ n)
  rw [cutB_length _ _ _ hin] at h1
  have h2 : 2 ^ n ≤ 2 ^ 24 := two_pow_lt _ _ (by omega)
  generalize valB (cutB bs at_ n) = V at *
  obtain ⟨X, rfl⟩ := Int.eq_ofNat_of_zero_le hx.1
  have e1 : (X : Int) / 2 ^ (7 - (at_ + n) % 8) = ((X / 2 ^ (7 - (at_ + n) % 8) : Nat) : Int) := by simp
  have h3 : X / 2 ^ (7 - (at_ + n) % 8) ≤ X := Nat.div_le_self _ _
  rw [e1, Int.toNat_natCast]
  generalize X / 2 ^ (7 - (at_ + n) % 8) = q at *
  rw [wrap64_nat q (by omega), show (1 : Int) = ((1 : Nat) : Int) from rfl, i64_and _ _ (by omega) (by omega), Nat.and_one_is_mod]
  have e2 : wrap64 ((V : Int) * 2) = ((V * 2 ^ 1 : Nat) : Int) := by
    rw [show (V : Int) * 2 = ((V * 2 : Nat) : Int) by simp]; exact wrap64_nat _ (by omega)
  rw [e2, i64_or _ _ (by omega) (by omega), nat_or_low _ 1 _ (by omega)]
  rcases Nat.mod_two_eq_zero_or_one q with hq | hq <;> simp [hq] <;> omega
set_option maxHeartbeats 1000000 in
theorem number_any (A : Option Addr) (c G : Nat) (bs : List Int) (at_ wd : Nat) (w : World) (hb : Seen w G A (ints .u8 bs)) (hby : Bytes bs) (h : at_ + wd ≤ 8 * bs.length) (hwd : wd ≤ 24) (hl : bs.length ≤ 1152921504606846975) :
    Calls Try.prog 104 #[.slice A bs.length c, .int .i64 at_, .int .i64 wd] w fun e w' => e = .returned (.int .i64 (valB (cutB bs at_ wd))) ∧ w = w' := by
  go_enter Try.func104, Try.ntmps104
  go_wp2_with fail
  go_loopg [7, 8, 9] wd (fun gk n i b wr => ∃ k : Nat, gk = wd - k ∧ k ≤ wd ∧ i = .int .i64 (at_ + k : Nat) ∧ n = .int .i64 (valB (cutB bs at_ k)) ∧ w = wr)
  case atStart => exact ⟨0, rfl, Nat.zero_le _, rfl, rfl, rfl⟩
  case round =>
    obtain ⟨k, rfl, hk, rfl, rfl, rfl⟩ := hrel
    by_cases hlt : k < wd
    · obtain ⟨g, o, x, rfl, _, hx, h1⟩ := hb.int (k := (at_ + k) / 8) (by omega)
      have hxb := hby x (List.mem_of_getElem? hx)
      have Hx := veil hx
      clear hx
      generalize HJ : at_ + k = J at *
      have HJ := veil HJ
      go_wp2_with fail
      go_roundg (wd - (k + 1))
      case rel => exact ⟨k + 1, rfl, by omega, by rw [← HJ.out]; go_num, congrArg (Value.int .i64) (bit_step _ _ _ _ _ HJ.out Hx.out hxb (by omega) (by omega)), rfl⟩
      case measure => omega
    · obtain rfl : k = wd := by omega
      go_wp2
      go_ret
      exact ⟨rfl, rfl⟩
end Go.Proofs.Ytbboakdfnjjddaa

/- Words of which none begins another one: which of them begins a row of bits. -/
namespace Go.Proofs.Ytbboakdfnjjddaa
open Go.RowKit
set_option linter.unusedVariables false
set_option linter.unusedSimpArgs false
set_option maxRecDepth 100000

structure PF (ws : List (Int × Nat × Nat)) : Prop where
  small : ∀ t ∈ ws, (1 ≤ t.2.1 ∧ t.2.1 ≤ 16) ∧ t.2.2 < 2 ^ t.2.1
  uniq : ∀ t ∈ ws, ∀ u ∈ ws, ∀ b, bitsN t.2.1 t.2.2 <+: b → bitsN u.2.1 u.2.2 <+: b → t = u
theorem Fine.pf {cs syms : List Int} {l : List (Nat × Nat)} (h : Fine cs syms l) (hcs : cs.length = 16) : PF (mkWords syms l) where
  small t ht := by have := h.word hcs ht; exact ⟨this.2.1, by omega⟩
  uniq t ht u hu b h1 h2 := by
    obtain ⟨i, hi1, hi2⟩ := mem_mkWords ht
    obtain ⟨k, hk1, hk2⟩ := mem_mkWords hu
    obtain rfl := (h.kr hcs).bits hi2 hk2 h1 h2
    rw [hi1] at hk1
    rw [hi2] at hk2
    injection hk1 with e1
    injection hk2 with e2
    exact Prod.ext e1 e2
def begins (t : Int × Nat × Nat) (b : List Bool) : Bool := (bitsN t.2.1 t.2.2).isPrefixOf b
theorem begins_iff (t : Int × Nat × Nat) (b : List Bool) : begins t b = true ↔ bitsN t.2.1 t.2.2 <+: b := List.isPrefixOf_iff_prefix
/-- The word at the front of a row of bits: its symbol and its length. -/
def find1 (ws : List (Int × Nat × Nat)) (b : List Bool) : Option (Int × Nat) := (ws.find? (begins · b)).map fun t => (t.1, t.2.1)
theorem PF.find {ws : List (Int × Nat × Nat)} (h : PF ws) {t : Int × Nat × Nat} (ht : t ∈ ws) {b : List Bool} (hb : bitsN t.2.1 t.2.2 <+: b) : find1 ws b = some (t.1, t.2.1) := by
  unfold find1
  cases hq : ws.find? (begins · b) with
  | none => exact absurd ((begins_iff t b).2 hb) (by simpa using List.find?_eq_none.1 hq t ht)
  | some u =>
    have h1 := List.find?_some hq
    have h2 := List.mem_of_find?_eq_some hq
    rw [h.uniq u h2 t ht b ((begins_iff u b).1 h1) hb]
    rfl
theorem find1_mem {ws : List (Int × Nat × Nat)} {b : List Bool} {s : Int} {n : Nat} (h : find1 ws b = some (s, n)) : ∃ t ∈ ws, t.1 = s ∧ t.2.1 = n ∧ bitsN t.2.1 t.2.2 <+: b := by
  unfold find1 at h
  cases hq : ws.find? (begins · b) with
  | none => simp [hq] at h
  | some u =>
    simp [hq] at h
    have h1 := List.find?_some hq
    exact ⟨u, List.mem_of_find?_eq_some hq, h.1, h.2, (begins_iff u b).1 h1⟩
theorem codeF_mem {ws : List (Int × Nat × Nat)} {x : Int} {p : Int × Int} (h : codeF ws p = some x) : ∃ t ∈ ws, fi t = p ∧ t.1 = x := by
  induction ws using snoc_ind with
  | h0 => simp [codeF] at h
  | h1 ws t ih =>
    rw [codeF_snoc] at h
    unfold upd at h
    by_cases e : p = fi t
    · rw [if_pos e] at h; injection h with h; exact ⟨t, by simp, e.symm, h⟩
    · rw [if_neg e] at h
      obtain ⟨u, hu, h2⟩ := ih h
      exact ⟨u, by simp [hu], h2⟩
theorem codeF_some {ws : List (Int × Nat × Nat)} {t : Int × Nat × Nat} (h : t ∈ ws) : (codeF ws (fi t)).isSome = true := by
  induction ws using snoc_ind with
  | h0 => simp at h
  | h1 ws u ih =>
    rw [codeF_snoc]
    unfold upd
    by_cases e : fi t = fi u
    · rw [if_pos e]; rfl
    · rw [if_neg e]
      rcases List.mem_append.1 h with h | h
      · exact ih h
      · simp at h; subst h; exact absurd rfl e
/-- A hit. -/
theorem PF.hit {ws : List (Int × Nat × Nat)} (h : PF ws) {b : List Bool} {k : Nat} (hk : k ≤ b.length) {s : Int} (hc : codeF ws ((k : Int), (valB (b.take k) : Int)) = some s) : find1 ws b = some (s, k) := by
  obtain ⟨t, ht, e1, e2⟩ := codeF_mem hc
  simp only [fi, Prod.mk.injEq] at e1
  have h1 : t.2.1 = k := by omega
  have h2 : t.2.2 = valB (b.take k) := by omega
  have h3 : bitsN t.2.1 t.2.2 <+: b := by
    rw [h1, h2]
    have := bitsN_valB (b.take k)
    rw [List.length_take, Nat.min_eq_left hk] at this
    rw [this]
    exact List.take_prefix _ _
  rw [h.find ht h3, e2, h1]
/-- No hit at all. -/
theorem PF.miss {ws : List (Int × Nat × Nat)} (h : PF ws) {b : List Bool} {k : Nat} (hk : k = 16 ∨ b.length ≤ k) (hc : ∀ j : Nat, 1 ≤ j → j ≤ k → codeF ws ((j : Int), (valB (b.take j) : Int)) = none) : find1 ws b = none := by
  cases hq : find1 ws b with
  | none => rfl
  | some p =>
    obtain ⟨s, n⟩ := p
    obtain ⟨t, ht, e1, e2, h1⟩ := find1_mem hq
    obtain ⟨h2, h3⟩ := h.small t ht
    have h4 := h1.length_le
    rw [bitsN_length] at h4
    have h5 := List.prefix_iff_eq_take.1 h1
    rw [bitsN_length] at h5
    have h6 : valB (b.take t.2.1) = t.2.2 := by rw [← h5]; exact valB_bitsN _ _ h3
    have h7 := hc t.2.1 h2.1 (by omega)
    rw [h6] at h7
    have h8 := codeF_some ht
    rw [show fi t = ((t.2.1 : Int), (t.2.2 : Int)) from rfl, h7] at h8
    cases h8
/-- What next answers. -/
def nextS (ws : List (Int × Nat × Nat)) (b : List Bool) : Int := ((find1 ws b).map (·.1)).getD 0
def nextL (ws : List (Int × Nat × Nat)) (b : List Bool) : Nat := ((find1 ws b).map (·.2)).getD 0
def nextE (ws : List (Int × Nat × Nat)) (b : List Bool) : Int := if (find1 ws b).isSome = true then 0 else if b.length < 16 then 3 else 4
end Go.Proofs.Ytbboakdfnjjddaa

/- table.next: its contract. -/
namespace Go.Proofs.Ytbboakdfnjjddaa
open Go.RowKit
set_option linter.unusedVariables false
set_option linter.unusedSimpArgs false
set_option maxRecDepth 100000

end Go.Proofs.Ytbboakdfnjjddaa

/- Rows of numbers. -/
namespace Go.Proofs.Ytbboakdfnjjddaa
open Go.RowKit

end Go.Proofs.Ytbboakdfnjjddaa

/- bits.Read: its contract. -/
namespace Go.Proofs.Ytbboakdfnjjddaa
open Go.RowKit
set_option linter.unusedVariables false
set_option linter.unusedSimpArgs false
set_option maxRecDepth 100000

theorem info_int : (Try.prog.info? 3).map (fun i => (i.zero, i.size, i.bytes)) = some (some (.int .i64 0), 1, 8) := by kernel_rfl
theorem run_make_ints (n : Nat) (h : n ≤ 1099511627776) (u : World) : (Instr.makeSlice 23 (.int .i64 0) (.int .i64 (n : Int))).run Try.prog u =
    .ok (.slice (some ⟨u.heap.size, 0, none⟩) 0 n) (u.alloc (.cells (madeCells #[.int .i64 0] n) 3)) := by
  obtain ⟨i0, hi, hz0, hz1, hz2⟩ := info_parts info_int
  have h := run_make (P := Try.prog) u 23 3 i0 (.int .i64 0) Try.underlying23 hi hz0 .i64 .i64 0 n (by omega) (by omega) (by rw [hz2]; omega) (by omega)
  simpa [hz1, Value.cells] using h

/-- What Read answers of widths, so many bits left. -/
def readE (n : Int) : Int → List Int → Int
  | _, [] => 0
  | at_, x :: ws => if okW x = true then (if n - at_ < x then 3 else readE n (at_ + x) ws) else 1
def readErr (bs ws : List Int) : Int := if 20000 < ws.length then 2 else readE (8 * bs.length) 0 ws
def readOut (bs ws : List Int) : List Int := if readErr bs ws = 0 then readB (unpack bs) ws else []
def readSum (bs ws : List Int) : Int := if readErr bs ws = 0 then sumW ws else 0

theorem sumW_snoc (ws : List Int) (x : Int) : sumW (ws ++ [x]) = sumW ws + x := by
  induction ws with
  | nil => simp [sumW]
  | cons y ws ih => simp only [sumW, List.cons_append, List.foldr_cons] at ih ⊢; omega
theorem sumW_nonneg (ws : List Int) (h : ∀ x ∈ ws, 0 ≤ x) : 0 ≤ sumW ws := by
  induction ws with
  | nil => simp [sumW]
  | cons y ws ih =>
    have h1 := h y (by simp)
    have h2 := ih fun x hx => h x (by simp [hx])
    simp only [sumW, List.foldr_cons] at h2 ⊢; omega
theorem readB_snoc (bits : List Bool) (ws : List Int) (x : Int) (h : ∀ y ∈ ws, 0 ≤ y) : readB bits (ws ++ [x]) = readB bits ws ++ [(valB ((bits.drop (sumW ws).toNat).take x.toNat) : Int)] := by
  induction ws generalizing bits with
  | nil => simp [readB, sumW]
  | cons y ws ih =>
    have h1 := h y (by simp)
    have h2 := sumW_nonneg ws fun z hz => h z (by simp [hz])
    rw [List.cons_append, readB, ih _ (fun z hz => h z (by simp [hz])), readB, List.cons_append]
    have e : (sumW (y :: ws)).toNat = y.toNat + (sumW ws).toNat := by
      simp only [sumW, List.foldr_cons] at h2 ⊢; omega
    rw [List.drop_drop, e]

structure RInv (w : World) (bs ws : List Int) (k : Nat) (v : Value) (at_ : Nat) (wr : World) : Prop where
  sum : sumW (ws.take k) = at_
  at_le : at_ ≤ 8 * bs.length
  pos : ∀ x ∈ ws.take k, 0 ≤ x
  err : readE (8 * bs.length) 0 ws = readE (8 * bs.length) at_ (ws.drop k)
  own : wr.ownsRow w.heap.size 3 1 v (readB (unpack bs) (ws.take k)).length (ints .i64 (readB (unpack bs) (ws.take k)))
  bel : Below w.heap.size w wr

theorem readB_length (b : List Bool) (ws : List Int) : (readB b ws).length = ws.length := by
  induction ws generalizing b with
  | nil => rfl
  | cons y ws ih => simp [readB, ih]

theorem readOut_err {bs ws : List Int} (h : readErr bs ws ≠ 0) : readOut bs ws = [] := by unfold readOut; rw [if_neg h]
theorem readSum_err {bs ws : List Int} (h : readErr bs ws ≠ 0) : readSum bs ws = 0 := by unfold readSum; rw [if_neg h]
theorem readOut_ok {bs ws : List Int} (h : readErr bs ws = 0) : readOut bs ws = readB (unpack bs) ws := by unfold readOut; rw [if_pos h]
theorem readSum_ok {bs ws : List Int} (h : readErr bs ws = 0) : readSum bs ws = sumW ws := by unfold readSum; rw [if_pos h]
theorem drop_at {ws : List Int} {k : Nat} {x : Int} (h : ws[k]? = some x) : ws.drop k = x :: ws.drop (k + 1) := by
  obtain ⟨hk, rfl⟩ := List.getElem?_eq_some_iff.1 h
  exact List.drop_eq_getElem_cons hk
section
variable {w wr : World} {bs ws : List Int} {k at_ : Nat} {v : Value}
theorem RInv.stop_arg (h : RInv w bs ws k v at_ wr) {x : Int} (hx : ws[k]? = some x) (hok : okW x = false) (hbig : ¬ 20000 < ws.length) : readErr bs ws = 1 := by
  unfold readErr; rw [if_neg hbig, h.err, drop_at hx, readE, if_neg (by rw [hok]; decide)]
theorem RInv.stop_short (h : RInv w bs ws k v at_ wr) {x : Int} (hx : ws[k]? = some x) (hok : okW x = true) (hs : 8 * (bs.length : Int) - at_ < x) (hbig : ¬ 20000 < ws.length) : readErr bs ws = 3 := by
  unfold readErr; rw [if_neg hbig, h.err, drop_at hx, readE, if_pos hok, if_pos hs]
theorem RInv.done (h : RInv w bs ws ws.length v at_ wr) (hbig : ¬ 20000 < ws.length) : readErr bs ws = 0 := by
  unfold readErr; rw [if_neg hbig, h.err, List.drop_length]; rfl
theorem RInv.step (h : RInv w bs ws k v at_ wr) {X : Nat} (hx : ws[k]? = some (X : Int)) (hok : okW (X : Int) = true) (hs : ¬ 8 * (bs.length : Int) - at_ < X) {v' : Value} {w' : World}
    (hown : w'.ownsRow w.heap.size 3 1 v' (readB (unpack bs) (ws.take k) ++ [(valB (cutB bs at_ X) : Int)]).length (ints .i64 (readB (unpack bs) (ws.take k) ++ [(valB (cutB bs at_ X) : Int)]))) (hb : Below w.heap.size wr w') :
    RInv w bs ws (k + 1) v' (at_ + X) w' := by
  have ht := take_snoc hx
  refine ⟨?_, by omega, ?_, ?_, ?_, h.bel.trans hb⟩
  · rw [ht, sumW_snoc, h.sum]; simp
  · intro y hy
    rw [ht] at hy
    rcases List.mem_append.1 hy with hy | hy
    · exact h.pos y hy
    · simp at hy; omega
  · rw [h.err, drop_at hx, readE, if_pos hok, if_neg hs]; simp
  · rw [ht, readB_snoc _ _ _ h.pos, h.sum, Int.toNat_natCast, Int.toNat_natCast]
    exact hown
end

set_option maxHeartbeats 1000000 in
theorem read_any (A A2 : Option Addr) (c c2 G : Nat) (bs ws : List Int) (w : World) (hb : Seen w G A (ints .u8 bs)) (hby : Bytes bs) (hws : Seen w G A2 (ints .i64 ws)) (hG : G ≤ w.heap.size) (hl : bs.length ≤ 1152921504606846975) (hlw : ws.length ≤ maxLen) (hw64 : ∀ x ∈ ws, -9223372036854775808 ≤ x ∧ x ≤ 9223372036854775807) :
    Calls Try.prog 89 #[.slice A bs.length c, .slice A2 ws.length c2] w fun e w' => ∃ v, e = .returned (.tuple #[v, .int .i64 (readSum bs ws), .int .i64 (readErr bs ws)]) ∧ w'.ownsRow w.heap.size 3 1 v (readOut bs ws).length (ints .i64 (readOut bs ws)) ∧ Below w.heap.size w w' := by
  unfold maxLen at hlw
  by_cases hbig : 20000 < ws.length
  · have hbig' : (20000 : Int) < (ws.length : Int) := by omega
    have He : Hid (readErr bs ws = 2) := by show readErr bs ws = 2; unfold readErr; rw [if_pos hbig]
    have Ho : Hid (readOut bs ws = []) := by show readOut bs ws = []; unfold readOut; rw [He.out]; rfl
    have Hs : Hid (readSum bs ws = 0) := by show readSum bs ws = 0; unfold readSum; rw [He.out]; rfl
    go_enter Try.func89, Try.ntmps89
    go_wp2
    go_ret3
    exact ⟨_, ret_three rfl (by rw [Hs.out]; rfl) (by rw [He.out]; rfl), by rw [Ho.out]; exact World.ownsRow_nil _ _ _ _, Below.refl _ _⟩
  · have hbig' : ¬ (20000 : Int) < (ws.length : Int) := by omega
    have hmk := run_make_ints ws.length (by omega)
    go_enter Try.func89, Try.ntmps89
    go_wp2_with fail
    clear hmk
    go_loopg [7, 8, 10, 19] ws.length (fun gk v av x i wr => ∃ (k at_ : Nat), gk = ws.length - k ∧ k ≤ ws.length ∧ i = .int .i64 k ∧ av = .int .i64 at_ ∧ RInv w bs ws k v at_ wr)
    case atStart =>
      refine ⟨0, 0, rfl, Nat.zero_le _, rfl, rfl, rfl, by omega, by simp, rfl, ?_, below1 _ _⟩
      exact World.ownsRow_made _ _ _ (Nat.le_refl _) (by unfold maxLen; omega) (by rw [size_madeCells, Nat.mul_one])
    case round =>
      obtain ⟨k, at_, rfl, hk, rfl, rfl, hI⟩ := hrel
      have hat := hI.at_le
      by_cases hlt : k < ws.length
      · obtain ⟨g, o, x, rfl, hg, hx, h1⟩ := hws.int hlt
        have hx64 := hw64 x (List.mem_of_getElem? hx)
        have Hx := veil hx; clear hx
        rw [← hI.bel.cell (by simp; omega)] at h1
        by_cases hok : okW x = true
        · by_cases hsh : 8 * (bs.length : Int) - at_ < x
          · have He := hI.stop_short Hx.out hok hsh hbig
            have Ho := readOut_err (by rw [He]; decide)
            have Hs := readSum_err (by rw [He]; decide)
            have He := veil He; have Ho := veil Ho; have Hs := veil Hs
            go_wp2_with (go_at_call 100; refine (isWidth_any _ _).mono ?_; rintro e w1 ⟨rfl, rfl⟩)
            go_ret3
            exact ⟨_, ret_three rfl (by rw [Hs.out]; rfl) (by rw [He.out]; rfl), by rw [Ho.out]; exact World.ownsRow_nil _ _ _ _, hI.bel⟩
          · obtain ⟨X, hX, rfl⟩ : ∃ X : Nat, X ≤ 24 ∧ x = X := by
              simp [okW] at hok
              exact ⟨x.toNat, by omega, by omega⟩
            have hL : (readB (unpack bs) (ws.take k)).length ≤ 20000 := by rw [readB_length]; simp; omega
            have hB := hI.bel.size
            go_wp2_with (first
              | (go_at_call 100; refine (isWidth_any _ _).mono ?_; rintro e w1 ⟨rfl, rfl⟩)
              | (go_at_call 104; refine (number_any A c G bs at_ X _ (hb.below hI.bel (by omega)) hby (by omega) hX hl).mono ?_; rintro e w1 ⟨rfl, rfl⟩)
              | (at_builtin; go_loud (refine wpList_app1 _ rfl (.tmp 33) (.tmp 38) _ rfl w.heap.size 3 .i64 8 Try.underlying23 info_int _ (readB (unpack bs) (ws.take k)) _ rfl hI.own rfl (by omega) (by omega) (by omega) ?_); intro v' w' hown' hbel' hsz'))
            go_roundg (ws.length - (k + 1))
            case rel => exact ⟨k + 1, at_ + X, rfl, by omega, by go_num, by go_num, hI.step Hx.out hok (by omega) hown' hbel'⟩
            case measure => omega
        · have hok' : okW x = false := by simpa using hok
          have He := hI.stop_arg Hx.out hok' hbig
          have Ho := readOut_err (by rw [He]; decide)
          have Hs := readSum_err (by rw [He]; decide)
          have He := veil He; have Ho := veil Ho; have Hs := veil Hs
          clear hok
          go_wp2_with (go_at_call 100; refine (isWidth_any _ _).mono ?_; rintro e w1 ⟨rfl, rfl⟩)
          go_ret3
          exact ⟨_, ret_three rfl (by rw [Hs.out]; rfl) (by rw [He.out]; rfl), by rw [Ho.out]; exact World.ownsRow_nil _ _ _ _, hI.bel⟩
      · obtain rfl : k = ws.length := by omega
        have He := hI.done hbig
        have Ho := readOut_ok He
        have Hs := readSum_ok He
        have hw := hI.sum
        have hown := hI.own
        rw [List.take_length] at hw hown
        rw [← Ho] at hown
        rw [hw] at Hs
        have He := veil He; have Hs := veil Hs; clear Ho hw
        go_wp2
        go_ret3
        exact ⟨_, ret_three rfl (by rw [Hs.out]; rfl) (by rw [He.out]; rfl), hown, hI.bel⟩
end Go.Proofs.Ytbboakdfnjjddaa

/- table.Decode: its contract. -/
namespace Go.Proofs.Ytbboakdfnjjddaa
open Go.RowKit
set_option linter.unusedVariables false
set_option linter.unusedSimpArgs false
set_option maxRecDepth 100000

/-- n symbols off a row of bits: the error, the symbols ahead of it, the bits they take. -/
def dec (ws : List (Int × Nat × Nat)) : Nat → List Bool → Int × List Int × Nat
  | 0, _ => (0, [], 0)
  | n + 1, b => if (find1 ws b).isSome = true then let r := dec ws n (b.drop (nextL ws b)); (r.1, nextS ws b :: r.2.1, nextL ws b + r.2.2) else (nextE ws b, [], 0)
theorem dec_hit {ws : List (Int × Nat × Nat)} {b : List Bool} (h : nextE ws b = 0) (n : Nat) : dec ws (n + 1) b = ((dec ws n (b.drop (nextL ws b))).1, nextS ws b :: (dec ws n (b.drop (nextL ws b))).2.1, nextL ws b + (dec ws n (b.drop (nextL ws b))).2.2) := by
  unfold nextE at h
  split at h
  · rename_i h1
    rw [dec, if_pos h1]
  · split at h <;> cases h
/-- What has been read, and what is to come. -/
def DInv (ws : List (Int × Nat × Nat)) (n : Nat) (b : List Bool) (k at_ : Nat) (acc : List Int) : Prop :=
  (dec ws n b).1 = (dec ws (n - k) (b.drop at_)).1 ∧ (dec ws n b).2.1 = acc ++ (dec ws (n - k) (b.drop at_)).2.1 ∧ (dec ws n b).2.2 = at_ + (dec ws (n - k) (b.drop at_)).2.2
theorem DInv.start (ws : List (Int × Nat × Nat)) (n : Nat) (b : List Bool) : DInv ws n b 0 0 [] := by simp [DInv]
theorem DInv.next {ws : List (Int × Nat × Nat)} {n : Nat} {b : List Bool} {k at_ : Nat} {acc : List Int} (h : DInv ws n b k at_ acc) (hk : k < n) (he : nextE ws (b.drop at_) = 0) :
    DInv ws n b (k + 1) (at_ + nextL ws (b.drop at_)) (acc ++ [nextS ws (b.drop at_)]) := by
  unfold DInv at h ⊢
  rw [show n - k = (n - (k + 1)) + 1 by omega, dec_hit he, List.drop_drop] at h
  refine ⟨h.1, by rw [h.2.1]; simp, by rw [h.2.2]; simp only []; omega⟩
theorem DInv.done {ws : List (Int × Nat × Nat)} {n : Nat} {b : List Bool} {at_ : Nat} {acc : List Int} (h : DInv ws n b n at_ acc) : dec ws n b = (0, acc, at_) := by
  unfold DInv at h
  simp only [Nat.sub_self, dec, List.append_nil, Nat.add_zero] at h
  exact Prod.ext h.1 (Prod.ext h.2.1 h.2.2)
theorem nextL_le {ws : List (Int × Nat × Nat)} {b : List Bool} : nextL ws b ≤ b.length := by
  unfold nextL
  cases h : find1 ws b with
  | none => simp
  | some p =>
    obtain ⟨s, n⟩ := p
    obtain ⟨t, _, _, e, h1⟩ := find1_mem h
    have := h1.length_le
    rw [bitsN_length] at this
    simp; omega
theorem nextS_wf {ws : List (Int × Nat × Nat)} {b : List Bool} (h : ∀ t ∈ ws, 0 ≤ t.1 ∧ t.1 ≤ 255) : 0 ≤ nextS ws b ∧ nextS ws b ≤ 255 := by
  unfold nextS
  cases hq : find1 ws b with
  | none => simp
  | some p =>
    obtain ⟨s, n⟩ := p
    obtain ⟨t, ht, e, _⟩ := find1_mem hq
    have := h t ht
    simp; omega

end Go.Proofs.Ytbboakdfnjjddaa

/- The reference's bytesOf: whole bytes out of binary digits, the rest ones. -/
namespace Go.Proofs.Ytbboakdfnjjddaa
open Go.RowKit
set_option linter.unusedVariables false
set_option linter.unusedSimpArgs false
set_option maxRecDepth 100000

theorem txt_extract (l : List Bool) (a b : Nat) : (txt l).extract a b = txt ((l.drop a).take (b - a)) := by
  apply ByteArray.ext
  simp [txt, dig, ByteArray.data_extract, List.map_take, List.map_drop]
end Go.Proofs.Ytbboakdfnjjddaa
