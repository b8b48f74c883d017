/- The reference's words of a table, as binary digits. -/
import Derived.Test.YtjphfbapekdjmaaTabWords
import Derived.Test.YtjphfbapekdjmaaRefStr
import Derived.Test.YtjphfbapekdjmaaRefPower
namespace Go.Proofs.Ytjphfbapekdjmaa
open Go.RowKit
set_option linter.unusedVariables false
set_option linter.unusedSimpArgs false
set_option maxRecDepth 100000

theorem elem_str : ElemOf Try.prog 76 9 1 16 := .mk' (z := .string .empty) Try.underlying76 (by kernel_rfl) rfl (by omega)
def strs (l : List (Nat × Nat)) : List Value := l.map fun p => .string (txt (bitsN p.1 p.2))
theorem strs_length (l : List (Nat × Nat)) : (strs l).length = l.length := by simp [strs]
theorem strs_at {l : List (Nat × Nat)} {k : Nat} {p : Nat × Nat} (h : l[k]? = some p) : (strs l)[k]? = some (.string (txt (bitsN p.1 p.2))) := by simp [strs, h]
abbrev strRow (v : Value) (l : List (Nat × Nat)) : Row := ⟨9, 1, v, l.length, strs l⟩
theorem strRow_snoc (v : Value) (l : List (Nat × Nat)) (p : Nat × Nat) : (⟨9, 1, v, l.length + [Value.string (txt (bitsN p.1 p.2))].length, strs l ++ [.string (txt (bitsN p.1 p.2))]⟩ : Row) = strRow v (l ++ [p]) := by simp [strRow, strs]

set_option maxRecDepth 100000 in
set_option maxHeartbeats 2000000 in
theorem refWordsOf_any (ns : List Nat) (A : Option Addr) (n c : Nat) (w : World) (hns : ns.length = 16) (hsum : ns.sum ≤ 256) :
    Calls Try.prog 38 #[tabV (natI ns) A n c] w fun e w' => ∃ v, e = .returned (.tuple #[v, .bool (codes ns).isSome]) ∧ Owns w.heap.size [strRow v ((codes ns).getD [])] w' ∧ Below w.heap.size w w' := by
  have hcs : (natI ns).length = 16 := by rw [natI_length]; exact hns
  have hr : Hid (∀ xs, xs = tabCells (natI ns) A n c → (w.alloc (.cells xs.toArray 25)).rangeAt w.heap.size 0 (ints .i64 (natI ns))) := by
    show ∀ xs, _
    intro xs e
    subst e
    exact range_left (range_new w _ _)
  have Hcs := veil hcs; have Hns := veil hns; have Hsum := veil hsum
  clear hcs hns hsum
  obtain ⟨xs, hxs⟩ : ∃ xs, xs = tabCells (natI ns) A n c := ⟨_, rfl⟩
  have Hr := veil (hr.out xs hxs)
  unfold tabV
  rw [← hxs]
  clear hr hxs
  go_enter Try.func38, Try.ntmps38
  go_wp2_with (first
    | (refine wpList_load_mid rfl 22 (.tmp 8) rfl w.heap.size 0 rfl (ints .i64 (natI ns)) _ Hr.out Try.underlying22 rfl (by rw [ints_length, Hcs.out]; exact info_arr) ?_)
    | fail)
  go_loopg [4, 5, 6, 7, 10] 16 (fun gk v cv kv nv i wr => ∃ (k cd : Nat) (acc : List (Nat × Nat)), gk = 16 - k ∧ k ≤ 16 ∧ i = .int .i64 k ∧ cv = .int .i64 cd ∧ Hid (CInv ns k (2 * cd) acc) ∧ Owns w.heap.size [strRow v acc] wr ∧ Below w.heap.size w wr)
  case atStart => exact ⟨0, 0, [], rfl, by omega, rfl, rfl, veil (CInv.start ns), (Owns.nil (by simp)).fresh _ _, below1 _ _⟩
  case round =>
    obtain ⟨k, cd0, acc, rfl, hk, rfl, rfl, HI, HO, hbel⟩ := hrel
    by_cases hlt : k < 16
    · obtain ⟨q, hq⟩ := some_at (xs := ns) (j := k) (by rw [Hns.out]; omega)
      have hcd := HI.out.2.1
      have hp16 : 2 ^ (k + 1) ≤ 2 ^ 16 := Nat.pow_le_pow_right (by omega) (by omega)
      have hacc : acc.length + q ≤ 256 := by
        have h1 := take_sum hq
        have h2 : (ns.take (k + 1)).sum + (ns.drop (k + 1)).sum = ns.sum := by rw [← List.sum_append, List.take_append_drop]
        have := Hsum.out
        have := HI.out.2.2
        omega
      obtain ⟨cd, hcd0⟩ : ∃ cd, cd = 2 * cd0 := ⟨_, rfl⟩
      rw [← hcd0] at HI hcd
      have Hn := veil hq; have Hcd := veil hcd; have Hp16 := veil hp16
      have hcd2 : cd < 65536 := by omega
      have hq2 : q ≤ 256 := by omega
      have hw2 : (cd0 : Int) * 2 = (cd : Int) := by omega
      have Hcd0 := veil hcd0
      clear hq hcd hp16 hcd0
      go_wp2_with (first
        | (refine wpList_index_arr rfl 22 (.tmp 9) (.tmp 10) rfl 16 3 .i64 Try.underlying22 Try.underlying3 info_int1 (ints .i64 (natI ns)) rfl .i64 k rfl (.int .i64 (q : Int)) hlt (ints_at (natI_at Hn.out)) ?_)
        | fail)
      obtain ⟨N, hN⟩ : ∃ N, N = 2 ^ (k + 1) - 1 := ⟨_, rfl⟩
      have hN2 : N < 65536 := by have := Hp16.out; omega
      have HN := veil hN
      have hpw := fun w => power_any (k + 1) w (by omega)
      have hp0 : 0 < 2 ^ (k + 1) := Nat.pow_pos (by omega)
      have hN1 : 2 ^ (k + 1) = N + 1 := by omega
      rw [hN1] at hpw
      clear hN hp0 hN1
      have Hpw := veil hpw; clear hpw
      go_loopg [4, 5, 17] q (fun gk v cv i wr2 => ∃ j : Nat, gk = q - j ∧ j ≤ q ∧ i = .int .i64 j ∧ cv = .int .i64 ((cd + j : Nat) : Int) ∧ Hid (cd + j ≤ N) ∧ Owns w.heap.size [strRow v (acc ++ wordsTo k cd j)] wr2 ∧ Below w.heap.size w wr2)
      case atStart => exact ⟨0, rfl, Nat.zero_le _, rfl, by go_num, veil (by have := Hcd.out; have := HN.out; omega), by simpa [wordsTo] using HO, hbel⟩
      case round =>
        obtain ⟨j, rfl, hj, rfl, rfl, HJ, HO2, hbel2⟩ := hrel
        have hz2 := hbel2.size
        by_cases hjn : j < q
        · have hpw := Hpw.out wr
          rw [show (((k + 1 : Nat)) : Int) = (k : Int) + 1 from rfl, show (((N + 1 : Nat)) : Int) = (N : Int) + 1 from rfl] at hpw
          have Hp := veil hpw; clear hpw
          by_cases hf : N ≤ cd + j
          · have hd := HI.out.fail Hn.out hjn (by rw [← HN.out]; exact hf)
            have Hd := veil hd; clear hd
            have hf' : (N : Int) ≤ (cd : Int) + j := by omega
            go_wp2_with fail
            refine Hp.out.mono ?_
            rintro e w3 ⟨rfl, rfl⟩
            go_wp2
            go_ret2
            exact ⟨_, ret_two rfl (by rw [Hd.out]; rfl), by rw [Hd.out]; exact (Owns.nil hbel2.size).fresh _ _, hbel2⟩
          · have hf' : ¬ (N : Int) ≤ (cd : Int) + j := by omega
            have hbn := binary_any (k + 1) (cd + j) wr (by omega) (by omega)
            rw [show (((k + 1 : Nat)) : Int) = (k : Int) + 1 from rfl, show (((cd + j : Nat)) : Int) = (cd : Int) + j from rfl] at hbn
            have Hbn := veil hbn; clear hbn
            have hlen : (acc ++ wordsTo k cd j).length = acc.length + j := by rw [List.length_append, wordsTo_length]
            have hap : acc ++ wordsTo k cd (j + 1) = (acc ++ wordsTo k cd j) ++ [(k + 1, cd + j)] := by rw [wordsTo_snoc, List.append_assoc]
            have Hlen := veil hlen; have Hap := veil hap
            clear hlen hap
            generalize acc ++ wordsTo k cd j = ws at *
            go_wp2_with fail
            refine Hp.out.mono ?_
            rintro e w3 ⟨rfl, rfl⟩
            go_wp2_with fail
            refine Hbn.out.mono ?_
            rintro e w3 ⟨rfl, rfl⟩
            go_wp2_with (first
              | (at_builtin; go_loud (refine wpList_ownN _ rfl (.tmp 25) (.tmp 30) _ rfl w.heap.size 9 16 elem_str u4 ws.length (strs ws) [] rfl HO2 [.string (txt (bitsN (k + 1) (cd + j)))] rfl (by simp [Value.oneCell']) (by have := Hlen.out; unfold maxLen; simp; omega) (by have := Hlen.out; simp; omega) ?_); intro v1 w1 HO3 hb3 hz3))
            rw [strRow_snoc _ _ (k + 1, cd + j)] at HO3
            go_roundg (q - (j + 1))
            case rel => exact ⟨j + 1, rfl, by omega, by go_num, by go_num, veil (by omega), by rw [Hap.out]; exact HO3, hbel2.trans hb3⟩
            case measure => omega
        · obtain rfl : j = q := by omega
          go_wp2
          go_roundg (16 - (k + 1))
          case rel => exact ⟨k + 1, cd + j, acc ++ wordsTo k cd j, rfl, by omega, by go_num, rfl, veil (HI.out.next Hn.out (by rw [← HN.out]; exact HJ.out)), HO2, hbel2⟩
          case measure => omega
    · obtain rfl : k = 16 := by omega
      have hd : codes ns = some acc := by have h := HI.out; rw [← Hns.out] at h; exact h.done
      have Hd := veil hd; clear hd
      go_wp2
      go_ret2
      exact ⟨_, ret_two rfl (by rw [Hd.out]; rfl), by rw [Hd.out]; exact HO, hbel⟩
end Go.Proofs.Ytjphfbapekdjmaa
