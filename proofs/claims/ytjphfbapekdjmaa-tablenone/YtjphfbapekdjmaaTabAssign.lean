/- table.assign: its contract. -/
import Derived.Test.YtjphfbapekdjmaaTabBase
namespace Go.Proofs.Ytjphfbapekdjmaa
open Go.RowKit
set_option linter.unusedVariables false
set_option linter.unusedSimpArgs false
set_option maxRecDepth 100000

theorem elem_word : ElemOf Try.prog 55 72 3 24 := .mk' (z := .agg #[.int .i64 0, .int .i64 0, .int .i64 0]) Try.underlying55 (by kernel_rfl) rfl (by omega)
theorem info_word : (Try.prog.info? 72).map (fun i => (i.zero, i.size, i.bytes)) = some (some (.agg #[.int .i64 0, .int .i64 0, .int .i64 0]), 3, 24) := by kernel_rfl
theorem run_make_words (n : Nat) (h : n ≤ 1099511627776) (u : World) : ∃ cur, (Instr.makeSlice 55 (.int .i64 0) (.int .i64 (n : Int))).run Try.prog u =
    .ok (.slice (some ⟨u.heap.size, 0, none⟩) 0 n) (u.alloc (.cells cur 72)) ∧ cur.size = n * 3 := by
  obtain ⟨i0, hi, hz0, hz1, hz2⟩ := info_parts info_word
  have h := run_make (P := Try.prog) u 55 72 i0 (.agg #[.int .i64 0, .int .i64 0, .int .i64 0]) Try.underlying55 hi hz0 .i64 .i64 0 n (by omega) (by omega) (by rw [hz2]; omega) (by omega)
  exact ⟨_, h, by simp [madeCells, hz1, Value.cells]⟩
abbrev wordRow (v : Value) (l : List (Int × Nat × Nat)) : Row := ⟨72, 3, v, l.length, tripleCells l⟩
/-- In a walk: append of one word just laid onto the first of the rows. -/
theorem wpList_ownT {ops : Array Oper} {rest : List Oper} {o : Oper} {a : Act} {Q : Exit → Act → World → Prop} (w0 : World) (hgd : Region.wanted o (yielded ops a.tmps) = true) (s x : Operand)
    (ho : o.op = .call { callee := .builtin .append, args := #[s, x], argTypes := #[55, 55] })
    (B : Nat) (v : Value) (l : List (Int × Nat × Nat)) (rs : List Row) (hs : a.eval s = v) (HO : Owns B (wordRow v l :: rs) w0) (f0 f1 f2 : Int) (n c : Nat) (hn : f1 = n) (hc : f2 = c) (hx : a.eval x = .slice (some ⟨w0.heap.size, 0, none⟩) 1 1)
    (h63 : l.length + 1 ≤ 1048576)
    (h : ∀ v' w', Owns B (wordRow v' (l ++ [(f0, n, c)]) :: rs) w' → Below B w0 w' → w0.heap.size < w'.heap.size → wpList Try.prog ops Q rest (a.put o.dst v') w') : wpList Try.prog ops Q (o :: rest) a (w0.alloc (.cells #[.int .i64 f0, .int .i64 f1, .int .i64 f2] 72)) := by
  subst hn hc
  have e : (⟨72, 3, v, l.length + 1, tripleCells l ++ tripleCells [(f0, n, c)]⟩ : Row) = wordRow v (l ++ [(f0, n, c)]) := by simp [wordRow, tripleCells]
  refine wpList_ownV _ hgd s x _ ho B 72 3 24 elem_word v l.length (tripleCells l) rs hs (HO.alloc _) (w0.heap.size + 1) _ 1 1 (tripleCells [(f0, n, c)]) hx (Seen.new w0 (tripleCells [(f0, n, c)]) _ _ (Nat.lt_succ_self _)) (by rw [tripleCells_length]; rfl) tripleCells_one (by unfold maxLen; omega) (by omega) ?_
  intro v' w' h2 h3
  have := h3.size
  refine h v' w' ?_ (((Below.refl _ _).alloc HO.base _).trans h3) (by simp at this; omega)
  have e : (⟨72, 3, v', l.length + 1, tripleCells l ++ tripleCells [(f0, n, c)]⟩ : Row) = wordRow v' (l ++ [(f0, n, c)]) := by simp [wordRow, tripleCells]
  rw [← e]
  exact h2

/-- Words out of symbols and codes. -/
def mkWords (syms : List Int) (l : List (Nat × Nat)) : List (Int × Nat × Nat) := List.zipWith (fun s p => (s, p.1, p.2)) syms l
theorem mkWords_length (syms : List Int) (l : List (Nat × Nat)) (h : l.length ≤ syms.length) : (mkWords syms l).length = l.length := by simp [mkWords]; omega
theorem mkWords_nil (syms : List Int) : mkWords syms [] = [] := by simp [mkWords]
theorem mkWords_snoc {syms : List Int} {l : List (Nat × Nat)} {s : Int} (h : syms[l.length]? = some s) (p : Nat × Nat) : mkWords syms (l ++ [p]) = mkWords syms l ++ [(s, p.1, p.2)] := by
  have hl := (List.getElem?_eq_some_iff.1 h).1
  have e : syms = syms.take l.length ++ s :: syms.drop (l.length + 1) := by
    rw [← List.singleton_append, ← List.append_assoc, ← take_snoc h, List.take_append_drop]
  have h1 : ∀ m : List (Nat × Nat), m.length = l.length → mkWords syms m = mkWords (syms.take l.length) m := by
    intro m hm
    unfold mkWords
    apply List.ext_getElem?
    intro i
    simp only [List.getElem?_zipWith, List.getElem?_take]
    by_cases hi : i < l.length
    · rw [if_pos hi]
    · rw [if_neg hi, List.getElem?_eq_none (by omega : m.length ≤ i)]
      cases syms[i]? <;> rfl
  rw [h1 l rfl]
  conv => lhs; rw [e]
  unfold mkWords
  rw [List.zipWith_append (by simp; omega)]
  simp

/-- The words of a table: none where the lengths may not be. -/
def tabWords (ns : List Nat) (syms : List Int) : List (Int × Nat × Nat) := mkWords syms ((codes ns).getD [])
def natI (ns : List Nat) : List Int := ns.map Int.ofNat
theorem natI_length (ns : List Nat) : (natI ns).length = ns.length := by simp [natI]
theorem natI_at {ns : List Nat} {k n : Nat} (h : ns[k]? = some n) : (natI ns)[k]? = some (n : Int) := by simp [natI, h]
theorem ones_eq (k : Nat) (h : k < 16) : wrap64 (wrap64 (2 ^ (k + 1)) - 1) = ((2 ^ (k + 1) - 1 : Nat) : Int) := by
  have h1 : 2 ^ (k + 1) ≤ 2 ^ 16 := Nat.pow_le_pow_right (by omega) (by omega)
  have h2 : 0 < 2 ^ (k + 1) := Nat.pow_pos (by omega)
  have h3 : ((2 : Int) ^ (k + 1)) = ((2 ^ (k + 1) : Nat) : Int) := by simp
  rw [h3]
  unfold wrap64
  omega

set_option maxHeartbeats 2000000 in
set_option maxRecDepth 100000 in
theorem assign_any (ns : List Nat) (syms : List Int) (A : Option Addr) (c G : Nat) (w : World) (hns : ns.length = 16) (hsum : ns.sum = syms.length) (h256 : syms.length ≤ 256) (hs : Seen w G A (ints .i64 syms)) (hG : G ≤ w.heap.size) :
    Calls Try.prog 26 #[tabV (natI ns) A syms.length c] w fun e w' => ∃ v, e = .returned (.tuple #[v, .bool (codes ns).isSome]) ∧ Owns w.heap.size [wordRow v (tabWords ns syms)] w' ∧ Below w.heap.size w w' := by
  have hcs : (natI ns).length = 16 := by rw [natI_length]; exact hns
  have h16 : (tabCells (natI ns) A syms.length c)[16]? = some (.slice A syms.length c) := tabCells_last hcs
  have hr : Hid (∀ xs, xs = tabCells (natI ns) A syms.length c → (w.alloc (.cells xs.toArray 25)).rangeAt w.heap.size 0 (ints .i64 (natI ns))) := by
    show ∀ xs, _
    intro xs e
    subst e
    exact range_left (range_new w _ _)
  have Hcs := veil hcs; have Hns := veil hns; have Hsum := veil hsum
  clear hcs hns hsum
  obtain ⟨xs, hxs⟩ : ∃ xs, xs = tabCells (natI ns) A syms.length c := ⟨_, rfl⟩
  have Hr := veil (hr.out xs hxs)
  unfold tabV
  rw [← hxs] at h16 ⊢
  clear hr hxs
  obtain ⟨cur, hmk, hcur⟩ := run_make_words syms.length (by omega) (w.alloc (.cells xs.toArray 25))
  have Hcur := veil hcur; clear hcur
  have Hr2 := veil (World.rangeAt_alloc Hr.out (.cells cur 72))
  go_enter Try.func26, Try.ntmps26
  go_wp2_with (first
    | (refine wpList_load_mid rfl 22 (.tmp 14) rfl w.heap.size 0 rfl (ints .i64 (natI ns)) _ Hr2.out Try.underlying22 rfl (by rw [ints_length, Hcs.out]; exact info_arr) ?_)
    | fail)
  go_loopg [4, 5, 6, 7, 8, 9, 16] 16 (fun gk v cv kv nv lv ov i wr => ∃ (k cd : Nat) (acc : List (Nat × Nat)), gk = 16 - k ∧ k ≤ 16 ∧ i = .int .i64 k ∧ cv = .int .i64 cd ∧ Hid (CInv ns k cd acc) ∧ wr.cell? ⟨w.heap.size, 16, none⟩ = some (.slice A syms.length c) ∧
    Owns (w.heap.size + 1) [wordRow v (mkWords syms acc)] wr ∧ Below w.heap.size w wr)
  case atStart =>
    refine ⟨0, 0, [], rfl, by omega, rfl, rfl, veil (CInv.start ns), ?_, ?_, below2 _ _ _⟩
    · rw [World.cell?_alloc_lt _ _ _ (by simp), World.cell?_alloc_at _ _ _ _ rfl]; simpa using h16
    · rw [mkWords_nil]
      have := ((Owns.start (w.alloc (.cells xs.toArray 25))).made 72 3 cur syms.length (by unfold maxLen; omega) Hcur.out)
      simpa [wordRow, tripleCells] using this
  case round =>
    obtain ⟨k, cd, acc, rfl, hk, rfl, rfl, HI, h17, HO, hbel⟩ := hrel
    by_cases hlt : k < 16
    · obtain ⟨n, hn⟩ := some_at (xs := ns) (j := k) (by rw [Hns.out]; omega)
      have hcd := HI.out.2.1
      have hp16 : 2 ^ (k + 1) ≤ 2 ^ 16 := Nat.pow_le_pow_right (by omega) (by omega)
      have hn256 : (ns.take k).sum + n ≤ 256 := by
        have h1 := take_sum hn
        have h2 : (ns.take (k + 1)).sum + (ns.drop (k + 1)).sum = ns.sum := by rw [← List.sum_append, List.take_append_drop]
        have := Hsum.out
        omega
      have hacc : acc.length + n ≤ syms.length := by
        have h1 := take_sum hn
        have h2 : (ns.take (k + 1)).sum + (ns.drop (k + 1)).sum = ns.sum := by rw [← List.sum_append, List.take_append_drop]
        have := Hsum.out
        have := HI.out.2.2
        omega
      have Hn := veil hn; have Hcd := veil hcd; have Hp16 := veil hp16
      have hcd2 : cd < 65536 := by omega
      have hn2 : n ≤ 256 := by omega
      clear hn hcd hp16 hn256
      have hones := ones_eq k hlt
      go_wp2_with (first
        | (refine wpList_index_arr rfl 22 (.tmp 15) (.tmp 16) rfl 16 3 .i64 Try.underlying22 Try.underlying3 info_int1 (ints .i64 (natI ns)) rfl .i64 k rfl (.int .i64 (n : Int)) hlt (ints_at (natI_at Hn.out)) ?_)
        | fail)
      rw [hones]
      clear hones
      obtain ⟨N, hN⟩ : ∃ N, N = 2 ^ (k + 1) - 1 := ⟨_, rfl⟩
      rw [← hN]
      have HN := veil hN
      have hN2 : N < 65536 := by have := Hp16.out; omega
      clear hN
      have hz := hbel.size
      go_loopg [4, 5, 26] n (fun gk v cv i wr2 => ∃ j : Nat, gk = n - j ∧ j ≤ n ∧ i = .int .i64 j ∧ cv = .int .i64 ((cd + j : Nat) : Int) ∧ Hid (cd + j ≤ N) ∧ wr2.cell? ⟨w.heap.size, 16, none⟩ = some (.slice A syms.length c) ∧
        Owns (w.heap.size + 1) [wordRow v (mkWords syms (acc ++ wordsTo k cd j))] wr2 ∧ Below w.heap.size w wr2)
      case atStart => exact ⟨0, rfl, Nat.zero_le _, rfl, rfl, veil (by have := Hcd.out; have := HN.out; omega), h17, by simpa [wordsTo] using HO, hbel⟩
      case round =>
        obtain ⟨j, rfl, hj, rfl, rfl, HJ, h18, HO2, hbel2⟩ := hrel
        have hz2 := hbel2.size
        by_cases hjn : j < n
        · by_cases hf : N ≤ cd + j
          · have hd := HI.out.fail Hn.out hjn (by rw [← HN.out]; exact hf)
            have Hd := veil hd; clear hd
            have hf' : (N : Int) ≤ (cd : Int) + j := by omega
            go_wp2
            go_ret2
            exact ⟨_, ret_two rfl (by rw [Hd.out]; rfl), by unfold tabWords; rw [Hd.out]; simp only [Option.getD_none, mkWords_nil]; exact (Owns.nil hbel2.size).fresh _ _, hbel2⟩
          · have hf' : ¬ (N : Int) ≤ (cd : Int) + j := by omega
            have hlen : (acc ++ wordsTo k cd j).length = acc.length + j := by rw [List.length_append, wordsTo_length]
            obtain ⟨g, o, x, rfl, hg, hx, h1⟩ := hs.int (k := acc.length + j) (by omega)
            have hml : (mkWords syms (acc ++ wordsTo k cd j)).length = acc.length + j := by rw [mkWords_length _ _ (by omega), hlen]
            have hsn := mkWords_snoc (l := acc ++ wordsTo k cd j) (s := x) (by rw [hlen]; exact hx) (k + 1, cd + j)
            rw [List.append_assoc, ← wordsTo_snoc] at hsn
            have Hsn := veil hsn
            rw [← hbel2.cell (by simp; omega)] at h1
            obtain ⟨A4, c4, e4, _, _, _⟩ := HO2.seen (List.mem_cons_self ..)
            simp only [wordRow] at e4
            rw [hml] at e4
            subst e4
            have Hml := veil hml
            clear hsn hlen hx hml
            generalize mkWords syms (acc ++ wordsTo k cd j) = ws at *
            go_wp2_with (first
              | (at_builtin; go_loud (refine wpList_ownT _ rfl (.tmp 31) (.tmp 41) rfl (w.heap.size + 1) (.slice A4 (acc.length + j) c4) ws [] rfl HO2 x _ _ (k + 1) (cd + j) (by omega) (by omega) rfl (by have := Hml.out; omega) ?_); intro v1 w1 HO3 hb3 hz3))
            have h18' := h18
            rw [← hb3.cell (by simp)] at h18'
            go_roundg (n - (j + 1))
            case rel => exact ⟨j + 1, rfl, by omega, by go_num, by go_num, veil (by omega), h18', by rw [Hsn.out]; exact HO3, hbel2.trans (hb3.mono (by omega))⟩
            case measure => omega
        · obtain rfl : j = n := by omega
          have hw : IntKind.i64.wrap (2 * ((cd : Int) + j)) = 2 * ((cd : Int) + j) := by rw [IntKind.wrap_i64]; omega
          go_wp2
          go_roundg (16 - (k + 1))
          case rel => exact ⟨k + 1, 2 * (cd + j), acc ++ wordsTo k cd j, rfl, by omega, by go_num, by go_num, veil (HI.out.next Hn.out (by rw [← HN.out]; exact HJ.out)), h18, HO2, hbel2⟩
          case measure => omega
    · obtain rfl : k = 16 := by omega
      have hd : codes ns = some acc := by have h := HI.out; rw [← Hns.out] at h; exact h.done
      have Hd := veil hd; clear hd
      go_wp2
      go_ret2
      exact ⟨_, ret_two rfl (by rw [Hd.out]; rfl), by unfold tabWords; rw [Hd.out]; exact HO.down (by omega), hbel⟩
end Go.Proofs.Ytjphfbapekdjmaa
