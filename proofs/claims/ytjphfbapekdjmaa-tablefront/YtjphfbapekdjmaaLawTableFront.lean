/- TableFront returns true: decoding in two steps is decoding at once, and encoding what was decoded gives the bits that were read. -/
import Derived.Test.YtjphfbapekdjmaaTabEncode
import Derived.Test.YtjphfbapekdjmaaTabDecode
import Derived.Test.YtjphfbapekdjmaaTabled
import Derived.Test.YtjphfbapekdjmaaTabDec
import Derived.Test.YtjphfbapekdjmaaEqInt
import Derived.Test.YtjphfbapekdjmaaRest
import Derived.Test.YtjphfbapekdjmaaBlk
namespace Go.Proofs.Ytjphfbapekdjmaa
open Go.RowKit
set_option linter.unusedVariables false
set_option linter.unusedSimpArgs false
set_option maxRecDepth 100000

/-- Of symbols that are all different each has its own word. -/
theorem symF_own {ws : List (Int × Nat × Nat)} (hnd : (ws.map (·.1)).Nodup) {t : Int × Nat × Nat} (ht : t ∈ ws) : symF ws t.1 = some (fi t) := by
  induction ws using snoc_ind with
  | h0 => simp at ht
  | h1 ws u ih =>
    rw [List.map_append, List.nodup_append] at hnd
    rw [symF_snoc]
    unfold upd
    by_cases e : t.1 = u.1
    · rw [if_pos e]
      rcases List.mem_append.1 ht with h | h
      · exact absurd e (hnd.2.2 t.1 (List.mem_map_of_mem h) u.1 (by simp))
      · simp at h; rw [h]
    · rw [if_neg e]
      rcases List.mem_append.1 ht with h | h
      · exact ih hnd.1 h
      · simp at h; rw [h] at e; exact absurd rfl e
theorem nextE_zero {ws : List (Int × Nat × Nat)} {b : List Bool} (h : nextE ws b = 0) : ∃ t ∈ ws, nextS ws b = t.1 ∧ nextL ws b = t.2.1 ∧ bitsN t.2.1 t.2.2 <+: b := by
  unfold nextE at h
  split at h
  · rename_i h1
    obtain ⟨⟨s, n⟩, hp⟩ := Option.isSome_iff_exists.1 h1
    obtain ⟨t, ht, e1, e2, h2⟩ := find1_mem hp
    exact ⟨t, ht, by unfold nextS; rw [hp, e1]; rfl, by unfold nextL; rw [hp, e2]; rfl, h2⟩
  · split at h <;> cases h
theorem dec_step {ws : List (Int × Nat × Nat)} {n : Nat} {b : List Bool} (h : (dec ws (n + 1) b).1 = 0) : nextE ws b = 0 := by
  refine Classical.byContradiction fun he => ?_
  rw [dec_miss he] at h
  exact he h
/-- What is decoded: so many symbols, all of them with words, whose bits are the first ones. -/
theorem dec_all {ws : List (Int × Nat × Nat)} (hpf : PF ws) (hnd : (ws.map (·.1)).Nodup) : ∀ (n : Nat) (b : List Bool), (dec ws n b).1 = 0 →
    (dec ws n b).2.1.length = n ∧ AllIn ws (dec ws n b).2.1 ∧ fieldBits (fieldsOf ws (dec ws n b).2.1) = b.take (dec ws n b).2.2 ∧ (dec ws n b).2.2 ≤ b.length ∧ (dec ws n b).2.2 ≤ 16 * n
  | 0, b, _ => by simp [dec, AllIn, fieldsOf, fieldBits]
  | n + 1, b, h => by
    have he := dec_step h
    obtain ⟨t, ht, e1, e2, hp⟩ := nextE_zero he
    rw [dec_hit he, e2] at h
    rw [dec_hit he, e1, e2]
    obtain ⟨h1, h2, h3, h4, h5⟩ := dec_all hpf hnd n (b.drop t.2.1) h
    have h16 := (hpf.small t ht).1.2
    have hs := symF_own hnd ht
    have hl := hp.length_le
    rw [bitsN_length] at hl
    rw [List.length_drop] at h4
    refine ⟨by simp [h1], ?_, ?_, by simp; omega, by simp; omega⟩
    · intro x hx
      rcases List.mem_cons.1 hx with rfl | hx
      · rw [hs]; rfl
      · exact h2 x hx
    · have ef : fieldsOf ws (t.1 :: (dec ws n (b.drop t.2.1)).2.1) = fi t :: fieldsOf ws (dec ws n (b.drop t.2.1)).2.1 := by simp [fieldsOf, hs]
      rw [ef, fieldBits_cons, h3]
      have hb := List.prefix_iff_eq_take.1 hp
      rw [bitsN_length] at hb
      show bitsN t.2.1 t.2.2 ++ _ = _
      rw [hb, List.take_add]
theorem dec_take (ws : List (Int × Nat × Nat)) : ∀ (n k : Nat) (b : List Bool), (dec ws n b).1 = 0 → k ≤ n → (dec ws k b).1 = 0 ∧ (dec ws k b).2.1 = (dec ws n b).2.1.take k ∧ (dec ws k b).2.2 ≤ (dec ws n b).2.2
  | n, 0, b, _, _ => by simp [dec]
  | 0, k + 1, b, _, h => by omega
  | n + 1, k + 1, b, h, hk => by
    have he := dec_step h
    rw [dec_hit he] at h ⊢
    rw [dec_hit he]
    obtain ⟨h1, h2, h3⟩ := dec_take ws n k (b.drop (nextL ws b)) h (by omega)
    exact ⟨h1, by simp [h2], by simp; omega⟩
def onesW (n : Nat) : List Int := List.replicate n 1
theorem onesW_succ (n : Nat) : onesW (n + 1) = 1 :: onesW n := rfl
theorem readE_ones (T : Int) : ∀ (n : Nat) (a : Int), a + n ≤ T → readE T a (onesW n) = 0
  | 0, a, _ => rfl
  | n + 1, a, h => by
    rw [onesW_succ, readE, if_pos (by decide), if_neg (by omega)]
    exact readE_ones T n (a + 1) (by omega)
theorem readB_ones : ∀ (n : Nat) (a b : List Bool), a.take n = b.take n → n ≤ a.length → n ≤ b.length → readB a (onesW n) = readB b (onesW n)
  | 0, a, b, _, _, _ => rfl
  | n + 1, [], b, _, h, _ => by simp at h
  | n + 1, x :: a, [], _, _, h => by simp at h
  | n + 1, x :: a, y :: b, h, h1, h2 => by
    simp only [List.take_succ_cons, List.cons.injEq] at h
    obtain ⟨rfl, h⟩ := h
    rw [onesW_succ]
    simp only [readB]
    have := readB_ones n a b h (by simpa using h1) (by simpa using h2)
    simpa using this
/-- All that the law asks. -/
theorem front_ok {cs syms bs : List Int} {N K : Nat} (hcs : cs.length = 16) (hN : N ≤ 29) (hK : K ≤ N) (he : decErr cs syms bs N = 0) :
    decErr cs syms bs K = 0 ∧ decOut cs syms bs K = (decOut cs syms bs N).take K ∧ decLong cs syms bs K ≤ decLong cs syms bs N ∧ (decOut cs syms bs N).length = N ∧ encErr cs syms (decOut cs syms bs N) = 0 ∧ decLong cs syms bs N ≤ 464 ∧ decLong cs syms bs N ≤ 8 * bs.length ∧
    (∀ out, Encd cs syms (decOut cs syms bs N) out → Bytes out ∧ out.length ≤ 1048576 ∧ readErr bs (onesW (decLong cs syms bs N)) = 0 ∧ readErr out (onesW (decLong cs syms bs N)) = 0 ∧ readOut bs (onesW (decLong cs syms bs N)) = readOut out (onesW (decLong cs syms bs N))) := by
  have h0 : checkErr cs syms = 0 := by
    refine Classical.byContradiction fun h => ?_
    unfold decErr at he
    rw [if_neg h] at he
    exact h he
  obtain ⟨l, hf, hw, hll⟩ := fine_of h0
  have hpf := hf.pf hcs
  rw [← hw] at hpf
  have hnd : ((outWords cs syms).map (·.1)).Nodup := by rw [hw, mkWords_fst hll]; exact hf.nodup
  have e1 : ∀ k : Nat, k ≤ 29 → decErr cs syms bs k = (dec (outWords cs syms) k (unpack bs)).1 := by
    intro k hk
    unfold decErr
    rw [if_pos h0, if_pos (by omega), Int.toNat_natCast]
  have hd := he
  rw [e1 N hN] at hd
  obtain ⟨d1, d2, d3, d4, d5⟩ := dec_all hpf hnd N (unpack bs) hd
  obtain ⟨t1, t2, t3⟩ := dec_take (outWords cs syms) N K (unpack bs) hd hK
  have heK : decErr cs syms bs K = 0 := by rw [e1 K (by omega)]; exact t1
  have hoN : decOut cs syms bs N = (dec (outWords cs syms) N (unpack bs)).2.1 := by unfold decOut; rw [if_pos he, Int.toNat_natCast]
  have hoK : decOut cs syms bs K = (dec (outWords cs syms) K (unpack bs)).2.1 := by unfold decOut; rw [if_pos heK, Int.toNat_natCast]
  have hlN : decLong cs syms bs N = (dec (outWords cs syms) N (unpack bs)).2.2 := by unfold decLong; rw [if_pos he, Int.toNat_natCast]
  have hlK : decLong cs syms bs K = (dec (outWords cs syms) K (unpack bs)).2.2 := by unfold decLong; rw [if_pos heK, Int.toNat_natCast]
  rw [← hoN] at d1 d2 d3 t2
  rw [← hoK] at t2
  rw [← hlN] at d3 d4 d5 t3
  rw [← hlK] at t3
  rw [unpack_length] at d4
  have hen : encErr cs syms (decOut cs syms bs N) = 0 := by
    unfold encErr
    rw [if_pos h0, if_neg (by omega), if_pos d2]
  refine ⟨heK, t2, t3, d1, hen, by omega, d4, ?_⟩
  intro out hE
  obtain ⟨hB, p, hp, hu⟩ := hE.2 hen
  have hlen := congrArg List.length hu
  rw [unpack_length, List.length_append, List.length_replicate, d3, List.length_take, unpack_length, Nat.min_eq_left d4] at hlen
  have r1 : readErr bs (onesW (decLong cs syms bs N)) = 0 := by
    unfold readErr
    rw [if_neg (by simp [onesW]; omega)]
    exact readE_ones _ _ _ (by omega)
  have r2 : readErr out (onesW (decLong cs syms bs N)) = 0 := by
    unfold readErr
    rw [if_neg (by simp [onesW]; omega)]
    exact readE_ones _ _ _ (by omega)
  refine ⟨hB, by omega, r1, r2, ?_⟩
  rw [readOut_ok r1, readOut_ok r2]
  refine readB_ones _ _ _ ?_ (by rw [unpack_length]; omega) (by rw [unpack_length]; omega)
  rw [hu, d3, List.take_left' (by rw [List.length_take, unpack_length, Nat.min_eq_left d4])]

theorem run_take_ints' (A : Option Addr) (n c h : Nat) (h2 : h ≤ c) (u : World) : (Instr.sliceAt 23 (.slice A n c) none (some (.int .i64 (h : Int))) none).run Try.prog u = .ok (.slice A h c) u := by
  have he : Try.prog.underlying 23 = some (.slice (Try.prog.elem 23)) := by kernel_rfl
  have hz : (sizeOf (Try.prog.elem 23)).run Try.prog u = .ok 1 u := by kernel_rfl
  rw [run_sliceAt_slice _ _ _ _ _ _ he, run_slice_h _ _ _ _ _ he _ _ (by omega) (by omega), hz]
  cases A <;> simp [Result.andThen, sliced, Addr.add]
def halfOnes (k n : Nat) : List Value := ints .i64 (List.replicate k 1 ++ List.replicate (n - k) 0)
theorem halfOnes_length {k n : Nat} (h : k ≤ n) : (halfOnes k n).length = n := by simp [halfOnes, ints]; omega
theorem halfOnes_set {k n : Nat} (h : k < n) : (halfOnes k n).set k (.int .i64 1) = halfOnes (k + 1) n := by
  unfold halfOnes ints
  rw [List.map_append, List.set_append_right _ _ (by simp), show n - k = (n - (k + 1)) + 1 by omega, List.replicate_succ]
  simp [List.replicate_succ', List.map_append]
theorem halfOnes_done (n : Nat) : halfOnes n n = ints .i64 (onesW n) := by simp [halfOnes, onesW]
theorem run_make_full (n : Nat) (h : n ≤ 1099511627776) (u : World) : (Instr.makeSlice 23 (.int .i64 (n : Int)) (.int .i64 (n : Int))).run Try.prog u =
    .ok (.slice (some ⟨u.heap.size, 0, none⟩) n n) (u.alloc (.cells (halfOnes 0 n).toArray 3)) := by
  obtain ⟨i0, hi, hz0, hz1, hz2⟩ := info_parts info_int
  have h := run_make (P := Try.prog) u 23 3 i0 (.int .i64 0) Try.underlying23 hi hz0 .i64 .i64 n n (by omega) (by omega) (by rw [hz2]; omega) (by omega)
  have e : madeCells #[Value.int .i64 0] n = (halfOnes 0 n).toArray := by
    apply Array.ext'
    rw [toList_madeCells_one]
    simp [halfOnes, ints]
  rw [← e]
  simpa [hz1, Value.cells] using h
theorem mod_range (k : Int) (N : Nat) : 0 ≤ k % ((N : Int) + 1) ∧ k % ((N : Int) + 1) ≤ N := by
  have h1 := Int.emod_nonneg k (show ((N : Int) + 1) ≠ 0 by omega)
  have h2 := Int.emod_lt_of_pos k (show (0 : Int) < (N : Int) + 1 by omega)
  omega

set_option maxRecDepth 100000 in
set_option maxHeartbeats 4000000 in
theorem tableFront_walk (cs : List Int) (A : Option Addr) (c : Nat) (syms : List Int) (A2 : Option Addr) (c2 : Nat) (bs : List Int) (n k : Int) (w : World) (hcs : cs.length = 16) (hb : ∀ x ∈ cs, -9223372036854775808 ≤ x ∧ x ≤ 9223372036854775807) (hs : Seen w w.heap.size A (ints .i64 syms)) (hwf : ∀ x ∈ syms, (Lit.int .i64 x).wf = true) (hn : syms.length ≤ maxLen)
    (hx : Seen w w.heap.size A2 (ints .u8 bs)) (hxw : ∀ x ∈ bs, (Lit.int .u8 x).wf = true) (hxl : bs.length ≤ maxLen) (hl : bs.length ≤ 140737488355328) (hnb : -9223372036854775808 ≤ n ∧ n ≤ 9223372036854775807) (hkb : -9223372036854775808 ≤ k ∧ k ≤ 9223372036854775807) :
    Calls Try.prog 6 #[tabV cs A syms.length c, .slice A2 bs.length c2, .int .i64 n, .int .i64 k] w fun e w' => e = .returned (.bool true) ∧ Below w.heap.size w w' := by
  have hlen17 : (tabCells cs A syms.length c).length = 17 := tabCells_length hcs
  have hby : Bytes bs := fun x hx => bounds_u8 (hxw x hx)
  have hde := fun n w1 h1 hG1 h2 => decode_any cs syms bs n A A2 c c2 w.heap.size w1 hcs hn hb h1 hG1 h2 hby (by omega)
  have hen := fun xs A3 c3 w1 h1 h2 h3 h4 => encode_any cs syms xs A A3 c c3 w1.heap.size w1 hcs hn hb h1 (Nat.le_refl _) h2 h3 h4
  have Hcs := veil hcs; have Hby := veil hby
  clear hcs hb hwf hn hxw hxl hby
  obtain ⟨ys, hys⟩ : ∃ ys, ys = tabCells cs A syms.length c := ⟨_, rfl⟩
  have Hr := veil (range_new w ys 25)
  unfold tabV at hde hen ⊢
  rw [← hys] at hlen17 hde hen ⊢
  clear hys
  have Hde := veil hde; have Hen := veil hen; clear hde hen
  have H17 := veil hlen17; clear hlen17
  go_enter Try.func6, Try.ntmps6
  go_wp2_with fail
  refine (tabled_any _).mono ?_
  rintro e w0 ⟨rfl, hb0⟩
  have hr0 : w0.rangeAt w.heap.size 0 ys := range_below Hr.out hb0 (by simp)
  have Hr0 := veil hr0
  have hbel0 : Below w.heap.size w w0 := (below1 _ _).trans (hb0.mono (by simp))
  have hz0 := hb0.size
  simp at hz0
  clear Hr hr0 hb0
  have Hrn := veil (rest_any n 30 w0 (by omega) (by omega) hnb)
  go_wp2_with fail
  refine Hrn.out.mono ?_
  rintro e w0' ⟨rfl, rfl⟩
  obtain ⟨N, hN⟩ : ∃ N : Nat, n % 30 = (N : Int) := ⟨(n % 30).toNat, by omega⟩
  have hN29 : N ≤ 29 := by omega
  rw [hN]
  clear hN Hrn hnb
  have Hrk := veil (rest_any k ((N : Int) + 1) w0 (by omega) (by omega) hkb)
  go_wp2_with fail
  refine Hrk.out.mono ?_
  rintro e w0' ⟨rfl, rfl⟩
  obtain ⟨K, hK⟩ : ∃ K : Nat, k % ((N : Int) + 1) = (K : Int) := ⟨(k % ((N : Int) + 1)).toNat, by have := mod_range k N; omega⟩
  have hKN : K ≤ N := by have := mod_range k N; omega
  rw [hK]
  clear hK Hrk hkb
  have Hd1 := veil (Hde.out N w0 (hs.below hbel0 (Nat.le_refl _)) (by omega) (hx.below hbel0 (Nat.le_refl _)))
  go_wp2_with (first
    | (refine wpList_load_mid rfl 25 (.tmp 4) rfl w.heap.size 0 rfl ys _ Hr0.out Try.underlying25 rfl (by rw [H17.out]; exact info_tab) ?_)
    | fail)
  refine Hd1.out.mono ?_
  rintro e w1 ⟨v1, rfl, HO1, hb1⟩
  have hbel1 : Below w.heap.size w w1 := hbel0.trans (hb1.mono (by omega))
  have hr1 : w1.rangeAt w.heap.size 0 ys := range_below Hr0.out hb1 (by omega)
  have Hr1 := veil hr1
  have hz1 := hb1.size
  clear Hr0 hb1 hr1 Hd1
  have Hd2 := veil (Hde.out K w1 (hs.below hbel1 (Nat.le_refl _)) (by omega) (hx.below hbel1 (Nat.le_refl _)))
  go_wp2_with (first
    | (refine wpList_load_mid rfl 25 (.tmp 4) rfl w.heap.size 0 rfl ys _ Hr1.out Try.underlying25 rfl (by rw [H17.out]; exact info_tab) ?_)
    | fail)
  refine Hd2.out.mono ?_
  rintro e w2 ⟨v2, rfl, HO2, hb2⟩
  have hbel2 : Below w.heap.size w w2 := hbel1.trans (hb2.mono (by omega))
  have hr2 : w2.rangeAt w.heap.size 0 ys := range_below Hr1.out hb2 (by omega)
  have Hr2 := veil hr2
  have hz2 := hb2.size
  have HO1' := HO1.below hb2
  clear Hr1 hb2 hr2 Hd2 HO1
  obtain ⟨A3, c3, e3, hs3, hcap3, _⟩ := HO1'.seen (List.mem_cons_self ..)
  obtain ⟨A4, c4, e4, hs4, _, _⟩ := HO2.seen (List.mem_cons_self ..)
  simp only [numRow, intRow] at e3 hs3 hcap3 e4 hs4
  subst e3 e4
  by_cases he : decErr cs syms bs N = 0
  · obtain ⟨f1, f2, f3, f4, f5, f6, f7, f8⟩ := front_ok Hcs.out hN29 hKN he
    have htk : ((decOut cs syms bs N).take K).length = K := by rw [List.length_take, f4]; omega
    rw [f2] at hs4
    rw [he, f1, f2, htk, f4]
    rw [f4] at hcap3
    have hob : ∀ x ∈ decOut cs syms bs N, -9223372036854775808 ≤ x ∧ x ≤ 9223372036854775807 := by
      intro x hx'
      have h0 := (encErr_zero f5).1
      obtain ⟨l, hf, hw, hll⟩ := fine_of h0
      have hm := (symF_some _ _).1 ((encErr_zero f5).2.2 x hx')
      rw [hw, mkWords_fst hll] at hm
      have := hf.ok x hm
      omega
    have hec := Hen.out (decOut cs syms bs N) A3 c3 w2 ((hs.below hbel2 (Nat.le_refl _)).up hbel2.size) hs3 (by rw [f4]; unfold maxLen; omega) hob
    rw [f5, f4] at hec
    have Hec := veil hec; have F8 := veil f8; have F4 := veil f4; have Htk := veil htk
    clear hec f8 f4 f5 f2 f1 he hob htk Hen Hde HO1' HO2
    generalize decOut cs syms bs N = all at *
    generalize decLong cs syms bs N = L at *
    generalize decLong cs syms bs K = L2 at *
    go_wp2_with (first
      | (refine wpList_load_mid rfl 25 (.tmp 4) rfl w.heap.size 0 rfl ys _ Hr2.out Try.underlying25 rfl (by rw [H17.out]; exact info_tab) ?_)
      | fail)
    refine Hec.out.mono ?_
    rintro e w3 ⟨v5, out, rfl, hown5, hE, hb3⟩
    have hbel3 : Below w.heap.size w w3 := hbel2.trans (hb3.mono hbel2.size)
    have hz3 := hb3.size
    obtain ⟨A5, c5, e5, hs5⟩ := own_form hown5
    subst e5
    obtain ⟨g1, g2, g3, g4, g5⟩ := F8.out out hE
    have hcut := run_take_ints' A3 N c3 K (by omega) w3
    have hEq := eqInt A4 A3 c4 c3 w3.heap.size (all.take K) (all.take K) w3 ((hs4.below hb3 (Nat.le_refl _)).up hb3.size) (((hs3.below hb3 (Nat.le_refl _)).up hb3.size).takeInts K) (by rw [Htk.out]; unfold maxLen; omega) (by rw [Htk.out]; unfold maxLen; omega)
    rw [Htk.out, decide_eq_true (rfl : all.take K = all.take K)] at hEq
    have HEq := veil hEq; have G1 := veil g1; have G3 := veil g3; have G4 := veil g4; have G5 := veil g5
    clear hEq hE Hec F8 hs3 hs4 hown5 Hr2 g1 g3 g4 g5 hb3
    go_wp2_with fail
    refine HEq.out.mono ?_
    rintro e w3' ⟨rfl, rfl⟩
    have hL2 : ¬ (L : Int) < (L2 : Int) := by omega
    have hmk := run_make_full L (by omega) w3
    clear hcut
    go_wp2_with fail
    go_loopg [18, 83] L (fun gk i0 i wr => ∃ j : Nat, gk = L - j ∧ j ≤ L ∧ i = .int .i64 j ∧ Blk wr w3.heap.size (halfOnes j L) 3 ∧ Below w3.heap.size w3 wr)
    case atStart => exact ⟨0, rfl, Nat.zero_le _, rfl, Blk.new w3 _ _, below1 _ _⟩
    case round =>
      obtain ⟨j, rfl, hj, rfl, HB, hbel⟩ := hrel
      by_cases hjt : j < L
      · obtain ⟨u, hu⟩ := some_at (xs := halfOnes j L) (j := j) (by rw [halfOnes_length (by omega)]; exact hjt)
        have dj := HB.cell hu
        have fj := HB.frozen j
        have hjt' : (j : Int) < (L : Int) := by omega
        clear hu
        have hB5 := HB.set j (.int .i64 1)
        rw [halfOnes_set hjt] at hB5
        have HB5 := veil hB5; clear hB5
        go_wp2_with fail
        go_roundg (L - (j + 1))
        case rel => exact ⟨j + 1, rfl, by omega, by go_num, HB5.out, hbel.setCell (by simp) _⟩
        case measure => omega
      · obtain rfl : j = L := by omega
        rw [halfOnes_done] at HB
        have hol : (onesW j).length = j := by simp [onesW]
        have hse : Seen wr wr.heap.size (some ⟨w3.heap.size, 0, none⟩) (ints .i64 (onesW j)) := .inr ⟨_, _, rfl, HB.lt, fun i v hv => by rw [Nat.zero_add]; exact HB.cell hv⟩
        have hwb : ∀ x ∈ onesW j, -9223372036854775808 ≤ x ∧ x ≤ 9223372036854775807 := by
          intro x hx'
          have := List.eq_of_mem_replicate hx'
          omega
        have hbel4 : Below w.heap.size w wr := hbel3.trans (hbel.mono hbel3.size)
        have hrd := read_any A2 (some ⟨w3.heap.size, 0, none⟩) c2 j wr.heap.size bs (onesW j) wr ((hx.below hbel4 (Nat.le_refl _)).up hbel4.size) Hby.out hse (Nat.le_refl _) (by omega) (by rw [hol]; unfold maxLen; omega) hwb
        rw [hol, G3.out] at hrd
        have Hrd := veil hrd; have Hol := veil hol; have Hwb := veil hwb
        have hs5r := hs5.below hbel (Nat.le_refl _)
        clear hrd hol hwb HB
        go_wp2_with fail
        refine Hrd.out.mono ?_
        rintro e w5 ⟨v6, rfl, hown6, hb5⟩
        have hbel5 : Below w.heap.size w w5 := hbel4.trans (hb5.mono hbel4.size)
        have hz5 := hb5.size
        have hz4 := hbel.size
        have hrd2 := read_any A5 (some ⟨w3.heap.size, 0, none⟩) c5 j w5.heap.size out (onesW j) w5 (((hs5r.up hz4).below hb5 (Nat.le_refl _)).up hz5) G1.out ((hse.below hb5 (Nat.le_refl _)).up hz5) (Nat.le_refl _) (by omega) (by rw [Hol.out]; unfold maxLen; omega) Hwb.out
        rw [Hol.out, G4.out] at hrd2
        have Hrd2 := veil hrd2
        clear hrd2 Hrd hse hs5r
        go_wp2_with fail
        refine Hrd2.out.mono ?_
        rintro e w6 ⟨v7, rfl, hown7, hb6⟩
        rw [← G5.out] at hown7
        have hbel6 : Below w.heap.size w w6 := hbel5.trans (hb6.mono hbel5.size)
        obtain ⟨A6, c6, e6, hs6⟩ := own_form (own_below hown6 hb6)
        obtain ⟨A7, c7, e7, hs7⟩ := own_form hown7
        subst e6 e7
        have hro : (readOut bs (onesW j)).length ≤ maxLen := by rw [readOut_ok G3.out, readB_length, Hol.out]; unfold maxLen; omega
        have hEq2 := eqInt A6 A7 c6 c7 w6.heap.size (readOut bs (onesW j)) (readOut bs (onesW j)) w6 hs6 hs7 hro hro
        rw [decide_eq_true (rfl : readOut bs (onesW j) = readOut bs (onesW j))] at hEq2
        have HEq2 := veil hEq2
        clear hEq2 Hrd2 hown6 hown7 hs6 hs7 hro
        generalize readOut bs (onesW j) = ro at *
        go_wp2_with fail
        refine HEq2.out.mono ?_
        rintro e w6' ⟨rfl, rfl⟩
        go_wp2
        go_ret
        exact ⟨rfl, hbel6⟩
  · have ho := decOut_err he
    rw [ho]
    have hne : (decErr cs syms bs N != 0) = true := by simpa using he
    clear he ho hs3 hs4 HO1' HO2 Hde Hen
    generalize decErr cs syms bs N = E at *
    go_wp2
    go_ret
    exact ⟨rfl, hbel2⟩
end Go.Proofs.Ytjphfbapekdjmaa
