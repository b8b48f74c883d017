/- TableBack returns true: symbols are read as they were written. -/
import Derived.Test.YtjphfbapekdjmaaTabEncode
import Derived.Test.YtjphfbapekdjmaaTabDecode
import Derived.Test.YtjphfbapekdjmaaTabled
import Derived.Test.YtjphfbapekdjmaaTabDec
import Derived.Test.YtjphfbapekdjmaaEqInt
namespace Go.Proofs.Ytjphfbapekdjmaa
open Go.RowKit
set_option linter.unusedVariables false
set_option linter.unusedSimpArgs false
set_option maxRecDepth 100000

/-- What was written is read. -/
theorem dec_fields {ws : List (Int × Nat × Nat)} (h : PF ws) : ∀ (xs : List Int) (rest : List Bool), AllIn ws xs → dec ws xs.length (fieldBits (fieldsOf ws xs) ++ rest) = (0, xs, (fieldBits (fieldsOf ws xs)).length)
  | [], rest, _ => rfl
  | x :: xs, rest, hA => by
    obtain ⟨p, hp⟩ := Option.isSome_iff_exists.1 (hA x (by simp))
    obtain ⟨t, ht, e1, rfl⟩ := symF_mem hp
    have ef : fieldsOf ws (x :: xs) = fi t :: fieldsOf ws xs := by simp [fieldsOf, hp]
    have eb : fieldBits (fieldsOf ws (x :: xs)) = bitsN t.2.1 t.2.2 ++ fieldBits (fieldsOf ws xs) := by rw [ef, fieldBits_cons]; rfl
    have hf : find1 ws (bitsN t.2.1 t.2.2 ++ (fieldBits (fieldsOf ws xs) ++ rest)) = some (t.1, t.2.1) := h.find ht (List.prefix_append _ _)
    have hS : nextS ws (bitsN t.2.1 t.2.2 ++ (fieldBits (fieldsOf ws xs) ++ rest)) = t.1 := by unfold nextS; rw [hf]; rfl
    have hL : nextL ws (bitsN t.2.1 t.2.2 ++ (fieldBits (fieldsOf ws xs) ++ rest)) = t.2.1 := by unfold nextL; rw [hf]; rfl
    have hE : nextE ws (bitsN t.2.1 t.2.2 ++ (fieldBits (fieldsOf ws xs) ++ rest)) = 0 := by unfold nextE; rw [hf]; rfl
    rw [eb, List.length_cons, List.append_assoc, dec_hit hE, hS, hL, List.drop_left' (bitsN_length _ _), dec_fields h xs rest (fun y hy => hA y (by simp [hy])), e1]
    simp [bitsN_length]
theorem back_ok {cs syms xs out : List Int} (hcs : cs.length = 16) (he : encErr cs syms xs = 0) (hE : Encd cs syms xs out) :
    decErr cs syms out xs.length = 0 ∧ decOut cs syms out xs.length = xs ∧ decLong cs syms out xs.length ≤ 8 * out.length ∧ 8 * out.length < decLong cs syms out xs.length + 8 ∧ Bytes out ∧ out.length ≤ 1048576 ∧ xs.length ≤ 20000 := by
  obtain ⟨h1, h2, h3⟩ := encErr_zero he
  obtain ⟨l, hf, hw, _⟩ := fine_of h1
  have hpf := hf.pf hcs
  rw [← hw] at hpf
  obtain ⟨hB, p, hp, hu⟩ := hE.2 he
  have hd := dec_fields hpf xs (List.replicate p true) h3
  rw [← hu] at hd
  have he0 : decErr cs syms out xs.length = 0 := by
    unfold decErr
    rw [if_pos h1, if_pos (by omega), Int.toNat_natCast, hd]
  have hlen := congrArg List.length hu
  rw [unpack_length, List.length_append, List.length_replicate] at hlen
  have hL : decLong cs syms out xs.length = (fieldBits (fieldsOf (outWords cs syms) xs)).length := by unfold decLong; rw [if_pos he0, Int.toNat_natCast, hd]
  have hwe := writeErr_zero' (fields_ok hcs he)
  have h24 := fieldBits_le _ hwe.2
  refine ⟨he0, by unfold decOut; rw [if_pos he0, Int.toNat_natCast, hd], by omega, by omega, hB, by have := hwe.1; omega, h2⟩

set_option maxRecDepth 100000 in
set_option maxHeartbeats 2000000 in
theorem tableBack_walk (cs : List Int) (A : Option Addr) (c : Nat) (syms : List Int) (A2 : Option Addr) (c2 : Nat) (xs : List Int) (w : World) (hcs : cs.length = 16) (hb : ∀ x ∈ cs, -9223372036854775808 ≤ x ∧ x ≤ 9223372036854775807) (hs : Seen w w.heap.size A (ints .i64 syms)) (hwf : ∀ x ∈ syms, (Lit.int .i64 x).wf = true) (hn : syms.length ≤ maxLen)
    (hx : Seen w w.heap.size A2 (ints .i64 xs)) (hxw : ∀ x ∈ xs, (Lit.int .i64 x).wf = true) (hxl : xs.length ≤ maxLen) :
    Calls Try.prog 5 #[tabV cs A syms.length c, .slice A2 xs.length c2] w fun e w' => e = .returned (.bool true) ∧ Below w.heap.size w w' := by
  have hlen17 : (tabCells cs A syms.length c).length = 17 := tabCells_length hcs
  have hen := fun w1 h1 hG1 h2 => encode_any cs syms xs A A2 c c2 w.heap.size w1 hcs hn hb h1 hG1 h2 hxl fun x hx => bounds_i64 (hxw x hx)
  have hde := fun out A3 c3 w1 h1 hG1 h2 h3 h4 => decode_any cs syms out xs.length A A3 c c3 w1.heap.size w1 hcs hn hb h1 hG1 h2 h3 h4
  have Hcs := veil hcs
  clear hcs hb hwf hxw
  have Hxl := veil hxl
  unfold maxLen at hxl
  obtain ⟨ys, hys⟩ : ∃ ys, ys = tabCells cs A syms.length c := ⟨_, rfl⟩
  have Hr := veil (range_new w ys 25)
  unfold tabV at hen hde ⊢
  rw [← hys] at hlen17 hen hde ⊢
  clear hys
  have Hen := veil hen; have Hde := veil hde; clear hen hde
  have H17 := veil hlen17; clear hlen17
  go_enter Try.func5, Try.ntmps5
  go_wp2_with fail
  refine (tabled_any _).mono ?_
  rintro e w0 ⟨rfl, hb0⟩
  have hr0 : w0.rangeAt w.heap.size 0 ys := range_below Hr.out hb0 (by simp)
  have Hr0 := veil hr0
  have hbel0 : Below w.heap.size w w0 := (below1 _ _).trans (hb0.mono (by simp))
  have hz0 := hb0.size
  simp at hz0
  clear Hr hr0 hb0
  go_wp2_with (first
    | (refine wpList_load_mid rfl 25 (.tmp 2) rfl w.heap.size 0 rfl ys _ Hr0.out Try.underlying25 rfl (by rw [H17.out]; exact info_tab) ?_)
    | fail)
  refine (Hen.out _ (hs.below hbel0 (Nat.le_refl _)) (by omega) (hx.below hbel0 (Nat.le_refl _))).mono ?_
  rintro e w1 ⟨v, out, rfl, hown, hE, hb1⟩
  have hbel1 : Below w.heap.size w w1 := hbel0.trans (hb1.mono (by omega))
  have hr1 : w1.rangeAt w.heap.size 0 ys := range_below Hr0.out hb1 (by omega)
  have Hr1 := veil hr1
  have hz1 := hb1.size
  clear Hr0 hb1 Hen hr1
  obtain ⟨A3, c3, e3, hs3⟩ := own_form hown
  subst e3
  have HE := veil hE; clear hE hown
  by_cases he : encErr cs syms xs = 0
  · obtain ⟨k1, k2, k3, k4, k5, k6, k7⟩ := back_ok Hcs.out he HE.out
    rw [he]
    have hde := Hde.out out A3 c3 w1 ((hs.below hbel1 (Nat.le_refl _)).up hbel1.size) (Nat.le_refl _) hs3 k5 (by omega)
    rw [k1, k2] at hde
    obtain ⟨L, hL⟩ : ∃ L, L = decLong cs syms out xs.length := ⟨_, rfl⟩
    rw [← hL] at hde k3 k4
    have Hd := veil hde
    clear hde k1 k2 hL he Hde k5
    go_wp2_with (first
      | (refine wpList_load_mid rfl 25 (.tmp 2) rfl w.heap.size 0 rfl ys _ Hr1.out Try.underlying25 rfl (by rw [H17.out]; exact info_tab) ?_)
      | fail)
    refine Hd.out.mono ?_
    rintro e w2 ⟨v2, rfl, HO2, hb2⟩
    have hbel2 : Below w.heap.size w w2 := hbel1.trans (hb2.mono hbel1.size)
    have hz2 := hbel2.size
    obtain ⟨A4, c4, e4, hs4, _, _⟩ := HO2.seen (List.mem_cons_self ..)
    simp only [numRow, intRow] at e4 hs4
    subst e4
    have hE := veil (eqInt A4 A2 c4 c2 w2.heap.size xs xs w2 hs4 ((hx.below hbel2 (Nat.le_refl _)).up hbel2.size) Hxl.out Hxl.out)
    clear Hd HO2 hs4 hs3
    go_wp2_with fail
    refine hE.out.mono ?_
    rintro e w3 ⟨rfl, rfl⟩
    have hq1 : (L : Int) ≤ 8 * (out.length : Int) := by omega
    have hq2 : 8 * (out.length : Int) - 8 < (L : Int) := by omega
    go_wp2
    go_ret
    exact ⟨ret_bool (by simp), hbel2⟩
  · have ho := HE.out.1 he
    subst ho
    have hne : (encErr cs syms xs != 0) = true := by simpa using he
    clear he hs3 HE
    go_wp2
    go_ret
    exact ⟨rfl, hbel1⟩
end Go.Proofs.Ytjphfbapekdjmaa
