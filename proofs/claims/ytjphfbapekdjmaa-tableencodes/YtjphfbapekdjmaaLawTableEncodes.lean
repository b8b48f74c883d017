/- law.TableEncodes returns true: Encode returns what the reference does. -/
import Derived.Test.YtjphfbapekdjmaaTabEncode
import Derived.Test.YtjphfbapekdjmaaRefTabEnc
import Derived.Test.YtjphfbapekdjmaaBadCheck
import Derived.Test.YtjphfbapekdjmaaEqByte
namespace Go.Proofs.Ytjphfbapekdjmaa
open Go.RowKit
set_option linter.unusedVariables false
set_option linter.unusedSimpArgs false
set_option maxRecDepth 100000

theorem Encd.same {cs syms xs a b : List Int} (ha : Encd cs syms xs a) (hb : Encd cs syms xs b) : a = b := by
  by_cases h : encErr cs syms xs = 0
  · obtain ⟨ba, p, hp, ea⟩ := ha.2 h
    obtain ⟨bb, q, hq, eb⟩ := hb.2 h
    have h1 := congrArg List.length ea
    have h2 := congrArg List.length eb
    simp [unpack_length] at h1 h2
    have : p = q := by omega
    subst this
    exact unpack_inj ba bb (ea.trans eb.symm)
  · rw [ha.1 h, hb.1 h]
theorem Encd.len {cs syms xs out : List Int} (hcs : cs.length = 16) (h : Encd cs syms xs out) : out.length ≤ maxLen := by
  by_cases he : encErr cs syms xs = 0
  · obtain ⟨_, p, hp, hu⟩ := h.2 he
    have h24 := fieldBits_le _ (writeErr_zero' (fields_ok hcs he)).2
    have h20 := (writeErr_zero' (fields_ok hcs he)).1
    have hlen := congrArg List.length hu
    rw [unpack_length, List.length_append, List.length_replicate] at hlen
    unfold maxLen
    omega
  · rw [h.1 he]; simp

set_option maxRecDepth 100000 in
set_option maxHeartbeats 2000000 in
theorem tableEncodes_walk (cs : List Int) (A : Option Addr) (c : Nat) (syms : List Int) (A2 : Option Addr) (c2 : Nat) (xs : List Int) (w : World) (hcs : cs.length = 16) (hb : ∀ x ∈ cs, -9223372036854775808 ≤ x ∧ x ≤ 9223372036854775807) (hs : Seen w w.heap.size A (ints .i64 syms)) (hwf : ∀ x ∈ syms, (Lit.int .i64 x).wf = true) (hn : syms.length ≤ maxLen) (hcap : syms.length ≤ c)
    (hx : Seen w w.heap.size A2 (ints .i64 xs)) (hxw : ∀ x ∈ xs, (Lit.int .i64 x).wf = true) (hxl : xs.length ≤ maxLen) :
    Calls Try.prog 3 #[tabV cs A syms.length c, .slice A2 xs.length c2] w fun e w' => e = .returned (.bool true) ∧ Below w.heap.size w w' := by
  have hlen17 : (tabCells cs A syms.length c).length = 17 := tabCells_length hcs
  have hen := fun w1 h1 hG1 h2 => encode_any cs syms xs A A2 c c2 w.heap.size w1 hcs hn hb h1 hG1 h2 hxl fun x hx => bounds_i64 (hxw x hx)
  have hre := fun w1 h1 hG1 h2 => refEncode_any cs syms xs A A2 c c2 w.heap.size w1 hcs hn hcap hb h1 hG1 h2 hxl
  have Hcs := veil hcs
  clear hcs hb hwf hn hxw hxl hcap
  obtain ⟨ys, hys⟩ : ∃ ys, ys = tabCells cs A syms.length c := ⟨_, rfl⟩
  have Hr := veil (range_new w ys 25)
  unfold tabV at hen hre ⊢
  rw [← hys] at hlen17 hen hre ⊢
  clear hys
  have Hen := veil hen; have Hre := veil hre; clear hen hre
  have H17 := veil hlen17; clear hlen17
  go_enter Try.func3, Try.ntmps3
  go_wp2_with (first
    | (refine wpList_load_mid rfl 25 (.tmp 2) rfl w.heap.size 0 rfl ys _ Hr.out Try.underlying25 rfl (by rw [H17.out]; exact info_tab) ?_)
    | fail)
  refine (Hen.out _ (hs.alloc (Nat.le_refl _) _) (by simp) (hx.alloc (Nat.le_refl _) _)).mono ?_
  rintro e w1 ⟨v, out, rfl, hown, hE, hb1⟩
  have hbel1 : Below w.heap.size w w1 := (below1 _ _).trans (hb1.mono (by simp))
  have hr1 : w1.rangeAt w.heap.size 0 ys := range_below Hr.out hb1 (by simp)
  have Hr1 := veil hr1
  have hz1 := hb1.size
  simp at hz1
  obtain ⟨A3, c3, e3, hs3⟩ := own_form hown
  subst e3
  have HE := veil hE
  clear Hr hb1 Hen hr1 hown hE
  go_wp2_with (first
    | (refine wpList_load_mid rfl 25 (.tmp 2) rfl w.heap.size 0 rfl ys _ Hr1.out Try.underlying25 rfl (by rw [H17.out]; exact info_tab) ?_)
    | fail)
  refine (Hre.out _ (hs.below hbel1 (Nat.le_refl _)) (by omega) (hx.below hbel1 (Nat.le_refl _))).mono ?_
  rintro e w2 ⟨v2, out2, rfl, hown2, hE2, hb2⟩
  obtain rfl := HE.out.same hE2
  have hbel2 : Below w.heap.size w w2 := hbel1.trans (hb2.mono (by omega))
  obtain ⟨A4, c4, e4, hs4⟩ := own_form hown2
  subst e4
  have hl := HE.out.len Hcs.out
  have hEq := eqByte A3 A4 c3 c4 w2.heap.size out out w2 ((hs3.below hb2 (Nat.le_refl _)).up hb2.size) hs4 hl hl
  rw [decide_eq_true (rfl : out = out)] at hEq
  have HEq := veil hEq
  clear Hr1 hb2 Hre hown2 hE2 hEq hs3 hs4 hl HE
  generalize encErr cs syms xs = E at *
  go_wp2_with fail
  refine HEq.out.mono ?_
  rintro e w3 ⟨rfl, rfl⟩
  go_wp2_with fail
  refine (bad_any _).mono ?_
  rintro e w5 ⟨A7, rfl, hs7, hb5⟩
  have hbel5 : Below w.heap.size w w5 := hbel2.trans (hb5.mono hbel2.size)
  have HB := veil (badCheck_any A7 w5 hs7)
  clear hs7 hb5
  go_wp2_with fail
  refine HB.out.mono ?_
  rintro e w6 ⟨rfl, hb6⟩
  go_wp2
  go_ret
  exact ⟨rfl, hbel5.trans (hb6.mono hbel5.size)⟩
end Go.Proofs.Ytjphfbapekdjmaa
