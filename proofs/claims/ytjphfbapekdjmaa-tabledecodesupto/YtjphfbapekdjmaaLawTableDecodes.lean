/- law.TableDecodes returns true: Decode returns what the reference does. -/
import Derived.Test.YtjphfbapekdjmaaTabDecode
import Derived.Test.YtjphfbapekdjmaaRefTabDec
import Derived.Test.YtjphfbapekdjmaaBadCheck
import Derived.Test.YtjphfbapekdjmaaEqInt
namespace Go.Proofs.Ytjphfbapekdjmaa
open Go.RowKit
set_option linter.unusedVariables false
set_option linter.unusedSimpArgs false
set_option maxRecDepth 100000

theorem bytes_of_wf {bs : List Int} (h : ∀ x ∈ bs, (Lit.int .u8 x).wf = true) : Bytes bs := fun x hx => bounds_u8 (h x hx)
theorem dec_len (ws : List (Int × Nat × Nat)) : ∀ (n : Nat) (b : List Bool), (dec ws n b).2.1.length ≤ n
  | 0, b => by simp [dec]
  | n + 1, b => by
    rw [dec]
    split
    · have := dec_len ws n (b.drop (nextL ws b)); simp; omega
    · simp
theorem decOut_len (cs syms bs : List Int) (n : Int) : (decOut cs syms bs n).length ≤ 20000 := by
  unfold decOut
  split
  · rename_i h
    by_cases hn : 0 ≤ n ∧ n ≤ 20000
    · have := dec_len (outWords cs syms) n.toNat (unpack bs); omega
    · unfold decErr at h
      by_cases h0 : checkErr cs syms = 0
      · rw [if_pos h0, if_neg hn] at h; cases h
      · rw [if_neg h0] at h; exact absurd h h0
  · simp

set_option maxRecDepth 100000 in
set_option maxHeartbeats 2000000 in
theorem tableDecodes_walk (cs : List Int) (A : Option Addr) (c : Nat) (syms : List Int) (A2 : Option Addr) (c2 : Nat) (bs : List Int) (n : Int) (w : World) (hcs : cs.length = 16) (hb : ∀ x ∈ cs, -9223372036854775808 ≤ x ∧ x ≤ 9223372036854775807) (hs : Seen w w.heap.size A (ints .i64 syms)) (hwf : ∀ x ∈ syms, (Lit.int .i64 x).wf = true) (hn : syms.length ≤ maxLen) (hcap : syms.length ≤ c) (hup : syms.length ≤ 1048576)
    (hx : Seen w w.heap.size A2 (ints .u8 bs)) (hxw : ∀ x ∈ bs, (Lit.int .u8 x).wf = true) (hxl : bs.length ≤ maxLen) (hl : bs.length ≤ 1048576) (hnb : -9223372036854775808 ≤ n ∧ n ≤ 9223372036854775807) :
    Calls Try.prog 4 #[tabV cs A syms.length c, .slice A2 bs.length c2, .int .i64 n] w fun e w' => e = .returned (.bool true) ∧ Below w.heap.size w w' := by
  have hlen17 : (tabCells cs A syms.length c).length = 17 := tabCells_length hcs
  have hde := fun w1 h1 hG1 h2 => decode_any cs syms bs n A A2 c c2 w.heap.size w1 hcs hn hb h1 hG1 h2 (bytes_of_wf hxw) (by omega)
  have hre := fun w1 h1 hG1 h2 => refDecode_any cs syms bs n A A2 c c2 w.heap.size w1 hcs hn hcap hb h1 hG1 h2 (bytes_of_wf hxw) hl
  clear hcs hb hwf hn hxw hxl hcap hl hup hnb
  obtain ⟨ys, hys⟩ : ∃ ys, ys = tabCells cs A syms.length c := ⟨_, rfl⟩
  have Hr := veil (range_new w ys 25)
  unfold tabV at hde hre ⊢
  rw [← hys] at hlen17 hde hre ⊢
  clear hys
  have Hde := veil hde; have Hre := veil hre; clear hde hre
  have H17 := veil hlen17; clear hlen17
  go_enter Try.func4, Try.ntmps4
  go_wp2_with (first
    | (refine wpList_load_mid rfl 25 (.tmp 3) rfl w.heap.size 0 rfl ys _ Hr.out Try.underlying25 rfl (by rw [H17.out]; exact info_tab) ?_)
    | fail)
  refine (Hde.out _ (hs.alloc (Nat.le_refl _) _) (by simp) (hx.alloc (Nat.le_refl _) _)).mono ?_
  rintro e w1 ⟨v, rfl, HO, hb1⟩
  have hbel1 : Below w.heap.size w w1 := (below1 _ _).trans (hb1.mono (by simp))
  have hr1 : w1.rangeAt w.heap.size 0 ys := range_below Hr.out hb1 (by simp)
  have Hr1 := veil hr1
  have hz1 := hb1.size
  simp at hz1
  clear Hr hb1 Hde hr1
  go_wp2_with (first
    | (refine wpList_load_mid rfl 25 (.tmp 3) rfl w.heap.size 0 rfl ys _ Hr1.out Try.underlying25 rfl (by rw [H17.out]; exact info_tab) ?_)
    | fail)
  refine (Hre.out _ (hs.below hbel1 (Nat.le_refl _)) (by omega) (hx.below hbel1 (Nat.le_refl _))).mono ?_
  rintro e w2 ⟨v2, rfl, HO2, hb2⟩
  have hbel2 : Below w.heap.size w w2 := hbel1.trans (hb2.mono (by omega))
  obtain ⟨A3, c3, e3, hs3, _, _⟩ := (HO.below hb2).seen (List.mem_cons_self ..)
  obtain ⟨A4, c4, e4, hs4, _, _⟩ := HO2.seen (List.mem_cons_self ..)
  simp only [numRow, intRow] at e3 hs3 e4 hs4
  subst e3 e4
  have hl := Nat.le_trans (decOut_len cs syms bs n) (show 20000 ≤ maxLen by decide)
  have hEq := eqInt A3 A4 c3 c4 w2.heap.size (decOut cs syms bs n) (decOut cs syms bs n) w2 hs3 hs4 hl hl
  rw [decide_eq_true (rfl : decOut cs syms bs n = decOut cs syms bs n)] at hEq
  have HEq := veil hEq
  clear Hr1 hb2 Hre HO HO2 hEq hs3 hs4 hl
  generalize decOut cs syms bs n = out at *
  generalize decErr cs syms bs n = E at *
  generalize decLong cs syms bs n = L at *
  go_wp2_with fail
  refine HEq.out.mono ?_
  rintro e w3 ⟨rfl, rfl⟩
  go_wp2_with fail
  refine (bad_any _).mono ?_
  rintro e w5 ⟨A7, rfl, hs7, hb5⟩
  have hbel5 : Below w.heap.size w w5 := hbel2.trans (hb5.mono hbel2.size)
  have HB := veil (badCheck_any A7 w5 hs7)
  clear hs7 hb5
  go_wp2_with fail
  refine HB.out.mono ?_
  rintro e w6 ⟨rfl, hb6⟩
  go_wp2
  go_ret
  exact ⟨rfl, hbel5.trans (hb6.mono hbel5.size)⟩
end Go.Proofs.Ytjphfbapekdjmaa
