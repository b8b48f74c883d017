/- TableNone returns true: encoding fails just if a symbol has no codeword. -/
import Derived.Test.YtjphfbapekdjmaaTabEncode
import Derived.Test.YtjphfbapekdjmaaTabled
import Derived.Test.YtjphfbapekdjmaaTabEnc
import Derived.Test.YtjphfbapekdjmaaHasInt
namespace Go.Proofs.Ytjphfbapekdjmaa
open Go.RowKit
set_option linter.unusedVariables false
set_option linter.unusedSimpArgs false
set_option maxRecDepth 100000

theorem allIn_iff {cs syms xs : List Int} (h : checkErr cs syms = 0) : AllIn (outWords cs syms) xs ↔ ∀ x ∈ xs, x ∈ syms := by
  obtain ⟨l, hf, hw, hll⟩ := fine_of h
  unfold AllIn
  rw [hw]
  constructor
  · intro h1 x hx
    have := (symF_some _ _).1 (h1 x hx)
    rwa [mkWords_fst hll] at this
  · intro h1 x hx
    rw [symF_some, mkWords_fst hll]
    exact h1 x hx
def allB (syms xs : List Int) : Bool := decide (∀ x ∈ xs, x ∈ syms)
theorem allB_snoc {syms xs : List Int} {k : Nat} {x : Int} (h : xs[k]? = some x) : allB syms (xs.take (k + 1)) = (allB syms (xs.take k) && decide (x ∈ syms)) := by
  rw [take_snoc h]
  unfold allB
  rw [Bool.eq_iff_iff]
  simp only [decide_eq_true_eq, Bool.and_eq_true]
  constructor
  · intro h1; exact ⟨fun y hy => h1 y (by simp [hy]), h1 x (by simp)⟩
  · rintro ⟨h1, h2⟩ y hy
    rcases List.mem_append.1 hy with hy | hy
    · exact h1 y hy
    · simp at hy; subst hy; exact h2

set_option maxRecDepth 100000 in
set_option maxHeartbeats 2000000 in
theorem tableNone_walk (cs : List Int) (A : Option Addr) (c : Nat) (syms : List Int) (A2 : Option Addr) (c2 : Nat) (xs : List Int) (w : World) (hcs : cs.length = 16) (hb : ∀ x ∈ cs, -9223372036854775808 ≤ x ∧ x ≤ 9223372036854775807) (hs : Seen w w.heap.size A (ints .i64 syms)) (hwf : ∀ x ∈ syms, (Lit.int .i64 x).wf = true) (hn : syms.length ≤ maxLen)
    (hx : Seen w w.heap.size A2 (ints .i64 xs)) (hxw : ∀ x ∈ xs, (Lit.int .i64 x).wf = true) (hxl : xs.length ≤ maxLen) :
    Calls Try.prog 7 #[tabV cs A syms.length c, .slice A2 xs.length c2] w fun e w' => e = .returned (.bool true) ∧ Below w.heap.size w w' := by
  have h16 : (tabCells cs A syms.length c)[16]? = some (.slice A syms.length c) := tabCells_last hcs
  have hlen17 : (tabCells cs A syms.length c).length = 17 := tabCells_length hcs
  have hen := fun w1 h1 hG1 h2 => encode_any cs syms xs A A2 c c2 w.heap.size w1 hcs hn hb h1 hG1 h2 hxl fun x hx => bounds_i64 (hxw x hx)
  have hck := fun w1 h1 hG1 => check_any cs syms A c w.heap.size w1 hcs hn hb h1 hG1
  clear hcs hb hwf hxw
  unfold maxLen at hxl
  have Hn := veil hn
  obtain ⟨ys, hys⟩ : ∃ ys, ys = tabCells cs A syms.length c := ⟨_, rfl⟩
  have Hr := veil (range_new w ys 25)
  unfold tabV at hen hck ⊢
  rw [← hys] at hlen17 hen hck h16 ⊢
  clear hys
  have Hen := veil hen; have Hck := veil hck; clear hen hck
  have H17 := veil hlen17; clear hlen17
  go_enter Try.func7, Try.ntmps7
  go_wp2_with fail
  refine (tabled_any _).mono ?_
  rintro e w0 ⟨rfl, hb0⟩
  have hr0 : w0.rangeAt w.heap.size 0 ys := range_below Hr.out hb0 (by simp)
  have Hr0 := veil hr0
  have c16 : w0.cell? ⟨w.heap.size, 16, none⟩ = some (.slice A syms.length c) := by rw [hb0.cell (by simp), World.cell?_alloc_at _ _ _ _ rfl]; simpa using h16
  have hbel0 : Below w.heap.size w w0 := (below1 _ _).trans (hb0.mono (by simp))
  have hz0 := hb0.size
  simp at hz0
  clear Hr hr0 hb0 h16
  go_wp2_with (first
    | (refine wpList_load_mid rfl 25 (.tmp 2) rfl w.heap.size 0 rfl ys _ Hr0.out Try.underlying25 rfl (by rw [H17.out]; exact info_tab) ?_)
    | fail)
  refine (Hen.out _ (hs.below hbel0 (Nat.le_refl _)) (by omega) (hx.below hbel0 (Nat.le_refl _))).mono ?_
  rintro e w1 ⟨v, out, rfl, hown, hE, hb1⟩
  have hbel1 : Below w.heap.size w w1 := hbel0.trans (hb1.mono (by omega))
  have hr1 : w1.rangeAt w.heap.size 0 ys := range_below Hr0.out hb1 (by omega)
  have Hr1 := veil hr1
  have hz1 := hb1.size
  rw [← hb1.cell (by simp; omega)] at c16
  clear Hr0 hb1 Hen hr1
  obtain ⟨A3, c3, e3, hs3⟩ := own_form hown
  subst e3
  have HE := veil hE; clear hE hown hs3
  go_wp2_with (first
    | (refine wpList_load_mid rfl 25 (.tmp 2) rfl w.heap.size 0 rfl ys _ Hr1.out Try.underlying25 rfl (by rw [H17.out]; exact info_tab) ?_)
    | fail)
  refine (Hck.out _ (hs.below hbel1 (Nat.le_refl _)) (by omega)).mono ?_
  rintro e w2 ⟨rfl, hb2⟩
  have hbel2 : Below w.heap.size w w2 := hbel1.trans (hb2.mono (by omega))
  have hz2 := hb2.size
  rw [← hb2.cell (by simp; omega)] at c16
  clear Hr1 hb2 Hck
  by_cases hc0 : checkErr cs syms = 0
  · by_cases hbig : 20000 < xs.length
    · have he : encErr cs syms xs = 2 := by unfold encErr; rw [if_pos hc0, if_pos hbig]
      have ho := HE.out.1 (by rw [he]; decide)
      subst ho
      have hbig' : (20000 : Int) < (xs.length : Int) := by omega
      rw [he, hc0]
      clear he hc0 HE
      go_wp2
      go_ret
      exact ⟨rfl, hbel2⟩
    · have hbig' : ¬ (20000 : Int) < (xs.length : Int) := by omega
      have he : encErr cs syms xs = if allB syms xs = true then 0 else 5 := by
        unfold encErr
        rw [if_pos hc0, if_neg hbig]
        by_cases h : AllIn (outWords cs syms) xs
        · rw [if_pos h, if_pos]; unfold allB; simpa using (allIn_iff hc0).1 h
        · rw [if_neg h, if_neg]; unfold allB; intro h2; exact h ((allIn_iff hc0).2 (by simpa using h2))
      rw [hc0]
      have He := veil he
      clear he hc0 HE
      obtain ⟨E, hE⟩ : ∃ E, E = encErr cs syms xs := ⟨_, rfl⟩
      rw [← hE] at He ⊢
      clear hE
      go_wp2_with fail
      go_loopg [7, 9, 35] xs.length (fun gk a s0 i wr => ∃ k : Nat, gk = xs.length - k ∧ k ≤ xs.length ∧ i = .int .i64 k ∧ a = .bool (allB syms (xs.take k)) ∧ w2 = wr)
      case atStart => exact ⟨0, rfl, Nat.zero_le _, rfl, by simp [allB], rfl⟩
      case round =>
        obtain ⟨k, rfl, hk, rfl, rfl, rfl⟩ := hrel
        by_cases hlt : k < xs.length
        · obtain ⟨g, o, x, rfl, hg, hxk, h1⟩ := hx.int hlt
          rw [← hbel2.cell (by simp; omega)] at h1
          have hsn := allB_snoc (syms := syms) hxk
          have Hx := veil hxk; clear hxk
          have Hsn := veil hsn; clear hsn
          cases hab : allB syms (xs.take k) with
          | false =>
            rw [hab] at Hsn
            go_wp2_with fail
            go_roundg (xs.length - (k + 1))
            case rel => exact ⟨k + 1, rfl, by omega, by go_num, by rw [Hsn.out]; rfl, rfl⟩
            case measure => omega
          | true =>
            rw [hab] at Hsn
            have hh := veil (hasInt A c w.heap.size syms x w2 (hs.below hbel2 (Nat.le_refl _)) Hn.out)
            go_wp2_with fail
            refine hh.out.mono ?_
            rintro e w3 ⟨rfl, rfl⟩
            go_wp2
            go_roundg (xs.length - (k + 1))
            case rel => exact ⟨k + 1, rfl, by omega, by go_num, by rw [Hsn.out]; rfl, rfl⟩
            case measure => omega
        · obtain rfl : k = xs.length := by omega
          rw [List.take_length]
          have hE := He.out
          cases hab : allB syms xs with
          | false =>
            rw [hab] at hE
            simp only [Bool.false_eq_true, if_false] at hE
            subst hE
            go_wp2
            go_ret
            exact ⟨rfl, hbel2⟩
          | true =>
            rw [hab] at hE
            simp only [if_true] at hE
            subst hE
            go_wp2
            go_ret
            exact ⟨rfl, hbel2⟩
  · have he : encErr cs syms xs = checkErr cs syms := by unfold encErr; rw [if_neg hc0]
    have ho := HE.out.1 (by rw [he]; exact hc0)
    subst ho
    rw [he]
    have hne : (checkErr cs syms != 0) = true := by simpa using hc0
    clear hc0 he HE
    generalize checkErr cs syms = E at *
    go_wp2
    go_ret
    exact ⟨rfl, hbel2⟩
end Go.Proofs.Ytjphfbapekdjmaa
