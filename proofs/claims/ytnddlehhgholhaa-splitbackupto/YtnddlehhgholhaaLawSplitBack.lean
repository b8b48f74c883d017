/- SplitBack: its walk. -/
import Derived.Test.YtnddlehhgholhaaStuffed
namespace Go.Proofs.Ytnddlehhgholhaa
open Go.RowKit
set_option linter.unusedVariables false
set_option linter.unusedSimpArgs false

/-- Each piece that Split hands back, where it can be read. -/
theorem split_rows {B : Nat} {w : World} {vs : List Value} {ps : List (List Int)} {rs : List Row} (h : Owns B rs w) (hl : vs.length = ps.length) (hr : ∀ r ∈ List.zipWith byteRow vs ps, r ∈ rs) : SeenRows w w.heap.size .u8 vs ps := by
  refine h.rows (e := 5) hl fun j v p hv hp => hr _ ?_
  have e : (List.zipWith byteRow vs ps)[j]? = some (byteRow v p) := by rw [List.getElem?_zipWith, hv, hp]
  exact List.mem_of_getElem? e
/-- The first pieces with the markers between them. -/
def joinK (ps : List (List Int)) (ms : List Int) : Nat → List Int
  | 0 => []
  | k + 1 => joinK ps ms k ++ (if k = 0 then [] else [255, ms.getD (k - 1) 0]) ++ ps.getD k []
theorem joinK_succ (ps : List (List Int)) (ms : List Int) (k : Nat) : joinK ps ms (k + 1) = joinK ps ms k ++ (if k = 0 then [] else [255, ms.getD (k - 1) 0]) ++ ps.getD k [] := rfl
theorem joinK_big (ps : List (List Int)) (ms : List Int) (k : Nat) : 2 * k ≤ (joinK ps ms k).length + 2 := by
  induction k with
  | zero => simp
  | succ k ih =>
    rw [joinK_succ]
    by_cases h : k = 0
    · subst h; simp
    · simp [h]; omega
theorem joinK_step (p q : List Int) (qs : List (List Int)) (m : Int) (ms : List Int) (k : Nat) : joinK (p :: q :: qs) (m :: ms) (k + 2) = p ++ [255, m] ++ joinK (q :: qs) ms (k + 1) := by
  induction k with
  | zero => simp [joinK]
  | succ k ih =>
    rw [joinK_succ (p :: q :: qs) _ (k + 2), ih, joinK_succ (q :: qs) ms (k + 1)]
    have e1 : (p :: q :: qs).getD (k + 2) [] = (q :: qs).getD (k + 1) [] := by simp [List.getD]
    have e2 : (m :: ms).getD (k + 2 - 1) 0 = ms.getD (k + 1 - 1) 0 := by simp [List.getD]
    rw [if_neg (by omega), if_neg (by omega), e1, e2]
    simp
theorem joinP_joinK : ∀ (ps : List (List Int)) (ms : List Int), ps.length = ms.length + 1 → joinP ps ms = joinK ps ms ps.length
  | [], ms, h => by simp at h
  | [p], ms, h => by simp [joinP, joinK]
  | p :: q :: qs, [], h => by simp at h
  | p :: q :: qs, m :: ms, h => by
    have h2 : (q :: qs).length = ms.length + 1 := by simpa using h
    have ih := joinP_joinK (q :: qs) ms h2
    have e : (p :: q :: qs).length = qs.length + 2 := by simp
    rw [e, joinK_step, joinP, ih]
    simp
theorem joinK_le (ps : List (List Int)) (ms : List Int) : ∀ (n k : Nat), k ≤ n → (joinK ps ms k).length ≤ (joinK ps ms n).length
  | 0, k, h => by obtain rfl : k = 0 := by omega
                  exact Nat.le_refl _
  | n + 1, k, h => by
    by_cases hk : k = n + 1
    · subst hk; exact Nat.le_refl _
    · have := joinK_le ps ms n k (by omega)
      rw [joinK]; simp; omega
theorem plainErr_some {p : List Int} (h : (plainR p).isSome = true) : plainErr p = 0 := by unfold plainErr; rw [if_pos h]

set_option maxHeartbeats 2000000 in
theorem splitBack_walk (A : Option Addr) (c : Nat) (bs : List Int) (w : World) (hb : Seen w w.heap.size A (ints .u8 bs)) (hbw : ∀ x ∈ bs, (Lit.int .u8 x).wf = true) (hbl : bs.length ≤ maxLen) (hl : bs.length ≤ 1048576) :
    Calls Try.prog 7 #[.slice A bs.length c] w fun e w' => e = .returned (.bool true) ∧ Below w.heap.size w w' := by
  have hby : ∀ x ∈ bs, 0 ≤ x ∧ x ≤ 255 := fun x hx => bounds_u8 (hbw x hx)
  clear hbw
  go_enter Try.func7, Try.ntmps7
  go_wp2_with fail
  refine (stuffed_any _).mono ?_
  rintro e w1 ⟨rfl, hb1⟩
  go_wp2_with fail
  refine (split_any _ _ _ bs _ (hb.below hb1 (Nat.le_refl _)) hb1.size (by omega) hby).mono ?_
  rintro e w2 ⟨vs, v2, m2, rfl, hvs, HO2, hb2⟩
  obtain ⟨A1, c1, f1, hs1, hn1, hx1⟩ := HO2.seen (List.mem_cons_self ..)
  obtain ⟨A2, c2, f2, hs2, hn2, hx2⟩ := HO2.tail.seen (List.mem_cons_self ..)
  have hr2 := split_rows HO2 hvs (fun r hr => List.mem_cons_of_mem _ (List.mem_cons_of_mem _ hr))
  simp only [pileRow, numRow, intRow] at f1 hs1 f2 hs2 hn1 hn2
  subst f1 f2
  have hbw2 := hb1.trans (hb2.mono hb1.size)
  clear HO2 hb1 hb2
  cases hq : splitR bs [] with
  | none =>
    obtain ⟨p1, p2, p3⟩ := split_none hq
    rw [p1] at hvs
    rw [hvs, p2, p3]
    clear hs1 hs2 hr2 hn1 hn2 p1 p2 p3 hq hvs
    go_wp2
    go_ret
    exact ⟨rfl, hbw2⟩
  | some q =>
    obtain ⟨p1, p2, p3⟩ := split_some hq
    obtain ⟨q1, q2, q3, q4⟩ := splitR_back bs [] q hq rfl hby
    rw [p1] at hvs hr2
    rw [p2] at hs2 hn2
    rw [p2, p3]
    obtain ⟨ps, ms⟩ := q
    simp only at q1 q2 q3 q4 hvs hr2 hs2 hn2 ⊢
    rw [joinP_joinK ps ms q1] at q4
    have hjl : (joinK ps ms ps.length).length = bs.length := by rw [q4]; simp
    have Q4 := veil q4; have Hvs := veil hvs; have Q1 := veil q1; have Q2 := veil q2; have Q3 := veil q3
    have hvl : vs.length = ms.length + 1 := by rw [hvs, q1]
    have Hvl := veil hvl
    have hbig := joinK_big ps ms ps.length
    have hml : ms.length ≤ 1048576 := by omega
    clear hbig
    clear hq p1 p2 p3 q1 q2 q3 q4 hvs hvl
    have hne : ((vs.length : Int) != (ms.length : Int) + 1) = false := by have := Hvl.out; simp; omega
    go_wp2_with fail
    go_loopg [6, 7, 8, 9, 10, 35] vs.length (fun gk v i0 p0 a0 f0 i wr => ∃ k : Nat, gk = vs.length - k ∧ k ≤ vs.length ∧ i = .int .i64 k ∧ Owns w2.heap.size [byteRow v (joinK ps ms k)] wr ∧ Below w2.heap.size w2 wr)
    case atStart => exact ⟨0, rfl, Nat.zero_le _, rfl, (Owns.start w2).fresh _ _, Below.refl _ _⟩
    case round =>
      obtain ⟨k, rfl, hk, rfl, HO, hbel⟩ := hrel
      have hB := hbel.size
      by_cases hlt : k < vs.length
      · obtain ⟨A3, c3, p, hv3, hp3, hs3, hl3⟩ := hr2.at (j := k) (by have := Hvs.out; omega)
        obtain ⟨g, o, rfl, hg, h1⟩ := hs1.cell hv3
        rw [← hbel.cell (by simpa using hg)] at h1
        have hpe := plainErr_some (Q2.out p (List.mem_of_getElem? hp3))
        have hsucc := joinK_succ ps ms k
        have hgd : ps.getD k [] = p := by simp [List.getD, hp3]
        rw [hgd] at hsucc
        have hle := joinK_le ps ms ps.length (k + 1) (by have := Hvs.out; omega)
        rw [hjl, hsucc] at hle
        simp only [List.length_append] at hle
        have Hsucc := veil hsucc
        clear hgd hsucc hp3 hv3
        rcases Nat.eq_zero_or_pos k with h0 | h0
        · have hk0 : ¬ (0 : Int) < (k : Int) := by omega
          rw [if_pos h0] at hle
          have Hk0 := veil h0; clear h0
          simp at hle
          go_wp2_with fail
          refine (plain_any A3 c3 w2.heap.size p _ (hs3.below hbel (Nat.le_refl _)) hB (by omega)).mono ?_
          rintro e w5 ⟨v5, rfl, HO5, hb5⟩
          rw [hpe]
          have HO' := HO.below hb5
          have hbel5 := hbel.trans (hb5.mono hB)
          clear HO5 HO hb5
          go_wp2_with (at_builtin; go_loud (refine wpList_ownV _ rfl (.tmp 72) (.tmp 73) _ rfl w2.heap.size 5 1 1 elem_byte u6 (joinK ps ms k).length (ints .u8 (joinK ps ms k)) [] rfl HO' w2.heap.size A3 p.length c3 (ints .u8 p) rfl (hs3.below hbel5 (Nat.le_refl _)) (by simp [ints_length]) ints_one (by unfold maxLen; omega) (by omega) ?_); intro v6 w6 HO6 hb6)
          go_roundg (vs.length - (k + 1))
          case rel => exact ⟨k + 1, rfl, by omega, by go_num, by rw [Hsucc.out, if_pos Hk0.out, List.append_nil, byteRow, ← intRow_append]; exact HO6, hbel5.trans hb6⟩
          case measure => omega
        · have hk0 : (0 : Int) < (k : Int) := by omega
          obtain ⟨g2, o2, y, rfl, hg2, hy, h2⟩ := hs2.int (k := k - 1) (by have := Hvl.out; omega)
          rw [← hbel.cell (by simpa using hg2)] at h2
          have hyb := Q3.out y (List.mem_of_getElem? hy)
          have hgd : ms.getD (k - 1) 0 = y := by simp [List.getD, hy]
          rw [if_neg (by omega), hgd] at hle
          have H0 := veil h0; have Hgd := veil hgd
          clear hgd hy
          have i1 : (0 : Int) ≤ (k : Int) - 1 := by omega
          have i2 : (k : Int) - 1 < (ms.length : Int) := by have := Hvl.out; omega
          have i3 : ((k : Int) - 1).toNat = k - 1 := by omega
          have i4 : ¬ y < 1 := by omega
          have i5 : ¬ (254 : Int) < y := by omega
          have i6 : IntKind.u8.wrap y = y := by rw [IntKind.wrap_u8]; omega
          simp at hle
          go_wp2_with (at_builtin; go_loud (refine wpList_ownI _ rfl (.tmp 56) (.tmp 63) _ rfl w2.heap.size 5 .u8 1 elem_byte u6 (joinK ps ms k) [] rfl HO [255, y] rfl (by unfold maxLen; simp; omega) (by simp; omega) ?_); intro v4 w4 HO4 hb4 hz4)
          have hbel4 := hbel.trans hb4
          refine (plain_any A3 c3 w2.heap.size p _ (hs3.below hbel4 (Nat.le_refl _)) hbel4.size (by omega)).mono ?_
          rintro e w5 ⟨v5, rfl, HO5, hb5⟩
          rw [hpe]
          have HO' := HO4.below hb5
          have hbel5 := hbel4.trans (hb5.mono hbel4.size)
          clear HO5 HO HO4 hb5 hb4
          go_wp2_with (at_builtin; go_loud (refine wpList_ownV _ rfl (.tmp 72) (.tmp 73) _ rfl w2.heap.size 5 1 1 elem_byte v4 (joinK ps ms k ++ [255, y]).length (ints .u8 (joinK ps ms k ++ [255, y])) [] rfl HO' w2.heap.size A3 p.length c3 (ints .u8 p) rfl (hs3.below hbel5 (Nat.le_refl _)) (by simp [ints_length]) ints_one (by unfold maxLen; simp; omega) (by simp; omega) ?_); intro v6 w6 HO6 hb6)
          go_roundg (vs.length - (k + 1))
          case rel => exact ⟨k + 1, rfl, by omega, by go_num, by rw [Hsucc.out, if_neg (by have := H0.out; omega), Hgd.out, byteRow, ← intRow_append]; exact HO6, hbel5.trans hb6⟩
          case measure => omega
      · obtain rfl : k = vs.length := by omega
        rw [Hvs.out, Q4.out, List.nil_append] at HO
        obtain ⟨A5, c5, f5, hs5, _, _⟩ := HO.seen (List.mem_cons_self ..)
        simp only [byteRow, intRow] at f5 hs5
        subst f5
        have hbw5 := hbw2.trans (hbel.mono hbw2.size)
        clear HO
        go_wp2_with fail
        refine (eqByte A5 A c5 c _ bs bs _ hs5 ((hb.below hbw5 (Nat.le_refl _)).up hbw5.size) hbl hbl).mono ?_
        rintro e w6 ⟨rfl, rfl⟩
        rw [decide_eq_true rfl]
        go_wp2
        go_ret
        exact ⟨rfl, hbw5⟩
end Go.Proofs.Ytnddlehhgholhaa
