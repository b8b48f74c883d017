/- Texts shared by the claims of this seat, in one. -/
import Derived.Test.YtbboakdfnjjddaaBd1
import Derived.Test.YtbboakdfnjjddaaChecked
import Derived.Test.YtbboakdfnjjddaaBd4
import Derived.Test.YtbboakdfnjjddaaBd2
import Derived.Test.YtbboakdfnjjddaaBd3
import Derived.Test.YtbboakdfnjjddaaRows
import Derived.Laws.StructEq
/- The reference's Has at numbers. -/
namespace Go.Proofs.Ytbboakdfnjjddaa
open Go.RowKit
set_option linter.unusedVariables false
set_option linter.unusedSimpArgs false
set_option maxRecDepth 100000

theorem hasInt (A : Option Addr) (c G : Nat) (xs : List Int) (y : Int) (w : World) (hx : Seen w G A (ints .i64 xs)) (hl : xs.length ≤ maxLen) :
    Calls Try.prog 82 #[.slice A xs.length c, .int .i64 y] w fun e w' => e = .returned (.bool (decide (y ∈ xs))) ∧ w = w' := by
  unfold maxLen at hl
  go_enter Try.func82, Try.ntmps82
  go_wp2_with fail
  go_loopg [6, 9] xs.length (fun gk v i wr => ∃ k : Nat, gk = xs.length - k ∧ k ≤ xs.length ∧ i = .int .i64 k ∧ Hid (y ∉ xs.take k) ∧ w = wr)
  case atStart => exact ⟨0, rfl, Nat.zero_le _, rfl, veil (by simp), rfl⟩
  case round =>
    obtain ⟨k, rfl, hk, rfl, HN, rfl⟩ := hrel
    by_cases hlt : k < xs.length
    · obtain ⟨g, o, x, rfl, _, hxk, h1⟩ := hx.int hlt
      have Hx := veil hxk; clear hxk
      by_cases hxy : y = x
      · have hb : (y == x) = true := by simpa using hxy
        have hm : y ∈ xs := by rw [hxy]; exact List.mem_of_getElem? Hx.out
        have Hd := veil (decide_eq_true hm)
        clear hxy hm
        go_wp2
        go_ret
        exact ⟨ret_bool Hd.out.symm, rfl⟩
      · have hb : (y == x) = false := by simpa using hxy
        have Hxy := veil hxy; clear hxy
        go_wp2
        go_roundg (xs.length - (k + 1))
        case rel =>
          refine ⟨k + 1, rfl, by omega, by go_num, veil ?_, rfl⟩
          rw [take_snoc Hx.out]
          intro h
          rcases List.mem_append.1 h with h | h
          · exact HN.out h
          · simp at h; exact Hxy.out h
        case measure => omega
    · obtain rfl : k = xs.length := by omega
      have hm : y ∉ xs := by have := HN.out; rw [List.take_length] at this; exact this
      have Hd := veil (decide_eq_false hm)
      clear hm
      go_wp2
      go_ret
      exact ⟨ret_bool Hd.out.symm, rfl⟩
end Go.Proofs.Ytbboakdfnjjddaa

/- The reference's check of a table: the same contract as Check's. -/
namespace Go.Proofs.Ytbboakdfnjjddaa
open Go.RowKit
set_option linter.unusedVariables false
set_option linter.unusedSimpArgs false
set_option maxRecDepth 100000

theorem run_take_ints (A : Option Addr) (n c h : Nat) (h2 : h ≤ c) (u : World) : (Instr.sliceAt 23 (.slice A n c) none (some (.int .i64 (h : Int))) none).run Try.prog u = .ok (.slice A h c) u := by
  have he : Try.prog.underlying 23 = some (.slice (Try.prog.elem 23)) := by kernel_rfl
  have hz : (sizeOf (Try.prog.elem 23)).run Try.prog u = .ok 1 u := by kernel_rfl
  rw [run_sliceAt_slice _ _ _ _ _ _ he, run_slice_h _ _ _ _ _ he _ _ (by omega) (by omega), hz]
  cases A <;> simp [Result.andThen, sliced, Addr.add]
theorem notGood_sum {cs : List Int} {n k : Nat} (h0 : ∀ x ∈ cs.take k, 0 ≤ x) (h : 256 < sumW (cs.take k)) : ¬ Good cs n := by
  rintro ⟨h1, h2, h3⟩
  have e : sumW cs = sumW (cs.take k) + sumW (cs.drop k) := by
    conv => lhs; rw [← List.take_append_drop k cs, sumW_app]
  have h5 := sumW_pos (cs.drop k) fun y hy => h1 y (List.mem_of_mem_drop hy)
  omega
theorem dup_snoc {syms : List Int} {k : Nat} {x : Int} (hx : syms[k]? = some x) (h : (syms.take k).Nodup) (hn : x ∉ syms.take k) : (syms.take (k + 1)).Nodup := by
  rw [take_snoc hx, List.nodup_append]
  refine ⟨h, by simp, fun a ha b hb => ?_⟩
  simp at hb
  subst hb
  intro e
  subst e
  exact hn ha
theorem dup_stop {syms : List Int} {k : Nat} {x : Int} (hx : syms[k]? = some x) (hn : x ∈ syms.take k) : ¬ syms.Nodup := by
  intro h
  have e : syms = syms.take (k + 1) ++ syms.drop (k + 1) := (List.take_append_drop _ _).symm
  rw [e, List.nodup_append, take_snoc hx, List.nodup_append] at h
  exact h.1.2.2 x hn x (by simp) rfl

set_option maxRecDepth 100000 in
set_option maxHeartbeats 2000000 in
theorem refCheck_any (cs syms : List Int) (A : Option Addr) (c G : Nat) (w : World) (hcs : cs.length = 16) (hn : syms.length ≤ maxLen) (hcap : syms.length ≤ c) (hb : ∀ x ∈ cs, -9223372036854775808 ≤ x ∧ x ≤ 9223372036854775807) (hs : Seen w G A (ints .i64 syms)) (hG : G ≤ w.heap.size) :
    Calls Try.prog 59 #[tabV cs A syms.length c] w fun e w' => e = .returned (.int .i64 (checkErr cs syms)) ∧ Below w.heap.size w w' := by
  have h16 : (tabCells cs A syms.length c)[16]? = some (.slice A syms.length c) := tabCells_last hcs
  have hlen17 : (tabCells cs A syms.length c).length = 17 := tabCells_length hcs
  have hr : Hid (∀ xs, xs = tabCells cs A syms.length c → (w.alloc (.cells xs.toArray 34)).rangeAt w.heap.size 0 (ints .i64 cs)) := by
    show ∀ xs, _
    intro xs e
    subst e
    exact range_left (range_new w _ _)
  have hwo : Hid (Good cs syms.length → ∀ w1, Calls Try.prog 60 #[tabV cs A syms.length c] w1 fun e w' => ∃ v, e = .returned (.tuple #[v, .bool (codes (nats cs)).isSome]) ∧ Owns w1.heap.size [strRow v ((codes (nats cs)).getD [])] w' ∧ Below w1.heap.size w1 w') := by
    show _ → _
    intro hg w1
    have := refWordsOf_any (nats cs) A syms.length c w1 (by rw [nats_length]; exact hcs) (by rw [hg.sum]; exact hg.le)
    rw [natI_nats hg.1] at this
    exact this
  have Hn := veil hn
  unfold maxLen at hn
  have Hb := veil hb
  have Hcs := veil hcs
  clear hb hcs
  obtain ⟨xs, hxs⟩ : ∃ xs, xs = tabCells cs A syms.length c := ⟨_, rfl⟩
  have Hr := veil (hr.out xs hxs)
  have Hrw := veil (range_new w xs 34)
  unfold tabV at hwo ⊢
  rw [← hxs] at h16 hlen17 hwo ⊢
  have H17 := veil hlen17
  clear hr hxs hlen17
  go_enter Try.func59, Try.ntmps59
  go_wp2_with (first
    | (refine wpList_load_mid rfl 32 (.tmp 12) rfl w.heap.size 0 rfl (ints .i64 cs) _ Hr.out Try.underlying32 rfl (by rw [ints_length, Hcs.out]; exact info_arr) ?_)
    | fail)
  have c16 : (w.alloc (.cells xs.toArray 34)).cell? ⟨w.heap.size, 16, none⟩ = some (.slice A syms.length c) := by rw [World.cell?_alloc_at _ _ _ _ rfl]; simpa using h16
  have hsW := hs.alloc hG (.cells xs.toArray 34)
  have hbW := below1 w (.cells xs.toArray 34)
  have hzW : w.heap.size < (w.alloc (.cells xs.toArray 34)).heap.size := by simp
  generalize w.alloc (.cells xs.toArray 34) = W at *
  clear h16 hs Hr
  go_loopg [3, 5, 14] 16 (fun gk s x i wr => ∃ k : Nat, gk = 16 - k ∧ k ≤ 16 ∧ i = .int .i64 k ∧ (∃ z : Int, s = .int .i64 z ∧ Hid (z = sumW (cs.take k)) ∧ 0 ≤ z ∧ z ≤ 256 * k) ∧ Hid (∀ x ∈ cs.take k, 0 ≤ x) ∧ W = wr)
  case atStart => exact ⟨0, rfl, by omega, rfl, ⟨0, rfl, veil rfl, by omega, by omega⟩, veil (by simp), rfl⟩
  case round =>
    obtain ⟨k, rfl, hk, rfl, ⟨z, rfl, Hz, hz0, hz1⟩, Hp, rfl⟩ := hrel
    by_cases hlt : k < 16
    · obtain ⟨x, hx⟩ := some_at (xs := cs) (j := k) (by rw [Hcs.out]; omega)
      have hxb := Hb.out x (List.mem_of_getElem? hx)
      have Hx := veil hx; clear hx
      by_cases hout : x < 0 ∨ 256 < x
      · have hg : ¬ Good cs syms.length := by
          rcases hout with h | h
          · exact good_stop Hx.out (.inl h)
          · exact good_stop Hx.out (.inr (by have := Hz.out; omega))
        have He := veil (checkErr_form hg)
        have Ho := veil (outside_yes x 0 256 hout W)
        clear hg hout
        go_wp2_with (first
          | (refine wpList_index_arr rfl 32 (.tmp 13) (.tmp 14) rfl 16 3 .i64 Try.underlying32 Try.underlying3 info_int1 (ints .i64 cs) rfl .i64 k rfl (.int .i64 x) hlt (ints_at Hx.out) ?_)
          | fail)
        refine Ho.out.mono ?_
        rintro e w3 ⟨rfl, rfl⟩
        go_wp2
        go_ret
        exact ⟨by rw [He.out]; rfl, hbW⟩
      · have hin : 0 ≤ x ∧ x ≤ 256 := by omega
        have Ho := veil (outside_no x 0 256 hin W)
        clear hout
        by_cases hz256 : 256 < z
        · have hg : ¬ Good cs syms.length := notGood_sum Hp.out (by rw [← Hz.out]; exact hz256)
          have He := veil (checkErr_form hg)
          clear hg
          go_wp2_with (first
            | (refine wpList_index_arr rfl 32 (.tmp 13) (.tmp 14) rfl 16 3 .i64 Try.underlying32 Try.underlying3 info_int1 (ints .i64 cs) rfl .i64 k rfl (.int .i64 x) hlt (ints_at Hx.out) ?_)
            | fail)
          refine Ho.out.mono ?_
          rintro e w3 ⟨rfl, rfl⟩
          go_wp2
          go_ret
          exact ⟨by rw [He.out]; rfl, hbW⟩
        · have hw : IntKind.i64.wrap (z + x) = z + x := by rw [IntKind.wrap_i64]; omega
          go_wp2_with (first
            | (refine wpList_index_arr rfl 32 (.tmp 13) (.tmp 14) rfl 16 3 .i64 Try.underlying32 Try.underlying3 info_int1 (ints .i64 cs) rfl .i64 k rfl (.int .i64 x) hlt (ints_at Hx.out) ?_)
            | fail)
          refine Ho.out.mono ?_
          rintro e w3 ⟨rfl, rfl⟩
          go_wp2
          go_roundg (16 - (k + 1))
          case rel => exact ⟨k + 1, rfl, by omega, by go_num, ⟨z + x, by go_num, veil (by rw [sumW_take Hx.out, ← Hz.out]), by omega, by omega⟩, veil (mem_snoc Hx.out Hp.out (by omega)), rfl⟩
          case measure => omega
    · obtain rfl : k = 16 := by omega
      have e : cs.take 16 = cs := by rw [List.take_of_length_le]; rw [Hcs.out]; omega
      have h3 := Hp.out
      have h4 := Hz.out
      rw [e] at h3 h4
      have H3 := veil h3; have H4 := veil h4
      clear e h3 h4
      by_cases hz256 : 256 < z
      · have hg : ¬ Good cs syms.length := fun h => by have := h.2.1; have := H4.out; omega
        have He := veil (checkErr_form hg)
        clear hg
        go_wp2
        go_ret
        exact ⟨by rw [He.out]; rfl, hbW⟩
      · by_cases hzn : z = (syms.length : Int)
        · have hg : Good cs syms.length := ⟨H3.out, by have := H4.out; omega, by have := H4.out; omega⟩
          have Hg := veil hg
          have hne : (z != (syms.length : Int)) = false := by simpa using hzn
          have h256 := hg.le
          clear hg hzn
          go_wp2_with fail
          go_loopg [7, 39] syms.length (fun gk x i wr => ∃ k : Nat, gk = syms.length - k ∧ k ≤ syms.length ∧ i = .int .i64 k ∧ Hid (∀ s ∈ syms.take k, 0 ≤ s ∧ s ≤ 255) ∧ W = wr)
          case atStart => exact ⟨0, rfl, Nat.zero_le _, rfl, veil (by simp), rfl⟩
          case round =>
            obtain ⟨k, rfl, hk2, rfl, HP, rfl⟩ := hrel
            by_cases hlt2 : k < syms.length
            · obtain ⟨g, o, x, rfl, hg, hx, h1⟩ := hsW.int hlt2
              have Hx := veil hx; clear hx
              by_cases hin : 0 ≤ x ∧ x ≤ 255
              · have Ho := veil (outside_no x 0 255 hin W)
                go_wp2_with fail
                refine Ho.out.mono ?_
                rintro e w3 ⟨rfl, rfl⟩
                go_wp2
                go_roundg (syms.length - (k + 1))
                case rel => exact ⟨k + 1, rfl, by omega, by go_num, veil (mem_snoc Hx.out HP.out hin), rfl⟩
                case measure => omega
              · have Ho := veil (outside_yes x 0 255 (by omega) W)
                have He := veil (checkErr_arg Hg.out (notSym Hx.out (by omega)))
                go_wp2_with fail
                refine Ho.out.mono ?_
                rintro e w3 ⟨rfl, rfl⟩
                go_wp2
                go_ret
                exact ⟨by rw [He.out]; rfl, hbW⟩
            · obtain rfl : k = syms.length := by omega
              have hsok : SymOk syms := by have := HP.out; rw [List.take_length] at this; exact this
              have Hs := veil hsok; clear hsok
              go_wp2_with fail
              go_loopg [8, 9, 49] syms.length (fun gk i0 x i wr => ∃ k : Nat, gk = syms.length - k ∧ k ≤ syms.length ∧ i = .int .i64 k ∧ Hid ((syms.take k).Nodup) ∧ W = wr)
              case atStart => exact ⟨0, rfl, Nat.zero_le _, rfl, veil (by simp), rfl⟩
              case round =>
                obtain ⟨j, rfl, hj2, rfl, HD, rfl⟩ := hrel
                by_cases hjt : j < syms.length
                · obtain ⟨g, o, x, rfl, hg, hx, h1⟩ := hsW.int hjt
                  have hcut := run_take_ints (some ⟨g, o, none⟩) syms.length c j (by omega) W
                  have htl : (syms.take j).length = j := by simp; omega
                  have hha := hasInt (some ⟨g, o, none⟩) c G (syms.take j) x W (hsW.takeInts j) (by rw [htl]; unfold maxLen; omega)
                  rw [htl] at hha
                  have Hx := veil hx; clear hx htl
                  by_cases hin : x ∈ syms.take j
                  · rw [decide_eq_true hin] at hha
                    have Hha := veil hha
                    have He := veil (checkErr_bad Hg.out Hs.out fun h => dup_stop Hx.out hin h.2)
                    clear hha hin
                    go_wp2_with fail
                    refine Hha.out.mono ?_
                    rintro e w3 ⟨rfl, rfl⟩
                    go_wp2
                    go_ret
                    exact ⟨by rw [He.out]; rfl, hbW⟩
                  · rw [decide_eq_false hin] at hha
                    have Hha := veil hha; have Hin := veil hin
                    clear hha hin
                    go_wp2_with fail
                    refine Hha.out.mono ?_
                    rintro e w3 ⟨rfl, rfl⟩
                    go_wp2
                    go_roundg (syms.length - (j + 1))
                    case rel => exact ⟨j + 1, rfl, by omega, by go_num, veil (dup_snoc Hx.out HD.out Hin.out), rfl⟩
                    case measure => omega
                · obtain rfl : j = syms.length := by omega
                  have hnd : syms.Nodup := by have := HD.out; rw [List.take_length] at this; exact this
                  have Hnd := veil hnd; clear hnd
                  have Hwo := veil (hwo.out Hg.out W)
                  go_wp2_with (first
                    | (refine wpList_load_mid rfl 34 (.tmp 1) rfl w.heap.size 0 rfl xs _ Hrw.out Try.underlying34 rfl (by rw [H17.out]; exact info_tab) ?_)
                    | fail)
                  refine Hwo.out.mono ?_
                  rintro e w2 ⟨v, rfl, HO, hb2⟩
                  have hbel2 := hbW.trans (hb2.mono (Nat.le_of_lt hzW))
                  cases hco : codes (nats cs) with
                  | none =>
                    have He := veil (checkErr_bad Hg.out Hs.out (fun h => by rw [hco] at h; cases h.1))
                    simp only [Option.isSome_none]
                    clear HO Hwo
                    go_wp2
                    go_ret
                    exact ⟨by rw [He.out]; rfl, hbel2⟩
                  | some l =>
                    have He := veil (checkErr_ok Hg.out Hs.out (by rw [hco]; rfl) Hnd.out)
                    simp only [Option.isSome_some]
                    clear HO Hwo
                    go_wp2
                    go_ret
                    exact ⟨by rw [He.out]; rfl, hbel2⟩
        · have hg : ¬ Good cs syms.length := fun h => hzn (by have := h.2.2; have := H4.out; omega)
          have He := veil (checkErr_form hg)
          have hne : (z != (syms.length : Int)) = true := by simpa using hzn
          clear hg hzn
          go_wp2
          go_ret
          exact ⟨by rw [He.out]; rfl, hbW⟩
end Go.Proofs.Ytbboakdfnjjddaa

/- A symbol that has a word: where it stands. -/
namespace Go.Proofs.Ytbboakdfnjjddaa
open Go.RowKit
set_option linter.unusedVariables false
set_option linter.unusedSimpArgs false
set_option maxRecDepth 100000

theorem symF_mem {ws : List (Int × Nat × Nat)} {x : Int} {p : Int × Int} (h : symF ws x = some p) : ∃ t ∈ ws, t.1 = x ∧ fi t = p := by
  induction ws using snoc_ind with
  | h0 => simp [symF, symGo] at h
  | h1 ws t ih =>
    rw [symF_snoc] at h
    unfold upd at h
    by_cases e : x = t.1
    · rw [if_pos e] at h; injection h with h; exact ⟨t, by simp, e.symm, h⟩
    · rw [if_neg e] at h
      obtain ⟨u, hu, h2⟩ := ih h
      exact ⟨u, by simp [hu], h2⟩
theorem mem_mkWords {syms : List Int} {l : List (Nat × Nat)} {t : Int × Nat × Nat} (h : t ∈ mkWords syms l) : ∃ i : Nat, syms[i]? = some t.1 ∧ l[i]? = some t.2 := by
  obtain ⟨i, hi⟩ := List.getElem?_of_mem h
  refine ⟨i, ?_⟩
  unfold mkWords at hi
  rw [List.getElem?_zipWith] at hi
  cases h1 : syms[i]? with
  | none => simp [h1] at hi
  | some s =>
    cases h2 : l[i]? with
    | none => simp [h1, h2] at hi
    | some p => simp [h1, h2] at hi; subst hi; exact ⟨rfl, rfl⟩
end Go.Proofs.Ytbboakdfnjjddaa

/- The reference's wordOf: the digits of a symbol's word. -/
namespace Go.Proofs.Ytbboakdfnjjddaa
open Go.RowKit
set_option linter.unusedVariables false
set_option linter.unusedSimpArgs false
set_option maxRecDepth 100000

/-- Of symbols that are all different each has the word at its place. -/
theorem symF_at {syms : List Int} {l : List (Nat × Nat)} (hnd : syms.Nodup) (hll : l.length = syms.length) {i : Nat} {x : Int} {p : Nat × Nat} (hx : syms[i]? = some x) (hp : l[i]? = some p) : symF (mkWords syms l) x = some ((p.1 : Int), (p.2 : Int)) := by
  have hm : x ∈ (mkWords syms l).map (·.1) := by rw [mkWords_fst hll]; exact List.mem_of_getElem? hx
  obtain ⟨q, hq⟩ := Option.isSome_iff_exists.1 ((symF_some _ _).2 hm)
  obtain ⟨t, ht, e1, e2⟩ := symF_mem hq
  obtain ⟨k, h1, h2⟩ := mem_mkWords ht
  have hik : i = k := by
    obtain ⟨hi, e3⟩ := List.getElem?_eq_some_iff.1 hx
    obtain ⟨hk, e4⟩ := List.getElem?_eq_some_iff.1 h1
    have hpw := List.pairwise_iff_getElem.1 (List.nodup_iff_pairwise_ne.1 hnd)
    rcases Nat.lt_trichotomy i k with h | h | h
    · exact absurd (by rw [e3, e4, e1]) (hpw i k hi hk h)
    · exact h
    · exact absurd (by rw [e3, e4, e1]) (hpw k i hk hi h)
  subst hik
  rw [hp] at h2
  injection h2 with h2
  rw [hq, ← e2, fi, ← h2]
theorem symF_none {syms : List Int} {l : List (Nat × Nat)} (hll : l.length = syms.length) {x : Int} (hx : x ∉ syms) : symF (mkWords syms l) x = none := by
  cases h : symF (mkWords syms l) x with
  | none => rfl
  | some p =>
    have := (symF_some (mkWords syms l) x).1 (by rw [h]; rfl)
    rw [mkWords_fst hll] at this
    exact absurd this hx
/-- The bits of a symbol's word. -/
def symBits (ws : List (Int × Nat × Nat)) (x : Int) : List Bool := bitsN (((symF ws x).getD (0, 0)).1).toNat (((symF ws x).getD (0, 0)).2).toNat
theorem symBits_none {ws : List (Int × Nat × Nat)} {x : Int} (h : symF ws x = none) : symBits ws x = [] := by unfold symBits; rw [h]; rfl

set_option maxRecDepth 100000 in
set_option maxHeartbeats 2000000 in
theorem wordOf_any (cs syms : List Int) (l : List (Nat × Nat)) (A : Option Addr) (c G : Nat) (x : Int) (w : World) (hcs : cs.length = 16) (hf : Fine cs syms l) (hs : Seen w G A (ints .i64 syms)) (hG : G ≤ w.heap.size) :
    Calls Try.prog 34 #[tabV cs A syms.length c, .int .i64 x] w fun e w' => e = .returned (.tuple #[.string (txt (symBits (mkWords syms l) x)), .bool (symF (mkWords syms l) x).isSome]) ∧ Below w.heap.size w w' := by
  have h16 : (tabCells cs A syms.length c)[16]? = some (.slice A syms.length c) := tabCells_last hcs
  have hlen17 : (tabCells cs A syms.length c).length = 17 := tabCells_length hcs
  have h256 := hf.good.le
  have hll : l.length = syms.length := (codes_length hf.code).trans hf.good.sum
  have hwo := fun w1 => refWordsOf_any (nats cs) A syms.length c w1 (by rw [nats_length]; exact hcs) (by rw [hf.good.sum]; exact hf.good.le)
  rw [natI_nats hf.good.1, hf.code] at hwo
  have Hll := veil hll; have Hnd := veil hf.nodup
  clear hf hll hcs
  obtain ⟨ys, hys⟩ : ∃ ys, ys = tabCells cs A syms.length c := ⟨_, rfl⟩
  have Hr := veil (range_new w ys 34)
  unfold tabV at hwo ⊢
  rw [← hys] at hlen17 hwo h16 ⊢
  clear hys
  have Hwo := veil hwo; clear hwo
  have H17 := veil hlen17; clear hlen17
  go_enter Try.func34, Try.ntmps34
  go_wp2_with (first
    | (refine wpList_load_mid rfl 34 (.tmp 2) rfl w.heap.size 0 rfl ys _ Hr.out Try.underlying34 rfl (by rw [H17.out]; exact info_tab) ?_)
    | fail)
  refine (Hwo.out _).mono ?_
  rintro e w1 ⟨v, rfl, HS, hb1⟩
  have c16 : w1.cell? ⟨w.heap.size, 16, none⟩ = some (.slice A syms.length c) := by rw [hb1.cell (by simp), World.cell?_alloc_at _ _ _ _ rfl]; simpa using h16
  have hbel1 : Below w.heap.size w w1 := (below1 _ _).trans (hb1.mono (by simp))
  have hz1 := hb1.size
  simp at hz1
  obtain ⟨A5, c5, e5, hs5, _, _⟩ := HS.seen (List.mem_cons_self ..)
  simp only [strRow, Option.getD_some, Hll.out] at e5 hs5
  subst e5
  clear Hr hb1 Hwo h16 HS
  go_wp2_with fail
  go_loopg [8, 9, 18] syms.length (fun gk i0 s0 i wr => ∃ k : Nat, gk = syms.length - k ∧ k ≤ syms.length ∧ i = .int .i64 k ∧ Hid (x ∉ syms.take k) ∧ w1 = wr)
  case atStart => exact ⟨0, rfl, Nat.zero_le _, rfl, veil (by simp), rfl⟩
  case round =>
    obtain ⟨k, rfl, hk, rfl, HN, rfl⟩ := hrel
    by_cases hlt : k < syms.length
    · obtain ⟨p, hp⟩ := some_at (xs := l) (j := k) (by rw [Hll.out]; exact hlt)
      obtain ⟨g5, o5, rfl, hg5, h5⟩ := hs5.cell (strs_at hp)
      obtain ⟨g, o, y, rfl, hg, hy, h1⟩ := hs.int hlt
      rw [← hbel1.cell (by simp; omega)] at h1
      by_cases hxy : y = x
      · have hq := symF_at Hnd.out Hll.out hy hp
        rw [hxy] at hq
        have hsb : symBits (mkWords syms l) x = bitsN p.1 p.2 := by unfold symBits; rw [hq]; rfl
        have Hq := veil hq; have Hsb := veil hsb
        have hbb : (y == x) = true := by simpa using hxy
        have hlt' : (k : Int) < (syms.length : Int) := by omega
        clear hq hsb hp hy hxy
        go_wp2
        go_ret2
        exact ⟨ret_two (by rw [Hsb.out]; rfl) (by rw [Hq.out]; rfl), hbel1⟩
      · have hbb : (y == x) = false := by simpa using hxy
        have Hy := veil hy; have Hxy := veil hxy
        clear hp hy hxy
        go_wp2
        go_roundg (syms.length - (k + 1))
        case rel =>
          refine ⟨k + 1, rfl, by omega, by go_num, veil ?_, rfl⟩
          rw [take_snoc Hy.out]
          intro h
          rcases List.mem_append.1 h with h | h
          · exact HN.out h
          · simp at h; exact Hxy.out h.symm
        case measure => omega
    · obtain rfl : k = syms.length := by omega
      have hx : x ∉ syms := by have := HN.out; rw [List.take_length] at this; exact this
      have hq := symF_none Hll.out hx
      have Hq := veil hq; have Hsb := veil (symBits_none hq)
      clear hq hx
      go_wp2
      go_ret2
      exact ⟨ret_two (by rw [Hsb.out]; rfl) (by rw [Hq.out]; rfl), hbel1⟩
end Go.Proofs.Ytbboakdfnjjddaa

/- What a check of blocks answers, in numbers. No program is named here. -/
namespace Go.Proofs.Ytbboakdfnjjddaa
set_option linter.unusedVariables false
set_option linter.unusedSimpArgs false
set_option maxRecDepth 100000

/-- What a check of blocks answers. -/
def eL (L : List (List Int)) : Int := if 400 < L.length then 2 else if (L.all fun r => inB (-2047) 2047 r) = true then 0 else 1
theorem eL_large {L : List (List Int)} (h : 400 < L.length) : eL L = 2 := if_pos h
theorem eL_bad {L : List (List Int)} (h : ¬ 400 < L.length) {k : Nat} {r : List Int} (hr : L[k]? = some r) (hb : inB (-2047) 2047 r = false) : eL L = 1 := by
  unfold eL
  rw [if_neg h, if_neg]
  intro h2
  have := List.all_eq_true.1 h2 r (List.mem_of_getElem? hr)
  rw [hb] at this; cases this
theorem eL_ok {L : List (List Int)} (h : ¬ 400 < L.length) (hb : ∀ r ∈ L, inB (-2047) 2047 r = true) : eL L = 0 := by
  unfold eL
  rw [if_neg h, if_pos (List.all_eq_true.2 hb)]
theorem eL_zero {L : List (List Int)} (h : eL L = 0) : L.length ≤ 400 ∧ ∀ r ∈ L, inB (-2047) 2047 r = true := by
  unfold eL at h
  split at h
  · cases h
  · split at h
    · rename_i h1 h2; exact ⟨by omega, fun r hr => List.all_eq_true.1 h2 r hr⟩
    · cases h
end Go.Proofs.Ytbboakdfnjjddaa

/- What a written list of fields is, in numbers; the fields' element. -/
namespace Go.Proofs.Ytbboakdfnjjddaa
open Go.RowKit
set_option linter.unusedVariables false
set_option linter.unusedSimpArgs false
set_option maxRecDepth 100000

theorem writeErr_zero' {l : List (Int × Int)} (h : writeErr l = 0) : l.length ≤ 20000 ∧ ∀ f ∈ l, okF f := by
  unfold writeErr at h
  by_cases h1 : 20000 < l.length
  · rw [if_pos h1] at h; cases h
  · rw [if_neg h1] at h
    by_cases h2 : ∀ f ∈ l, okF f
    · exact ⟨by omega, h2⟩
    · rw [if_neg h2] at h; cases h
theorem Written.alike {l m : List (Int × Int)} {a b : List Int} (ha : Written l a) (hb : Written m b) (hl : writeErr l = 0) (hm : writeErr m = 0) (h : fieldBits l = fieldBits m) : a = b := by
  refine ha.same ⟨fun e => absurd hl e, fun _ => ?_⟩
  rw [h]
  exact hb.2 hm
theorem okF_nat (X Y : Nat) : okF ((X : Int), (Y : Int)) ↔ X ≤ 24 ∧ Y < 2 ^ X := by
  unfold okF
  simp only [Int.toNat_natCast]
  constructor
  · rintro ⟨⟨_, h1⟩, _, h2⟩
    refine ⟨by omega, ?_⟩
    have : (Y : Int) < ((2 ^ X : Nat) : Int) := by simpa using h2
    omega
  · rintro ⟨h1, h2⟩
    refine ⟨⟨by omega, by omega⟩, by omega, ?_⟩
    have : (Y : Int) < ((2 ^ X : Nat) : Int) := by omega
    simpa using this
theorem out_len {l : List (Int × Int)} {out : List Int} (h : Written l out) (h0 : writeErr l = 0) : out.length ≤ maxLen := by
  obtain ⟨hl, hok⟩ := writeErr_zero' h0
  obtain ⟨_, p, hp, heq⟩ := h.2 h0
  have h1 := congrArg List.length heq
  have h2 := fieldBits_le l hok
  simp [unpack_length] at h1
  unfold maxLen; omega
theorem elem_field : ElemOf Try.prog 65 69 2 16 :=
  .mk' (z := .agg #[.int .i64 0, .int .i64 0]) Try.underlying65 (by kernel_rfl) rfl (by omega)
end Go.Proofs.Ytbboakdfnjjddaa

/- table.Encode: its contract. -/
namespace Go.Proofs.Ytbboakdfnjjddaa
open Go.RowKit
set_option linter.unusedVariables false
set_option linter.unusedSimpArgs false
set_option maxRecDepth 100000

theorem info_field : (Try.prog.info? 69).map (fun i => (i.zero, i.size, i.bytes)) = some (some (.agg #[.int .i64 0, .int .i64 0]), 2, 16) := by kernel_rfl
theorem run_make_fields (n : Nat) (h : n ≤ 1099511627776) (u : World) : ∃ cur, (Instr.makeSlice 65 (.int .i64 0) (.int .i64 (n : Int))).run Try.prog u =
    .ok (.slice (some ⟨u.heap.size, 0, none⟩) 0 n) (u.alloc (.cells cur 69)) ∧ cur.size = n * 2 := by
  obtain ⟨i0, hi, hz0, hz1, hz2⟩ := info_parts info_field
  have h := run_make (P := Try.prog) u 65 69 i0 (.agg #[.int .i64 0, .int .i64 0]) Try.underlying65 hi hz0 .i64 .i64 0 n (by omega) (by omega) (by rw [hz2]; omega) (by omega)
  exact ⟨_, h, by simp [madeCells, hz1, Value.cells]⟩

/-- The fields of symbols. -/
def fieldsOf (ws : List (Int × Nat × Nat)) (xs : List Int) : List (Int × Int) := xs.map fun x => (symF ws x).getD (0, 0)
theorem fieldsOf_snoc {ws : List (Int × Nat × Nat)} {xs : List Int} {k : Nat} {x : Int} (h : xs[k]? = some x) : fieldsOf ws (xs.take (k + 1)) = fieldsOf ws (xs.take k) ++ [(symF ws x).getD (0, 0)] := by
  rw [take_snoc h]; simp [fieldsOf]
def AllIn (ws : List (Int × Nat × Nat)) (xs : List Int) : Prop := ∀ x ∈ xs, (symF ws x).isSome = true
instance (ws : List (Int × Nat × Nat)) (xs : List Int) : Decidable (AllIn ws xs) := by unfold AllIn; infer_instance
def encErr (cs syms xs : List Int) : Int := if checkErr cs syms = 0 then if 20000 < xs.length then 2 else if AllIn (outWords cs syms) xs then 0 else 5 else checkErr cs syms
/-- What Encode makes. -/
def Encd (cs syms xs out : List Int) : Prop := (encErr cs syms xs ≠ 0 → out = []) ∧ (encErr cs syms xs = 0 → Bytes out ∧ ∃ p, p < 8 ∧ unpack out = fieldBits (fieldsOf (outWords cs syms) xs) ++ List.replicate p true)
theorem encd_err {cs syms xs : List Int} (h : encErr cs syms xs ≠ 0) : Encd cs syms xs [] := ⟨fun _ => rfl, fun e => absurd e h⟩
theorem encErr_zero {cs syms xs : List Int} (h : encErr cs syms xs = 0) : checkErr cs syms = 0 ∧ xs.length ≤ 20000 ∧ AllIn (outWords cs syms) xs := by
  unfold encErr at h
  split at h
  · rename_i h1
    split at h
    · cases h
    · rename_i h2
      split at h
      · rename_i h3; exact ⟨h1, by omega, h3⟩
      · cases h
  · rename_i h1; exact absurd h h1
/-- Each word that a symbol has is one of the words. -/
theorem Fine.kr {cs syms : List Int} {l : List (Nat × Nat)} (h : Fine cs syms l) (hcs : cs.length = 16) : Kr 0 l := codes_kr (by rw [nats_length]; exact hcs) h.code
theorem Fine.word {cs syms : List Int} {l : List (Nat × Nat)} (h : Fine cs syms l) (hcs : cs.length = 16) {t : Int × Nat × Nat} (ht : t ∈ mkWords syms l) : (0 ≤ t.1 ∧ t.1 ≤ 255) ∧ (1 ≤ t.2.1 ∧ t.2.1 ≤ 16) ∧ t.2.2 + 1 < 2 ^ t.2.1 := by
  obtain ⟨i, h1, h2⟩ := mem_mkWords ht
  have hm := List.mem_of_getElem? h2
  have := (h.kr hcs).ge _ hm
  exact ⟨h.ok _ (List.mem_of_getElem? h1), ⟨this.1, this.2.1⟩, (h.kr hcs).small hm⟩
theorem fields_ok {cs syms xs : List Int} (hcs : cs.length = 16) (h : encErr cs syms xs = 0) : writeErr (fieldsOf (outWords cs syms) xs) = 0 := by
  obtain ⟨h1, h2, h3⟩ := encErr_zero h
  obtain ⟨l, hf, hw, _⟩ := fine_of h1
  unfold writeErr
  rw [if_neg (by simp [fieldsOf]; omega), if_pos]
  intro f hf2
  simp only [fieldsOf, List.mem_map] at hf2
  obtain ⟨x, hx, rfl⟩ := hf2
  obtain ⟨p, hp⟩ := Option.isSome_iff_exists.1 (h3 x hx)
  rw [hp]
  obtain ⟨t, ht, _, rfl⟩ := symF_mem hp
  rw [hw] at ht
  obtain ⟨_, h5, h6⟩ := hf.word hcs ht
  exact (okF_nat t.2.1 t.2.2).2 ⟨by omega, by omega⟩
theorem fi_small {cs syms : List Int} {l : List (Nat × Nat)} (h : Fine cs syms l) (hcs : cs.length = 16) {t : Int × Nat × Nat} (ht : t ∈ mkWords syms l) : WF t.1 ∧ WF (t.2.1 : Int) ∧ WF (t.2.2 : Int) := by
  obtain ⟨h1, h2, h3⟩ := h.word hcs ht
  have : 2 ^ t.2.1 ≤ 2 ^ 16 := Nat.pow_le_pow_right (by omega) h2.2
  exact ⟨wf_of (by omega), wf_of (by omega), wf_of (by omega)⟩

end Go.Proofs.Ytbboakdfnjjddaa

/- bits.number: so many bits from a place on. -/
namespace Go.Proofs.Ytbboakdfnjjddaa
open Go.RowKit
set_option linter.unusedVariables false
set_option linter.unusedSimpArgs false
set_option maxRecDepth 100000

theorem bitsN_at (w v i : Nat) (h : i < w) : (bitsN w v)[i]? = some (decide (v / 2 ^ (w - 1 - i) % 2 = 1)) := by
  induction w generalizing v with
  | zero => omega
  | succ w ih =>
    rw [bitsN]
    by_cases hi : i < w
    · rw [List.getElem?_append_left (by rw [bitsN_length]; exact hi), ih _ hi, Nat.div_div_eq_div_mul, ← Nat.pow_succ', show w + 1 - 1 - i = w - 1 - i + 1 by omega]
    · have : i = w := by omega
      subst this
      rw [List.getElem?_append_right (by rw [bitsN_length]; omega)]
      simp [bitsN_length]
theorem unpack_at : ∀ (bs : List Int) (j : Nat) (x : Int), bs[j / 8]? = some x → (unpack bs)[j]? = some (decide (x.toNat / 2 ^ (7 - j % 8) % 2 = 1))
  | [], j, x, h => by simp at h
  | y :: bs, j, x, h => by
    rw [unpack_cons]
    by_cases hj : j < 8
    · have e : j / 8 = 0 := by omega
      rw [e] at h
      simp at h
      subst h
      rw [List.getElem?_append_left (by rw [bitsN_length]; exact hj), bitsN_at 8 _ _ hj, show 8 - 1 - j = 7 - j % 8 by omega]
    · rw [List.getElem?_append_right (by rw [bitsN_length]; omega), bitsN_length]
      have e : j / 8 = (j - 8) / 8 + 1 := by omega
      rw [e, List.getElem?_cons_succ] at h
      rw [unpack_at bs (j - 8) x h, show (j - 8) % 8 = j % 8 by omega]
/-- The bits from 'at' on, so many. -/
def cutB (bs : List Int) (at_ n : Nat) : List Bool := ((unpack bs).drop at_).take n
theorem cutB_length (bs : List Int) (at_ n : Nat) (h : at_ + n ≤ 8 * bs.length) : (cutB bs at_ n).length = n := by
  simp [cutB, unpack_length]; omega
theorem cutB_snoc (bs : List Int) (at_ n : Nat) (x : Int) (h : bs[(at_ + n) / 8]? = some x) : cutB bs at_ (n + 1) = cutB bs at_ n ++ [decide (x.toNat / 2 ^ (7 - (at_ + n) % 8) % 2 = 1)] := by
  unfold cutB
  apply take_snoc
  rw [List.getElem?_drop]
  exact unpack_at bs _ x h

theorem bit_step (bs : List Int) (at_ n J : Nat) (x : Int) (hJ : at_ + n = J) (h : bs[J / 8]? = some x) (hx : 0 ≤ x ∧ x ≤ 255) (hn : n < 24) (hin : at_ + n ≤ 8 * bs.length) :
    bits BinOp.or IntKind.i64 (wrap64 ((valB (cutB bs at_ n) : Int) * 2)) (bits BinOp.and IntKind.i64 (wrap64 (x / 2 ^ (7 - J % 8))) 1) = (valB (cutB bs at_ (n + 1)) : Int) := by
  subst hJ
  rw [cutB_snoc bs at_ n x h, valB_snoc]
  have h1 := valB_lt (cutB bs at_ n)
  rw [cutB_length _ _ _ hin] at h1
  have h2 : 2 ^ n ≤ 2 ^ 24 := two_pow_lt _ _ (by omega)
  generalize valB (cutB bs at_ n) = V at *
  obtain ⟨X, rfl⟩ := Int.eq_ofNat_of_zero_le hx.1
  have e1 : (X : Int) / 2 ^ (7 - (at_ + n) % 8) = ((X / 2 ^ (7 - (at_ + n) % 8) : Nat) : Int) := by simp
  have h3 : X / 2 ^ (7 - (at_ + n) % 8) ≤ X := Nat.div_le_self _ _
  rw [e1, Int.toNat_natCast]
  generalize X / 2 ^ (7 - (at_ + n) % 8) = q at *
  rw [wrap64_nat q (by omega), show (1 : Int) = ((1 : Nat) : Int) from rfl, i64_and _ _ (by omega) (by omega), Nat.and_one_is_mod]
  have e2 : wrap64 ((V : Int) * 2) = ((V * 2 ^ 1 : Nat) : Int) := by
    rw [show (V : Int) * 2 = ((V * 2 : Nat) : Int) by simp]; exact wrap64_nat _ (by omega)
  rw [e2, i64_or _ _ (by omega) (by omega), nat_or_low _ 1 _ (by omega)]
  rcases Nat.mod_two_eq_zero_or_one q with hq | hq <;> simp [hq] <;> omega
set_option maxHeartbeats 1000000 in
theorem number_any (A : Option Addr) (c G : Nat) (bs : List Int) (at_ wd : Nat) (w : World) (hb : Seen w G A (ints .u8 bs)) (hby : Bytes bs) (h : at_ + wd ≤ 8 * bs.length) (hwd : wd ≤ 24) (hl : bs.length ≤ 1152921504606846975) :
    Calls Try.prog 104 #[.slice A bs.length c, .int .i64 at_, .int .i64 wd] w fun e w' => e = .returned (.int .i64 (valB (cutB bs at_ wd))) ∧ w = w' := by
  go_enter Try.func104, Try.ntmps104
  go_wp2_with fail
  go_loopg [7, 8, 9] wd (fun gk n i b wr => ∃ k : Nat, gk = wd - k ∧ k ≤ wd ∧ i = .int .i64 (at_ + k : Nat) ∧ n = .int .i64 (valB (cutB bs at_ k)) ∧ w = wr)
  case atStart => exact ⟨0, rfl, Nat.zero_le _, rfl, rfl, rfl⟩
  case round =>
    obtain ⟨k, rfl, hk, rfl, rfl, rfl⟩ := hrel
    by_cases hlt : k < wd
    · obtain ⟨g, o, x, rfl, _, hx, h1⟩ := hb.int (k := (at_ + k) / 8) (by omega)
      have hxb := hby x (List.mem_of_getElem? hx)
      have Hx := veil hx
      clear hx
      generalize HJ : at_ + k = J at *
      have HJ := veil HJ
      go_wp2_with fail
      go_roundg (wd - (k + 1))
      case rel => exact ⟨k + 1, rfl, by omega, by rw [← HJ.out]; go_num, congrArg (Value.int .i64) (bit_step _ _ _ _ _ HJ.out Hx.out hxb (by omega) (by omega)), rfl⟩
      case measure => omega
    · obtain rfl : k = wd := by omega
      go_wp2
      go_ret
      exact ⟨rfl, rfl⟩
end Go.Proofs.Ytbboakdfnjjddaa

/- Words of which none begins another one: which of them begins a row of bits. -/
namespace Go.Proofs.Ytbboakdfnjjddaa
open Go.RowKit
set_option linter.unusedVariables false
set_option linter.unusedSimpArgs false
set_option maxRecDepth 100000

structure PF (ws : List (Int × Nat × Nat)) : Prop where
  small : ∀ t ∈ ws, (1 ≤ t.2.1 ∧ t.2.1 ≤ 16) ∧ t.2.2 < 2 ^ t.2.1
  uniq : ∀ t ∈ ws, ∀ u ∈ ws, ∀ b, bitsN t.2.1 t.2.2 <+: b → bitsN u.2.1 u.2.2 <+: b → t = u
theorem Fine.pf {cs syms : List Int} {l : List (Nat × Nat)} (h : Fine cs syms l) (hcs : cs.length = 16) : PF (mkWords syms l) where
  small t ht := by have := h.word hcs ht; exact ⟨this.2.1, by omega⟩
  uniq t ht u hu b h1 h2 := by
    obtain ⟨i, hi1, hi2⟩ := mem_mkWords ht
    obtain ⟨k, hk1, hk2⟩ := mem_mkWords hu
    obtain rfl := (h.kr hcs).bits hi2 hk2 h1 h2
    rw [hi1] at hk1
    rw [hi2] at hk2
    injection hk1 with e1
    injection hk2 with e2
    exact Prod.ext e1 e2
def begins (t : Int × Nat × Nat) (b : List Bool) : Bool := (bitsN t.2.1 t.2.2).isPrefixOf b
theorem begins_iff (t : Int × Nat × Nat) (b : List Bool) : begins t b = true ↔ bitsN t.2.1 t.2.2 <+: b := List.isPrefixOf_iff_prefix
/-- The word at the front of a row of bits: its symbol and its length. -/
def find1 (ws : List (Int × Nat × Nat)) (b : List Bool) : Option (Int × Nat) := (ws.find? (begins · b)).map fun t => (t.1, t.2.1)
theorem PF.find {ws : List (Int × Nat × Nat)} (h : PF ws) {t : Int × Nat × Nat} (ht : t ∈ ws) {b : List Bool} (hb : bitsN t.2.1 t.2.2 <+: b) : find1 ws b = some (t.1, t.2.1) := by
  unfold find1
  cases hq : ws.find? (begins · b) with
  | none => exact absurd ((begins_iff t b).2 hb) (by simpa using List.find?_eq_none.1 hq t ht)
  | some u =>
    have h1 := List.find?_some hq
    have h2 := List.mem_of_find?_eq_some hq
    rw [h.uniq u h2 t ht b ((begins_iff u b).1 h1) hb]
    rfl
theorem find1_mem {ws : List (Int × Nat × Nat)} {b : List Bool} {s : Int} {n : Nat} (h : find1 ws b = some (s, n)) : ∃ t ∈ ws, t.1 = s ∧ t.2.1 = n ∧ bitsN t.2.1 t.2.2 <+: b := by
  unfold find1 at h
  cases hq : ws.find? (begins · b) with
  | none => simp [hq] at h
  | some u =>
    simp [hq] at h
    have h1 := List.find?_some hq
    exact ⟨u, List.mem_of_find?_eq_some hq, h.1, h.2, (begins_iff u b).1 h1⟩
theorem codeF_mem {ws : List (Int × Nat × Nat)} {x : Int} {p : Int × Int} (h : codeF ws p = some x) : ∃ t ∈ ws, fi t = p ∧ t.1 = x := by
  induction ws using snoc_ind with
  | h0 => simp [codeF] at h
  | h1 ws t ih =>
    rw [codeF_snoc] at h
    unfold upd at h
    by_cases e : p = fi t
    · rw [if_pos e] at h; injection h with h; exact ⟨t, by simp, e.symm, h⟩
    · rw [if_neg e] at h
      obtain ⟨u, hu, h2⟩ := ih h
      exact ⟨u, by simp [hu], h2⟩
theorem codeF_some {ws : List (Int × Nat × Nat)} {t : Int × Nat × Nat} (h : t ∈ ws) : (codeF ws (fi t)).isSome = true := by
  induction ws using snoc_ind with
  | h0 => simp at h
  | h1 ws u ih =>
    rw [codeF_snoc]
    unfold upd
    by_cases e : fi t = fi u
    · rw [if_pos e]; rfl
    · rw [if_neg e]
      rcases List.mem_append.1 h with h | h
      · exact ih h
      · simp at h; subst h; exact absurd rfl e
/-- A hit. -/
theorem PF.hit {ws : List (Int × Nat × Nat)} (h : PF ws) {b : List Bool} {k : Nat} (hk : k ≤ b.length) {s : Int} (hc : codeF ws ((k : Int), (valB (b.take k) : Int)) = some s) : find1 ws b = some (s, k) := by
  obtain ⟨t, ht, e1, e2⟩ := codeF_mem hc
  simp only [fi, Prod.mk.injEq] at e1
  have h1 : t.2.1 = k := by omega
  have h2 : t.2.2 = valB (b.take k) := by omega
  have h3 : bitsN t.2.1 t.2.2 <+: b := by
    rw [h1, h2]
    have := bitsN_valB (b.take k)
    rw [List.length_take, Nat.min_eq_left hk] at this
    rw [this]
    exact List.take_prefix _ _
  rw [h.find ht h3, e2, h1]
/-- No hit at all. -/
theorem PF.miss {ws : List (Int × Nat × Nat)} (h : PF ws) {b : List Bool} {k : Nat} (hk : k = 16 ∨ b.length ≤ k) (hc : ∀ j : Nat, 1 ≤ j → j ≤ k → codeF ws ((j : Int), (valB (b.take j) : Int)) = none) : find1 ws b = none := by
  cases hq : find1 ws b with
  | none => rfl
  | some p =>
    obtain ⟨s, n⟩ := p
    obtain ⟨t, ht, e1, e2, h1⟩ := find1_mem hq
    obtain ⟨h2, h3⟩ := h.small t ht
    have h4 := h1.length_le
    rw [bitsN_length] at h4
    have h5 := List.prefix_iff_eq_take.1 h1
    rw [bitsN_length] at h5
    have h6 : valB (b.take t.2.1) = t.2.2 := by rw [← h5]; exact valB_bitsN _ _ h3
    have h7 := hc t.2.1 h2.1 (by omega)
    rw [h6] at h7
    have h8 := codeF_some ht
    rw [show fi t = ((t.2.1 : Int), (t.2.2 : Int)) from rfl, h7] at h8
    cases h8
/-- What next answers. -/
def nextS (ws : List (Int × Nat × Nat)) (b : List Bool) : Int := ((find1 ws b).map (·.1)).getD 0
def nextL (ws : List (Int × Nat × Nat)) (b : List Bool) : Nat := ((find1 ws b).map (·.2)).getD 0
def nextE (ws : List (Int × Nat × Nat)) (b : List Bool) : Int := if (find1 ws b).isSome = true then 0 else if b.length < 16 then 3 else 4
end Go.Proofs.Ytbboakdfnjjddaa

/- table.next: its contract. -/
namespace Go.Proofs.Ytbboakdfnjjddaa
open Go.RowKit
set_option linter.unusedVariables false
set_option linter.unusedSimpArgs false
set_option maxRecDepth 100000

end Go.Proofs.Ytbboakdfnjjddaa

/- Blocks as bits and back, in numbers: the tokens of a list of blocks, their bits, a source of tokens out of bits. No program is named here. -/
namespace Go.Proofs.Ytbboakdfnjjddaa
set_option linter.unusedVariables false
set_option linter.unusedSimpArgs false
set_option maxRecDepth 100000

/-- The tokens of one block; true at the first one. -/
def flagT : List (Int × Int × Int) → List (Bool × Int × Int × Int)
  | [] => []
  | t :: l => (true, t) :: l.map fun x => (false, x)
/-- The tokens of blocks. -/
def toksB : Int → List (List Int) → List (Bool × Int × Int × Int)
  | _, [] => []
  | b, r :: L => flagT (toksZ b (toL r)) ++ toksB (r.headD 0) L
theorem flagT_length : ∀ l : List (Int × Int × Int), (flagT l).length = l.length
  | [] => rfl
  | t :: l => by simp [flagT]
theorem flagT_take : ∀ (l : List (Int × Int × Int)) (k : Nat), (flagT l).take k = flagT (l.take k)
  | [], k => by simp [flagT]
  | t :: l, 0 => by simp [flagT]
  | t :: l, k + 1 => by simp [flagT, List.map_take]
theorem flagT_at {l : List (Int × Int × Int)} {k : Nat} {t : Int × Int × Int} (h : l[k]? = some t) : (flagT l)[k]? = some (decide (k = 0), t) := by
  cases l with
  | nil => simp at h
  | cons x l =>
    cases k with
    | zero => simp at h; subst h; rfl
    | succ k =>
      simp only [List.getElem?_cons_succ] at h
      simp [flagT, h]
/-- The number 0 ahead of block k. -/
def ahead (L : List (List Int)) (k : Nat) : Int := if k = 0 then 0 else ((L.getD (k - 1) []).headD 0)
theorem toksB_snoc : ∀ (L : List (List Int)) (b : Int) (r : List Int), toksB b (L ++ [r]) = toksB b L ++ flagT (toksZ (if L = [] then b else (L.getLastD []).headD 0) (toL r))
  | [], b, r => by simp [toksB]
  | s :: L, b, r => by
    rw [List.cons_append, toksB, toksB_snoc L, toksB, List.append_assoc]
    congr 2
    cases L with
    | nil => simp
    | cons x L => simp
theorem toksB_next {L : List (List Int)} {k : Nat} {r : List Int} (h : L[k]? = some r) : toksB 0 (L.take (k + 1)) = toksB 0 (L.take k) ++ flagT (toksZ (ahead L k) (toL r)) := by
  rw [take_snoc h, toksB_snoc]
  congr 3
  unfold ahead
  have hk := (List.getElem?_eq_some_iff.1 h).1
  by_cases h0 : k = 0
  · subst h0; simp
  · rw [if_neg h0, if_neg (by intro e; have := congrArg List.length e; rw [List.length_take, List.length_nil] at this; omega)]
    have e : L.take k = L.take (k - 1) ++ [L.getD (k - 1) []] := by
      obtain ⟨x, hx⟩ := some_at (xs := L) (j := k - 1) (by omega)
      have := take_snoc hx
      rw [show k - 1 + 1 = k by omega] at this
      rw [this]; simp [hx]
    rw [e]; simp
theorem ahead_next {L : List (List Int)} {k : Nat} {r : List Int} (h : L[k]? = some r) : ahead L (k + 1) = r.headD 0 := by
  unfold ahead
  rw [if_neg (by omega)]; simp [h]
/-- The words for a token, by where it stands. -/
def wsOf (fw rw_ : List (Int × Nat × Nat)) (first : Bool) : List (Int × Nat × Nat) := if first = true then fw else rw_
/-- The bits of a token. -/
def tokBits (ws : List (Int × Nat × Nat)) (t : Int × Int × Int) : List Bool := symBits ws t.1 ++ bitsN t.2.1.toNat t.2.2.toNat
def segBits (fw rw_ : List (Int × Nat × Nat)) (l : List (Bool × Int × Int × Int)) : List Bool := l.flatMap fun x => tokBits (wsOf fw rw_ x.1) x.2
theorem segBits_append (fw rw_ : List (Int × Nat × Nat)) (a b : List (Bool × Int × Int × Int)) : segBits fw rw_ (a ++ b) = segBits fw rw_ a ++ segBits fw rw_ b := by simp [segBits]
theorem segBits_one (fw rw_ : List (Int × Nat × Nat)) (x : Bool × Int × Int × Int) : segBits fw rw_ [x] = tokBits (wsOf fw rw_ x.1) x.2 := by simp [segBits]
/-- Has each token a word? -/
def AllW (fw rw_ : List (Int × Nat × Nat)) (l : List (Bool × Int × Int × Int)) : Prop := ∀ x ∈ l, (symF (wsOf fw rw_ x.1) x.2.1).isSome = true
instance (fw rw_ : List (Int × Nat × Nat)) (l : List (Bool × Int × Int × Int)) : Decidable (AllW fw rw_ l) := by unfold AllW; infer_instance
theorem AllW.append {fw rw_ : List (Int × Nat × Nat)} {a b : List (Bool × Int × Int × Int)} (h1 : AllW fw rw_ a) (h2 : AllW fw rw_ b) : AllW fw rw_ (a ++ b) := fun x hx => by
  rcases List.mem_append.1 hx with h | h
  · exact h1 x h
  · exact h2 x h
/-- A token out of bits: an error, or the token and what is left. -/
def widS (first : Bool) (s : Int) : Int := if first = true then s else s % 16
def stepS (fw rw_ : List (Int × Nat × Nat)) (first : Bool) (b : List Bool) : Int ⊕ ((Int × Int × Int) × List Bool) :=
  if nextE (wsOf fw rw_ first) b ≠ 0 then .inl (nextE (wsOf fw rw_ first) b)
  else if 12 < widS first (nextS (wsOf fw rw_ first) b) ∨ (first = false ∧ 11 < widS first (nextS (wsOf fw rw_ first) b)) then .inl 4
  else if (b.drop (nextL (wsOf fw rw_ first) b)).length < (widS first (nextS (wsOf fw rw_ first) b)).toNat then .inl 3
  else .inr ((nextS (wsOf fw rw_ first) b, widS first (nextS (wsOf fw rw_ first) b), (valB ((b.drop (nextL (wsOf fw rw_ first) b)).take (widS first (nextS (wsOf fw rw_ first) b)).toNat) : Int)), (b.drop (nextL (wsOf fw rw_ first) b)).drop (widS first (nextS (wsOf fw rw_ first) b)).toNat)
theorem stepS_ne {fw rw_ : List (Int × Nat × Nat)} {first : Bool} {b : List Bool} {e : Int} (h : stepS fw rw_ first b = .inl e) : e ≠ 0 := by
  unfold stepS at h
  split at h
  · injection h with h; rename_i h1; rw [← h]; exact h1
  · split at h
    · injection h with h; omega
    · split at h
      · injection h with h; omega
      · cases h
/-- What a block's reader answers in numbers. -/
def outBk {σ : Type} (D : Int × List Int × List (Int × Int × Int) × Option σ) : List Int := if D.1 = 0 then fromL D.2.1 else zero64
/-- Blocks out of bits: an error, the blocks, what is left. -/
def decS (fw rw_ : List (Int × Nat × Nat)) : Nat → Int → List Bool → Int × List (List Int) × List Bool
  | 0, _, b => (0, [], b)
  | n + 1, before, b =>
    if (gB (stepS fw rw_) before b).1 = 0 then
      let x := fromL (gB (stepS fw rw_) before b).2.1
      let q := decS fw rw_ n (x.headD 0) ((gB (stepS fw rw_) before b).2.2.2.getD [])
      if q.1 = 0 then (0, x :: q.2.1, q.2.2) else (q.1, [], [])
    else ((gB (stepS fw rw_) before b).1, [], [])
/-- No more than fill is left. -/
def fillB (b : List Bool) : Bool := decide (b.length < 8) && b.all id
/-- Errors. -/
def eEnc (cs syms cs2 syms2 : List Int) (L : List (List Int)) : Int :=
  if checkErr cs syms ≠ 0 then checkErr cs syms else if checkErr cs2 syms2 ≠ 0 then checkErr cs2 syms2
  else if eL L ≠ 0 then eL L else if AllW (outWords cs syms) (outWords cs2 syms2) (toksB 0 L) then 0 else 5
end Go.Proofs.Ytbboakdfnjjddaa

/- What the tokens of blocks are like. No program is named here. -/
namespace Go.Proofs.Ytbboakdfnjjddaa
set_option linter.unusedVariables false
set_option linter.unusedSimpArgs false
set_option maxRecDepth 100000

/-- A token that a block may tell. -/
def goodT (t : Int × Int × Int) : Prop := fitT t = true ∧ 0 ≤ t.1 ∧ t.1 ≤ 255
theorem goodT_fit {t : Int × Int × Int} (h : goodT t) : (0 ≤ t.2.1 ∧ t.2.1 ≤ 12) ∧ 0 ≤ t.2.2 ∧ t.2.2 < pw t.2.1.toNat := by
  have h2 := h.1
  unfold fitT at h2
  have h3 := of_decide_eq_true h2
  exact ⟨⟨h3.1, h3.2.1⟩, h3.2.2.1, h3.2.2.2⟩
theorem rest_good : ∀ (zs : List Int) (r : Nat), (∀ z ∈ zs, -2047 ≤ z ∧ z ≤ 2047) → ∀ t ∈ restT r zs, goodT t
  | [], r, _, t, ht => by
    rw [restT_nil] at ht
    split at ht
    · simp at ht
    · rw [List.mem_singleton.1 ht]; exact ⟨by decide, by decide, by decide⟩
  | z :: zs, r, h, t, ht => by
    have hzs : ∀ z ∈ zs, -2047 ≤ z ∧ z ≤ 2047 := fun x hx => h x (List.mem_cons_of_mem _ hx)
    have hz := h z List.mem_cons_self
    by_cases h0 : z = 0
    · subst h0
      rw [restT_zero] at ht
      exact rest_good zs (r + 1) hzs t ht
    · rw [restT_cons r zs h0] at ht
      rcases List.mem_append.1 ht with ht | ht
      · rw [(List.mem_replicate.1 ht).2]; exact ⟨by decide, by decide, by decide⟩
      · rcases List.mem_cons.1 ht with rfl | ht
        · have := sz_11 hz.1 hz.2
          refine ⟨tkN_fit (by omega) (by omega), ?_, ?_⟩ <;> (unfold tkN; simp only []; omega)
        · exact rest_good zs 0 hzs t ht
theorem toks_good {b : Int} {zs : List Int} (hb : -2047 ≤ b ∧ b ≤ 2047) (h : ∀ z ∈ zs, -2047 ≤ z ∧ z ≤ 2047) : ∀ t ∈ toksZ b zs, goodT t := by
  intro t ht
  match zs, h, ht with
  | z :: zs, h, ht =>
    rw [toksZ] at ht
    have hz := h z List.mem_cons_self
    rcases List.mem_cons.1 ht with rfl | ht
    · have := sz_12 (n := z - b) (by omega) (by omega)
      refine ⟨tkN_fit (by omega) (by omega), ?_, ?_⟩ <;> (unfold tkN; simp only []; omega)
    · exact rest_good zs 0 (fun x hx => h x (List.mem_cons_of_mem _ hx)) t ht
theorem toksB_len : ∀ (L : List (List Int)) (b : Int), (toksB b L).length ≤ 64 * L.length
  | [], b => by simp [toksB]
  | r :: L, b => by
    have h1 := toksB_len L (r.headD 0)
    have h2 := toks_len b (toL_length r)
    simp only [toksB, List.length_append, flagT_length, List.length_cons]
    omega
theorem ahead_in {L : List (List Int)} {k : Nat} (hl : ∀ r ∈ L, r.length = 64) (h : ∀ r ∈ L.take k, inB (-2047) 2047 r = true) (hk : k ≤ L.length) : -2047 ≤ ahead L k ∧ ahead L k ≤ 2047 := by
  unfold ahead
  by_cases h0 : k = 0
  · rw [if_pos h0]; omega
  · rw [if_neg h0]
    obtain ⟨r, hr⟩ := some_at (xs := L) (j := k - 1) (by omega)
    have hm : r ∈ L.take k := by
      refine List.mem_of_getElem? (i := k - 1) ?_
      rw [List.getElem?_take, if_pos (by omega)]; exact hr
    have h2 := inB_mem.1 (h r hm)
    have h3 := hl r (List.mem_of_getElem? hr)
    rw [List.getD_eq_getElem?_getD, hr]
    match r, h3, h2 with
    | z :: r, _, h2 => exact h2 z List.mem_cons_self
end Go.Proofs.Ytbboakdfnjjddaa

/- Tokens in memory: structs of three integers in a row. -/
namespace Go.Proofs.Ytbboakdfnjjddaa
open Go.RowKit
set_option linter.unusedVariables false
set_option linter.unusedSimpArgs false
set_option maxRecDepth 100000

def tokC (f : Int × Int × Int) : List Value := [.int .i64 f.1, .int .i64 f.2.1, .int .i64 f.2.2]
def tokCells (l : List (Int × Int × Int)) : List Value := l.flatMap tokC
theorem tokCells_nil : tokCells [] = [] := rfl
theorem tokCells_length (l : List (Int × Int × Int)) : (tokCells l).length = l.length * 3 := by
  induction l with
  | nil => rfl
  | cons f l ih => simp [tokCells, tokC] at ih ⊢; omega
theorem tokCells_append (l m : List (Int × Int × Int)) : tokCells (l ++ m) = tokCells l ++ tokCells m := by simp [tokCells]
theorem tokCells_one {l : List (Int × Int × Int)} : ∀ u ∈ tokCells l, u.oneCell' = true := by
  intro u hu
  simp only [tokCells, List.mem_flatMap] at hu
  obtain ⟨f, _, hu⟩ := hu
  simp [tokC] at hu
  rcases hu with rfl | rfl | rfl <;> rfl
theorem tokCells_at : ∀ (l : List (Int × Int × Int)) (k : Nat) (f : Int × Int × Int), l[k]? = some f → (tokCells l)[k * 3]? = some (.int .i64 f.1) ∧ (tokCells l)[k * 3 + 1]? = some (.int .i64 f.2.1) ∧ (tokCells l)[k * 3 + 2]? = some (.int .i64 f.2.2)
  | [], k, f, h => by simp at h
  | g :: l, 0, f, h => by simp at h; subst h; simp [tokCells, tokC]
  | g :: l, k + 1, f, h => by
    rw [List.getElem?_cons_succ] at h
    have e : ∀ j, (tokCells (g :: l))[j + 3]? = (tokCells l)[j]? := by intro j; simp [tokCells, tokC]
    have := tokCells_at l k f h
    refine ⟨?_, ?_, ?_⟩
    · rw [show (k + 1) * 3 = k * 3 + 3 by omega, e]; exact this.1
    · rw [show (k + 1) * 3 + 1 = k * 3 + 1 + 3 by omega, e]; exact this.2.1
    · rw [show (k + 1) * 3 + 2 = k * 3 + 2 + 3 by omega, e]; exact this.2.2
theorem tokCells_take (l : List (Int × Int × Int)) (k : Nat) : tokCells (l.take k) = (tokCells l).take (k * 3) := by
  by_cases h : k ≤ l.length
  · have e : tokCells l = tokCells (l.take k) ++ tokCells (l.drop k) := by rw [← tokCells_append, List.take_append_drop]
    have e2 : k * 3 = (tokCells (l.take k)).length := by rw [tokCells_length, List.length_take]; omega
    rw [e, e2, List.take_left]
  · rw [List.take_of_length_le (by omega), List.take_of_length_le (by rw [tokCells_length]; omega)]
theorem tokCells_drop (l : List (Int × Int × Int)) (k : Nat) : tokCells (l.drop k) = (tokCells l).drop (k * 3) := by
  by_cases h : k ≤ l.length
  · have e : tokCells l = tokCells (l.take k) ++ tokCells (l.drop k) := by rw [← tokCells_append, List.take_append_drop]
    have e2 : k * 3 = (tokCells (l.take k)).length := by rw [tokCells_length, List.length_take]; omega
    rw [e, e2, List.drop_left]
  · rw [List.drop_of_length_le (by omega), List.drop_of_length_le (by rw [tokCells_length]; omega)]; rfl
/-- One token of a row that is seen, with its three cells. -/
theorem Seen.tok {w : World} {B : Nat} {A : Option Addr} {l : List (Int × Int × Int)} (h : Seen w B A (tokCells l)) {k : Nat} (hk : k < l.length) :
    ∃ g o s n c, A = some ⟨g, o, none⟩ ∧ g < B ∧ l[k]? = some (s, n, c) ∧ w.cell? ⟨g, o + k * 3, none⟩ = some (.int .i64 s) ∧ w.cell? ⟨g, o + k * 3 + 1, none⟩ = some (.int .i64 n) ∧ w.cell? ⟨g, o + k * 3 + 2, none⟩ = some (.int .i64 c) := by
  obtain ⟨g, o, e, hg, hc⟩ := h.at (by rw [tokCells_length]; omega)
  obtain ⟨⟨s, n, c⟩, hx⟩ := some_at hk
  obtain ⟨h1, h2, h3⟩ := tokCells_at l k _ hx
  exact ⟨g, o, s, n, c, e, hg, hx, hc _ _ h1, by have := hc _ _ h2; rw [Nat.add_assoc]; exact this, by have := hc _ _ h3; rw [Nat.add_assoc]; exact this⟩
theorem elem_tok : ElemOf Try.prog 59 56 3 24 := .mk' (z := .agg #[.int .i64 0, .int .i64 0, .int .i64 0]) Try.underlying59 (by kernel_rfl) rfl (by omega)
abbrev tokRow (v : Value) (l : List (Int × Int × Int)) : Row := ⟨56, 3, v, l.length, tokCells l⟩
theorem tokRow_append (v : Value) (l m : List (Int × Int × Int)) : (⟨56, 3, v, l.length + m.length, tokCells l ++ tokCells m⟩ : Row) = tokRow v (l ++ m) := by simp [tokRow, tokCells_append]
/-- In a walk: append of one token just laid onto the first of the rows. -/
theorem wpList_ownK {ops : Array Oper} {rest : List Oper} {o : Oper} {a : Act} {Q : Exit → Act → World → Prop} (w0 : World) (hgd : Region.wanted o (yielded ops a.tmps) = true) (s x : Operand)
    (ho : o.op = .call { callee := .builtin .append, args := #[s, x], argTypes := #[59, 59] })
    (B : Nat) (v : Value) (l : List (Int × Int × Int)) (rs : List Row) (hs : a.eval s = v) (HO : Owns B (tokRow v l :: rs) w0) (f0 f1 f2 : Int) (hx : a.eval x = .slice (some ⟨w0.heap.size, 0, none⟩) 1 1)
    (h63 : l.length + 1 ≤ 1099511627776)
    (h : ∀ v' w', Owns B (tokRow v' (l ++ [(f0, f1, f2)]) :: rs) w' → Below B w0 w' → w0.heap.size < w'.heap.size → wpList Try.prog ops Q rest (a.put o.dst v') w') : wpList Try.prog ops Q (o :: rest) a (w0.alloc (.cells #[.int .i64 f0, .int .i64 f1, .int .i64 f2] 56)) := by
  refine wpList_ownV _ hgd s x _ ho B 56 3 24 elem_tok v l.length (tokCells l) rs hs (HO.alloc _) (w0.heap.size + 1) _ 1 1 (tokCells [(f0, f1, f2)]) hx (Seen.new w0 (tokCells [(f0, f1, f2)]) _ _ (Nat.lt_succ_self _)) (by rw [tokCells_length]; rfl) tokCells_one (by unfold maxLen; omega) (by omega) ?_
  intro v' w' h2 h3
  have := h3.size
  refine h v' w' ?_ (((Below.refl _ _).alloc HO.base _).trans h3) (by simp at this; omega)
  rw [← tokRow_append]
  exact h2
/-- The same, the new block's number written out. -/
theorem wpList_ownKn {ops : Array Oper} {rest : List Oper} {o : Oper} {a : Act} {Q : Exit → Act → World → Prop} (w0 : World) (n : Nat) (hn : w0.heap.size = n) (hgd : Region.wanted o (yielded ops a.tmps) = true) (s x : Operand)
    (ho : o.op = .call { callee := .builtin .append, args := #[s, x], argTypes := #[59, 59] })
    (B : Nat) (v : Value) (l : List (Int × Int × Int)) (rs : List Row) (hs : a.eval s = v) (HO : Owns B (tokRow v l :: rs) w0) (f0 f1 f2 : Int) (hx : a.eval x = .slice (some ⟨n, 0, none⟩) 1 1)
    (h63 : l.length + 1 ≤ 1099511627776)
    (h : ∀ v' w', Owns B (tokRow v' (l ++ [(f0, f1, f2)]) :: rs) w' → Below B w0 w' → w0.heap.size < w'.heap.size → wpList Try.prog ops Q rest (a.put o.dst v') w') : wpList Try.prog ops Q (o :: rest) a (w0.alloc (.cells #[.int .i64 f0, .int .i64 f1, .int .i64 f2] 56)) := by
  subst hn
  exact wpList_ownK w0 hgd s x ho B v l rs hs HO f0 f1 f2 hx h63 h
theorem neq_tok (a b c a' b' c' : Int) (w : World) : (binOp .neq 56 (.agg #[.int .i64 a, .int .i64 b, .int .i64 c]) (.agg #[.int .i64 a', .int .i64 b', .int .i64 c'])).run Try.prog w = .ok (.bool (!(a == a' && (b == b' && c == c')))) w := by
  have h1 : Try.prog.underlying 56 = some (.struct (Try.prog.fieldsOf 56)) := by kernel_rfl
  have h2 : Try.prog.stoodInHeld 56 = false := by kernel_rfl
  have h3 : (Try.prog.fieldsOf 56).toList = [⟨ "Sym", 3, 0, false, "", "", 0⟩, ⟨ "Width", 3, 1, false, "", "", 8⟩, ⟨ "Value", 3, 2, false, "", "", 16⟩] := by kernel_rfl
  have ha : ∀ w, (isAgg 3).run Try.prog w = .ok false w := fun w => by kernel_rfl
  have he := fun d w x y => run_equalIn_int (P := Try.prog) w d 3 .i64 .i64 x y Try.underlying3
  rw [run_neq_struct, run_equalIn_agg (P := Try.prog) w 9999 _ _ _ h1 h2, h3]
  by_cases e1 : a = a' <;> by_cases e2 : b = b' <;> by_cases e3 : c = c' <;> simp [Op.eqFields, part, ha, he 9998, e1, e2, e3, Result.andThen]
theorem eql_tok (a b c a' b' c' : Int) (w : World) : (binOp .eql 56 (.agg #[.int .i64 a, .int .i64 b, .int .i64 c]) (.agg #[.int .i64 a', .int .i64 b', .int .i64 c'])).run Try.prog w = .ok (.bool (a == a' && (b == b' && c == c'))) w := by
  have h1 : Try.prog.underlying 56 = some (.struct (Try.prog.fieldsOf 56)) := by kernel_rfl
  have h2 : Try.prog.stoodInHeld 56 = false := by kernel_rfl
  have h3 : (Try.prog.fieldsOf 56).toList = [⟨ "Sym", 3, 0, false, "", "", 0⟩, ⟨ "Width", 3, 1, false, "", "", 8⟩, ⟨ "Value", 3, 2, false, "", "", 16⟩] := by kernel_rfl
  have ha : ∀ w, (isAgg 3).run Try.prog w = .ok false w := fun w => by kernel_rfl
  have he := fun d w x y => run_equalIn_int (P := Try.prog) w d 3 .i64 .i64 x y Try.underlying3
  rw [run_eql_struct, run_equalIn_agg (P := Try.prog) w 9999 _ _ _ h1 h2, h3]
  by_cases e1 : a = a' <;> by_cases e2 : b = b' <;> by_cases e3 : c = c' <;> simp [Op.eqFields, part, ha, he 9998, e1, e2, e3, Result.andThen]
end Go.Proofs.Ytbboakdfnjjddaa
