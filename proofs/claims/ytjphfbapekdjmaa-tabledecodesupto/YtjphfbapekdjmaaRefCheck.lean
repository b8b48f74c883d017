/- The reference's check of a table: the same contract as Check's. -/
import Derived.Test.YtjphfbapekdjmaaRefWords
import Derived.Test.YtjphfbapekdjmaaHasInt
namespace Go.Proofs.Ytjphfbapekdjmaa
open Go.RowKit
set_option linter.unusedVariables false
set_option linter.unusedSimpArgs false
set_option maxRecDepth 100000

theorem run_take_ints (A : Option Addr) (n c h : Nat) (h2 : h ≤ c) (u : World) : (Instr.sliceAt 23 (.slice A n c) none (some (.int .i64 (h : Int))) none).run Try.prog u = .ok (.slice A h c) u := by
  have he : Try.prog.underlying 23 = some (.slice (Try.prog.elem 23)) := by kernel_rfl
  have hz : (sizeOf (Try.prog.elem 23)).run Try.prog u = .ok 1 u := by kernel_rfl
  rw [run_sliceAt_slice _ _ _ _ _ _ he, run_slice_h _ _ _ _ _ he _ _ (by omega) (by omega), hz]
  cases A <;> simp [Result.andThen, sliced, Addr.add]
theorem notGood_sum {cs : List Int} {n k : Nat} (h0 : ∀ x ∈ cs.take k, 0 ≤ x) (h : 256 < sumW (cs.take k)) : ¬ Good cs n := by
  rintro ⟨h1, h2, h3⟩
  have e : sumW cs = sumW (cs.take k) + sumW (cs.drop k) := by
    conv => lhs; rw [← List.take_append_drop k cs, sumW_app]
  have h5 := sumW_pos (cs.drop k) fun y hy => h1 y (List.mem_of_mem_drop hy)
  omega
theorem dup_snoc {syms : List Int} {k : Nat} {x : Int} (hx : syms[k]? = some x) (h : (syms.take k).Nodup) (hn : x ∉ syms.take k) : (syms.take (k + 1)).Nodup := by
  rw [take_snoc hx, List.nodup_append]
  refine ⟨h, by simp, fun a ha b hb => ?_⟩
  simp at hb
  subst hb
  intro e
  subst e
  exact hn ha
theorem dup_stop {syms : List Int} {k : Nat} {x : Int} (hx : syms[k]? = some x) (hn : x ∈ syms.take k) : ¬ syms.Nodup := by
  intro h
  have e : syms = syms.take (k + 1) ++ syms.drop (k + 1) := (List.take_append_drop _ _).symm
  rw [e, List.nodup_append, take_snoc hx, List.nodup_append] at h
  exact h.1.2.2 x hn x (by simp) rfl

set_option maxRecDepth 100000 in
set_option maxHeartbeats 2000000 in
theorem refCheck_any (cs syms : List Int) (A : Option Addr) (c G : Nat) (w : World) (hcs : cs.length = 16) (hn : syms.length ≤ maxLen) (hcap : syms.length ≤ c) (hb : ∀ x ∈ cs, -9223372036854775808 ≤ x ∧ x ≤ 9223372036854775807) (hs : Seen w G A (ints .i64 syms)) (hG : G ≤ w.heap.size) :
    Calls Try.prog 22 #[tabV cs A syms.length c] w fun e w' => e = .returned (.int .i64 (checkErr cs syms)) ∧ Below w.heap.size w w' := by
  have h16 : (tabCells cs A syms.length c)[16]? = some (.slice A syms.length c) := tabCells_last hcs
  have hlen17 : (tabCells cs A syms.length c).length = 17 := tabCells_length hcs
  have hr : Hid (∀ xs, xs = tabCells cs A syms.length c → (w.alloc (.cells xs.toArray 25)).rangeAt w.heap.size 0 (ints .i64 cs)) := by
    show ∀ xs, _
    intro xs e
    subst e
    exact range_left (range_new w _ _)
  have hwo : Hid (Good cs syms.length → ∀ w1, Calls Try.prog 38 #[tabV cs A syms.length c] w1 fun e w' => ∃ v, e = .returned (.tuple #[v, .bool (codes (nats cs)).isSome]) ∧ Owns w1.heap.size [strRow v ((codes (nats cs)).getD [])] w' ∧ Below w1.heap.size w1 w') := by
    show _ → _
    intro hg w1
    have := refWordsOf_any (nats cs) A syms.length c w1 (by rw [nats_length]; exact hcs) (by rw [hg.sum]; exact hg.le)
    rw [natI_nats hg.1] at this
    exact this
  have Hn := veil hn
  unfold maxLen at hn
  have Hb := veil hb
  have Hcs := veil hcs
  clear hb hcs
  obtain ⟨xs, hxs⟩ : ∃ xs, xs = tabCells cs A syms.length c := ⟨_, rfl⟩
  have Hr := veil (hr.out xs hxs)
  have Hrw := veil (range_new w xs 25)
  unfold tabV at hwo ⊢
  rw [← hxs] at h16 hlen17 hwo ⊢
  have H17 := veil hlen17
  clear hr hxs hlen17
  go_enter Try.func22, Try.ntmps22
  go_wp2_with (first
    | (refine wpList_load_mid rfl 22 (.tmp 12) rfl w.heap.size 0 rfl (ints .i64 cs) _ Hr.out Try.underlying22 rfl (by rw [ints_length, Hcs.out]; exact info_arr) ?_)
    | fail)
  have c16 : (w.alloc (.cells xs.toArray 25)).cell? ⟨w.heap.size, 16, none⟩ = some (.slice A syms.length c) := by rw [World.cell?_alloc_at _ _ _ _ rfl]; simpa using h16
  have hsW := hs.alloc hG (.cells xs.toArray 25)
  have hbW := below1 w (.cells xs.toArray 25)
  have hzW : w.heap.size < (w.alloc (.cells xs.toArray 25)).heap.size := by simp
  generalize w.alloc (.cells xs.toArray 25) = W at *
  clear h16 hs Hr
  go_loopg [3, 5, 14] 16 (fun gk s x i wr => ∃ k : Nat, gk = 16 - k ∧ k ≤ 16 ∧ i = .int .i64 k ∧ (∃ z : Int, s = .int .i64 z ∧ Hid (z = sumW (cs.take k)) ∧ 0 ≤ z ∧ z ≤ 256 * k) ∧ Hid (∀ x ∈ cs.take k, 0 ≤ x) ∧ W = wr)
  case atStart => exact ⟨0, rfl, by omega, rfl, ⟨0, rfl, veil rfl, by omega, by omega⟩, veil (by simp), rfl⟩
  case round =>
    obtain ⟨k, rfl, hk, rfl, ⟨z, rfl, Hz, hz0, hz1⟩, Hp, rfl⟩ := hrel
    by_cases hlt : k < 16
    · obtain ⟨x, hx⟩ := some_at (xs := cs) (j := k) (by rw [Hcs.out]; omega)
      have hxb := Hb.out x (List.mem_of_getElem? hx)
      have Hx := veil hx; clear hx
      by_cases hout : x < 0 ∨ 256 < x
      · have hg : ¬ Good cs syms.length := by
          rcases hout with h | h
          · exact good_stop Hx.out (.inl h)
          · exact good_stop Hx.out (.inr (by have := Hz.out; omega))
        have He := veil (checkErr_form hg)
        have Ho := veil (outside_yes x 0 256 hout W)
        clear hg hout
        go_wp2_with (first
          | (refine wpList_index_arr rfl 22 (.tmp 13) (.tmp 14) rfl 16 3 .i64 Try.underlying22 Try.underlying3 info_int1 (ints .i64 cs) rfl .i64 k rfl (.int .i64 x) hlt (ints_at Hx.out) ?_)
          | fail)
        refine Ho.out.mono ?_
        rintro e w3 ⟨rfl, rfl⟩
        go_wp2
        go_ret
        exact ⟨by rw [He.out]; rfl, hbW⟩
      · have hin : 0 ≤ x ∧ x ≤ 256 := by omega
        have Ho := veil (outside_no x 0 256 hin W)
        clear hout
        by_cases hz256 : 256 < z
        · have hg : ¬ Good cs syms.length := notGood_sum Hp.out (by rw [← Hz.out]; exact hz256)
          have He := veil (checkErr_form hg)
          clear hg
          go_wp2_with (first
            | (refine wpList_index_arr rfl 22 (.tmp 13) (.tmp 14) rfl 16 3 .i64 Try.underlying22 Try.underlying3 info_int1 (ints .i64 cs) rfl .i64 k rfl (.int .i64 x) hlt (ints_at Hx.out) ?_)
            | fail)
          refine Ho.out.mono ?_
          rintro e w3 ⟨rfl, rfl⟩
          go_wp2
          go_ret
          exact ⟨by rw [He.out]; rfl, hbW⟩
        · have hw : IntKind.i64.wrap (z + x) = z + x := by rw [IntKind.wrap_i64]; omega
          go_wp2_with (first
            | (refine wpList_index_arr rfl 22 (.tmp 13) (.tmp 14) rfl 16 3 .i64 Try.underlying22 Try.underlying3 info_int1 (ints .i64 cs) rfl .i64 k rfl (.int .i64 x) hlt (ints_at Hx.out) ?_)
            | fail)
          refine Ho.out.mono ?_
          rintro e w3 ⟨rfl, rfl⟩
          go_wp2
          go_roundg (16 - (k + 1))
          case rel => exact ⟨k + 1, rfl, by omega, by go_num, ⟨z + x, by go_num, veil (by rw [sumW_take Hx.out, ← Hz.out]), by omega, by omega⟩, veil (mem_snoc Hx.out Hp.out (by omega)), rfl⟩
          case measure => omega
    · obtain rfl : k = 16 := by omega
      have e : cs.take 16 = cs := by rw [List.take_of_length_le]; rw [Hcs.out]; omega
      have h3 := Hp.out
      have h4 := Hz.out
      rw [e] at h3 h4
      have H3 := veil h3; have H4 := veil h4
      clear e h3 h4
      by_cases hz256 : 256 < z
      · have hg : ¬ Good cs syms.length := fun h => by have := h.2.1; have := H4.out; omega
        have He := veil (checkErr_form hg)
        clear hg
        go_wp2
        go_ret
        exact ⟨by rw [He.out]; rfl, hbW⟩
      · by_cases hzn : z = (syms.length : Int)
        · have hg : Good cs syms.length := ⟨H3.out, by have := H4.out; omega, by have := H4.out; omega⟩
          have Hg := veil hg
          have hne : (z != (syms.length : Int)) = false := by simpa using hzn
          have h256 := hg.le
          clear hg hzn
          go_wp2_with fail
          go_loopg [7, 39] syms.length (fun gk x i wr => ∃ k : Nat, gk = syms.length - k ∧ k ≤ syms.length ∧ i = .int .i64 k ∧ Hid (∀ s ∈ syms.take k, 0 ≤ s ∧ s ≤ 255) ∧ W = wr)
          case atStart => exact ⟨0, rfl, Nat.zero_le _, rfl, veil (by simp), rfl⟩
          case round =>
            obtain ⟨k, rfl, hk2, rfl, HP, rfl⟩ := hrel
            by_cases hlt2 : k < syms.length
            · obtain ⟨g, o, x, rfl, hg, hx, h1⟩ := hsW.int hlt2
              have Hx := veil hx; clear hx
              by_cases hin : 0 ≤ x ∧ x ≤ 255
              · have Ho := veil (outside_no x 0 255 hin W)
                go_wp2_with fail
                refine Ho.out.mono ?_
                rintro e w3 ⟨rfl, rfl⟩
                go_wp2
                go_roundg (syms.length - (k + 1))
                case rel => exact ⟨k + 1, rfl, by omega, by go_num, veil (mem_snoc Hx.out HP.out hin), rfl⟩
                case measure => omega
              · have Ho := veil (outside_yes x 0 255 (by omega) W)
                have He := veil (checkErr_arg Hg.out (notSym Hx.out (by omega)))
                go_wp2_with fail
                refine Ho.out.mono ?_
                rintro e w3 ⟨rfl, rfl⟩
                go_wp2
                go_ret
                exact ⟨by rw [He.out]; rfl, hbW⟩
            · obtain rfl : k = syms.length := by omega
              have hsok : SymOk syms := by have := HP.out; rw [List.take_length] at this; exact this
              have Hs := veil hsok; clear hsok
              go_wp2_with fail
              go_loopg [8, 9, 49] syms.length (fun gk i0 x i wr => ∃ k : Nat, gk = syms.length - k ∧ k ≤ syms.length ∧ i = .int .i64 k ∧ Hid ((syms.take k).Nodup) ∧ W = wr)
              case atStart => exact ⟨0, rfl, Nat.zero_le _, rfl, veil (by simp), rfl⟩
              case round =>
                obtain ⟨j, rfl, hj2, rfl, HD, rfl⟩ := hrel
                by_cases hjt : j < syms.length
                · obtain ⟨g, o, x, rfl, hg, hx, h1⟩ := hsW.int hjt
                  have hcut := run_take_ints (some ⟨g, o, none⟩) syms.length c j (by omega) W
                  have htl : (syms.take j).length = j := by simp; omega
                  have hha := hasInt (some ⟨g, o, none⟩) c G (syms.take j) x W (hsW.takeInts j) (by rw [htl]; unfold maxLen; omega)
                  rw [htl] at hha
                  have Hx := veil hx; clear hx htl
                  by_cases hin : x ∈ syms.take j
                  · rw [decide_eq_true hin] at hha
                    have Hha := veil hha
                    have He := veil (checkErr_bad Hg.out Hs.out fun h => dup_stop Hx.out hin h.2)
                    clear hha hin
                    go_wp2_with fail
                    refine Hha.out.mono ?_
                    rintro e w3 ⟨rfl, rfl⟩
                    go_wp2
                    go_ret
                    exact ⟨by rw [He.out]; rfl, hbW⟩
                  · rw [decide_eq_false hin] at hha
                    have Hha := veil hha; have Hin := veil hin
                    clear hha hin
                    go_wp2_with fail
                    refine Hha.out.mono ?_
                    rintro e w3 ⟨rfl, rfl⟩
                    go_wp2
                    go_roundg (syms.length - (j + 1))
                    case rel => exact ⟨j + 1, rfl, by omega, by go_num, veil (dup_snoc Hx.out HD.out Hin.out), rfl⟩
                    case measure => omega
                · obtain rfl : j = syms.length := by omega
                  have hnd : syms.Nodup := by have := HD.out; rw [List.take_length] at this; exact this
                  have Hnd := veil hnd; clear hnd
                  have Hwo := veil (hwo.out Hg.out W)
                  go_wp2_with (first
                    | (refine wpList_load_mid rfl 25 (.tmp 1) rfl w.heap.size 0 rfl xs _ Hrw.out Try.underlying25 rfl (by rw [H17.out]; exact info_tab) ?_)
                    | fail)
                  refine Hwo.out.mono ?_
                  rintro e w2 ⟨v, rfl, HO, hb2⟩
                  have hbel2 := hbW.trans (hb2.mono (Nat.le_of_lt hzW))
                  cases hco : codes (nats cs) with
                  | none =>
                    have He := veil (checkErr_bad Hg.out Hs.out (fun h => by rw [hco] at h; cases h.1))
                    simp only [Option.isSome_none]
                    clear HO Hwo
                    go_wp2
                    go_ret
                    exact ⟨by rw [He.out]; rfl, hbel2⟩
                  | some l =>
                    have He := veil (checkErr_ok Hg.out Hs.out (by rw [hco]; rfl) Hnd.out)
                    simp only [Option.isSome_some]
                    clear HO Hwo
                    go_wp2
                    go_ret
                    exact ⟨by rw [He.out]; rfl, hbel2⟩
        · have hg : ¬ Good cs syms.length := fun h => hzn (by have := h.2.2; have := H4.out; omega)
          have He := veil (checkErr_form hg)
          have hne : (z != (syms.length : Int)) = true := by simpa using hzn
          clear hg hzn
          go_wp2
          go_ret
          exact ⟨by rw [He.out]; rfl, hbW⟩
end Go.Proofs.Ytjphfbapekdjmaa
