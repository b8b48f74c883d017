/- Texts shared by the claims of this seat, in one. -/
import Derived.Test.YtddkhkpdbjjboaaGreatBd3
import Derived.Test.YtddkhkpdbjjboaaGreatBd2
import Derived.Test.YtddkhkpdbjjboaaGreatBd1
import Derived.Test.YtddkhkpdbjjboaaGreatRows
/- The reference's check of a table: the same contract as Check's. -/
namespace Go.Proofs.YtddkhkpdbjjboaaGreat
open Go.RowKit
set_option linter.unusedVariables false
set_option linter.unusedSimpArgs false
set_option maxRecDepth 100000

theorem run_take_ints (A : Option Addr) (n c h : Nat) (h2 : h ≤ c) (u : World) : (Instr.sliceAt 23 (.slice A n c) none (some (.int .i64 (h : Int))) none).run Tryz.prog u = .ok (.slice A h c) u := by
  have he : Tryz.prog.underlying 23 = some (.slice (Tryz.prog.elem 23)) := by kernel_rfl
  have hz : (sizeOf (Tryz.prog.elem 23)).run Tryz.prog u = .ok 1 u := by kernel_rfl
  rw [run_sliceAt_slice _ _ _ _ _ _ he, run_slice_h _ _ _ _ _ he _ _ (by omega) (by omega), hz]
  cases A <;> simp [Result.andThen, sliced, Addr.add]
theorem notGood_sum {cs : List Int} {n k : Nat} (h0 : ∀ x ∈ cs.take k, 0 ≤ x) (h : 256 < sumW (cs.take k)) : ¬ Good cs n := by
  rintro ⟨h1, h2, h3⟩
  have e : sumW cs = sumW (cs.take k) + sumW (cs.drop k) := by
    conv => lhs; rw [← List.take_append_drop k cs, sumW_app]
  have h5 := sumW_pos (cs.drop k) fun y hy => h1 y (List.mem_of_mem_drop hy)
  omega
theorem dup_snoc {syms : List Int} {k : Nat} {x : Int} (hx : syms[k]? = some x) (h : (syms.take k).Nodup) (hn : x ∉ syms.take k) : (syms.take (k + 1)).Nodup := by
  rw [take_snoc hx, List.nodup_append]
  refine ⟨h, by simp, fun a ha b hb => ?_⟩
  simp at hb
  subst hb
  intro e
  subst e
  exact hn ha
theorem dup_stop {syms : List Int} {k : Nat} {x : Int} (hx : syms[k]? = some x) (hn : x ∈ syms.take k) : ¬ syms.Nodup := by
  intro h
  have e : syms = syms.take (k + 1) ++ syms.drop (k + 1) := (List.take_append_drop _ _).symm
  rw [e, List.nodup_append, take_snoc hx, List.nodup_append] at h
  exact h.1.2.2 x hn x (by simp) rfl

set_option maxRecDepth 100000 in
set_option maxHeartbeats 2000000 in
theorem refCheck_any (cs syms : List Int) (A : Option Addr) (c G : Nat) (w : World) (hcs : cs.length = 16) (hn : syms.length ≤ maxLen) (hcap : syms.length ≤ c) (hb : ∀ x ∈ cs, -9223372036854775808 ≤ x ∧ x ≤ 9223372036854775807) (hs : Seen w G A (ints .i64 syms)) (hG : G ≤ w.heap.size) :
    Calls Tryz.prog 53 #[tabV cs A syms.length c] w fun e w' => e = .returned (.int .i64 (checkErr cs syms)) ∧ Below w.heap.size w w' := by
  have h16 : (tabCells cs A syms.length c)[16]? = some (.slice A syms.length c) := tabCells_last hcs
  have hlen17 : (tabCells cs A syms.length c).length = 17 := tabCells_length hcs
  have hr : Hid (∀ xs, xs = tabCells cs A syms.length c → (w.alloc (.cells xs.toArray 25)).rangeAt w.heap.size 0 (ints .i64 cs)) := by
    show ∀ xs, _
    intro xs e
    subst e
    exact range_left (range_new w _ _)
  have hwo : Hid (Good cs syms.length → ∀ w1, Calls Tryz.prog 61 #[tabV cs A syms.length c] w1 fun e w' => ∃ v, e = .returned (.tuple #[v, .bool (codes (nats cs)).isSome]) ∧ Owns w1.heap.size [strRow v ((codes (nats cs)).getD [])] w' ∧ Below w1.heap.size w1 w') := by
    show _ → _
    intro hg w1
    have := refWordsOf_any (nats cs) A syms.length c w1 (by rw [nats_length]; exact hcs) (by rw [hg.sum]; exact hg.le)
    rw [natI_nats hg.1] at this
    exact this
  have Hn := veil hn
  unfold maxLen at hn
  have Hb := veil hb
  have Hcs := veil hcs
  clear hb hcs
  obtain ⟨xs, hxs⟩ : ∃ xs, xs = tabCells cs A syms.length c := ⟨_, rfl⟩
  have Hr := veil (hr.out xs hxs)
  have Hrw := veil (range_new w xs 25)
  unfold tabV at hwo ⊢
  rw [← hxs] at h16 hlen17 hwo ⊢
  have H17 := veil hlen17
  clear hr hxs hlen17
  go_enter Tryz.func53, Tryz.ntmps53
  go_wp2_with (first
    | (refine wpList_load_mid rfl 22 (.tmp 12) rfl w.heap.size 0 rfl (ints .i64 cs) _ Hr.out Tryz.underlying22 rfl (by rw [ints_length, Hcs.out]; exact info_arr) ?_)
    | fail)
  have c16 : (w.alloc (.cells xs.toArray 25)).cell? ⟨w.heap.size, 16, none⟩ = some (.slice A syms.length c) := by rw [World.cell?_alloc_at _ _ _ _ rfl]; simpa using h16
  have hsW := hs.alloc hG (.cells xs.toArray 25)
  have hbW := below1 w (.cells xs.toArray 25)
  have hzW : w.heap.size < (w.alloc (.cells xs.toArray 25)).heap.size := by simp
  generalize w.alloc (.cells xs.toArray 25) = W at *
  clear h16 hs Hr
  go_loopg [3, 5, 14] 16 (fun gk s x i wr => ∃ k : Nat, gk = 16 - k ∧ k ≤ 16 ∧ i = .int .i64 k ∧ (∃ z : Int, s = .int .i64 z ∧ Hid (z = sumW (cs.take k)) ∧ 0 ≤ z ∧ z ≤ 256 * k) ∧ Hid (∀ x ∈ cs.take k, 0 ≤ x) ∧ W = wr)
  case atStart => exact ⟨0, rfl, by omega, rfl, ⟨0, rfl, veil rfl, by omega, by omega⟩, veil (by simp), rfl⟩
  case round =>
    obtain ⟨k, rfl, hk, rfl, ⟨z, rfl, Hz, hz0, hz1⟩, Hp, rfl⟩ := hrel
    by_cases hlt : k < 16
    · obtain ⟨x, hx⟩ := some_at (xs := cs) (j := k) (by rw [Hcs.out]; omega)
      have hxb := Hb.out x (List.mem_of_getElem? hx)
      have Hx := veil hx; clear hx
      by_cases hout : x < 0 ∨ 256 < x
      · have hg : ¬ Good cs syms.length := by
          rcases hout with h | h
          · exact good_stop Hx.out (.inl h)
          · exact good_stop Hx.out (.inr (by have := Hz.out; omega))
        have He := veil (checkErr_form hg)
        have Ho := veil (outside_yes x 0 256 hout W)
        clear hg hout
        go_wp2_with (first
          | (refine wpList_index_arr rfl 22 (.tmp 13) (.tmp 14) rfl 16 3 .i64 Tryz.underlying22 Tryz.underlying3 info_int1 (ints .i64 cs) rfl .i64 k rfl (.int .i64 x) hlt (ints_at Hx.out) ?_)
          | fail)
        refine Ho.out.mono ?_
        rintro e w3 ⟨rfl, rfl⟩
        go_wp2
        go_ret
        exact ⟨by rw [He.out]; rfl, hbW⟩
      · have hin : 0 ≤ x ∧ x ≤ 256 := by omega
        have Ho := veil (outside_no x 0 256 hin W)
        clear hout
        by_cases hz256 : 256 < z
        · have hg : ¬ Good cs syms.length := notGood_sum Hp.out (by rw [← Hz.out]; exact hz256)
          have He := veil (checkErr_form hg)
          clear hg
          go_wp2_with (first
            | (refine wpList_index_arr rfl 22 (.tmp 13) (.tmp 14) rfl 16 3 .i64 Tryz.underlying22 Tryz.underlying3 info_int1 (ints .i64 cs) rfl .i64 k rfl (.int .i64 x) hlt (ints_at Hx.out) ?_)
            | fail)
          refine Ho.out.mono ?_
          rintro e w3 ⟨rfl, rfl⟩
          go_wp2
          go_ret
          exact ⟨by rw [He.out]; rfl, hbW⟩
        · have hw : IntKind.i64.wrap (z + x) = z + x := by rw [IntKind.wrap_i64]; omega
          go_wp2_with (first
            | (refine wpList_index_arr rfl 22 (.tmp 13) (.tmp 14) rfl 16 3 .i64 Tryz.underlying22 Tryz.underlying3 info_int1 (ints .i64 cs) rfl .i64 k rfl (.int .i64 x) hlt (ints_at Hx.out) ?_)
            | fail)
          refine Ho.out.mono ?_
          rintro e w3 ⟨rfl, rfl⟩
          go_wp2
          go_roundg (16 - (k + 1))
          case rel => exact ⟨k + 1, rfl, by omega, by go_num, ⟨z + x, by go_num, veil (by rw [sumW_take Hx.out, ← Hz.out]), by omega, by omega⟩, veil (mem_snoc Hx.out Hp.out (by omega)), rfl⟩
          case measure => omega
    · obtain rfl : k = 16 := by omega
      have e : cs.take 16 = cs := by rw [List.take_of_length_le]; rw [Hcs.out]; omega
      have h3 := Hp.out
      have h4 := Hz.out
      rw [e] at h3 h4
      have H3 := veil h3; have H4 := veil h4
      clear e h3 h4
      by_cases hz256 : 256 < z
      · have hg : ¬ Good cs syms.length := fun h => by have := h.2.1; have := H4.out; omega
        have He := veil (checkErr_form hg)
        clear hg
        go_wp2
        go_ret
        exact ⟨by rw [He.out]; rfl, hbW⟩
      · by_cases hzn : z = (syms.length : Int)
        · have hg : Good cs syms.length := ⟨H3.out, by have := H4.out; omega, by have := H4.out; omega⟩
          have Hg := veil hg
          have hne : (z != (syms.length : Int)) = false := by simpa using hzn
          have h256 := hg.le
          clear hg hzn
          go_wp2_with fail
          go_loopg [7, 39] syms.length (fun gk x i wr => ∃ k : Nat, gk = syms.length - k ∧ k ≤ syms.length ∧ i = .int .i64 k ∧ Hid (∀ s ∈ syms.take k, 0 ≤ s ∧ s ≤ 255) ∧ W = wr)
          case atStart => exact ⟨0, rfl, Nat.zero_le _, rfl, veil (by simp), rfl⟩
          case round =>
            obtain ⟨k, rfl, hk2, rfl, HP, rfl⟩ := hrel
            by_cases hlt2 : k < syms.length
            · obtain ⟨g, o, x, rfl, hg, hx, h1⟩ := hsW.int hlt2
              have Hx := veil hx; clear hx
              by_cases hin : 0 ≤ x ∧ x ≤ 255
              · have Ho := veil (outside_no x 0 255 hin W)
                go_wp2_with fail
                refine Ho.out.mono ?_
                rintro e w3 ⟨rfl, rfl⟩
                go_wp2
                go_roundg (syms.length - (k + 1))
                case rel => exact ⟨k + 1, rfl, by omega, by go_num, veil (mem_snoc Hx.out HP.out hin), rfl⟩
                case measure => omega
              · have Ho := veil (outside_yes x 0 255 (by omega) W)
                have He := veil (checkErr_arg Hg.out (notSym Hx.out (by omega)))
                go_wp2_with fail
                refine Ho.out.mono ?_
                rintro e w3 ⟨rfl, rfl⟩
                go_wp2
                go_ret
                exact ⟨by rw [He.out]; rfl, hbW⟩
            · obtain rfl : k = syms.length := by omega
              have hsok : SymOk syms := by have := HP.out; rw [List.take_length] at this; exact this
              have Hs := veil hsok; clear hsok
              go_wp2_with fail
              go_loopg [8, 9, 49] syms.length (fun gk i0 x i wr => ∃ k : Nat, gk = syms.length - k ∧ k ≤ syms.length ∧ i = .int .i64 k ∧ Hid ((syms.take k).Nodup) ∧ W = wr)
              case atStart => exact ⟨0, rfl, Nat.zero_le _, rfl, veil (by simp), rfl⟩
              case round =>
                obtain ⟨j, rfl, hj2, rfl, HD, rfl⟩ := hrel
                by_cases hjt : j < syms.length
                · obtain ⟨g, o, x, rfl, hg, hx, h1⟩ := hsW.int hjt
                  have hcut := run_take_ints (some ⟨g, o, none⟩) syms.length c j (by omega) W
                  have htl : (syms.take j).length = j := by simp; omega
                  have hha := hasInt (some ⟨g, o, none⟩) c G (syms.take j) x W (hsW.takeInts j) (by rw [htl]; unfold maxLen; omega)
                  rw [htl] at hha
                  have Hx := veil hx; clear hx htl
                  by_cases hin : x ∈ syms.take j
                  · rw [decide_eq_true hin] at hha
                    have Hha := veil hha
                    have He := veil (checkErr_bad Hg.out Hs.out fun h => dup_stop Hx.out hin h.2)
                    clear hha hin
                    go_wp2_with fail
                    refine Hha.out.mono ?_
                    rintro e w3 ⟨rfl, rfl⟩
                    go_wp2
                    go_ret
                    exact ⟨by rw [He.out]; rfl, hbW⟩
                  · rw [decide_eq_false hin] at hha
                    have Hha := veil hha; have Hin := veil hin
                    clear hha hin
                    go_wp2_with fail
                    refine Hha.out.mono ?_
                    rintro e w3 ⟨rfl, rfl⟩
                    go_wp2
                    go_roundg (syms.length - (j + 1))
                    case rel => exact ⟨j + 1, rfl, by omega, by go_num, veil (dup_snoc Hx.out HD.out Hin.out), rfl⟩
                    case measure => omega
                · obtain rfl : j = syms.length := by omega
                  have hnd : syms.Nodup := by have := HD.out; rw [List.take_length] at this; exact this
                  have Hnd := veil hnd; clear hnd
                  have Hwo := veil (hwo.out Hg.out W)
                  go_wp2_with (first
                    | (refine wpList_load_mid rfl 25 (.tmp 1) rfl w.heap.size 0 rfl xs _ Hrw.out Tryz.underlying25 rfl (by rw [H17.out]; exact info_tab) ?_)
                    | fail)
                  refine Hwo.out.mono ?_
                  rintro e w2 ⟨v, rfl, HO, hb2⟩
                  have hbel2 := hbW.trans (hb2.mono (Nat.le_of_lt hzW))
                  cases hco : codes (nats cs) with
                  | none =>
                    have He := veil (checkErr_bad Hg.out Hs.out (fun h => by rw [hco] at h; cases h.1))
                    simp only [Option.isSome_none]
                    clear HO Hwo
                    go_wp2
                    go_ret
                    exact ⟨by rw [He.out]; rfl, hbel2⟩
                  | some l =>
                    have He := veil (checkErr_ok Hg.out Hs.out (by rw [hco]; rfl) Hnd.out)
                    simp only [Option.isSome_some]
                    clear HO Hwo
                    go_wp2
                    go_ret
                    exact ⟨by rw [He.out]; rfl, hbel2⟩
        · have hg : ¬ Good cs syms.length := fun h => hzn (by have := h.2.2; have := H4.out; omega)
          have He := veil (checkErr_form hg)
          have hne : (z != (syms.length : Int)) = true := by simpa using hzn
          clear hg hzn
          go_wp2
          go_ret
          exact ⟨by rw [He.out]; rfl, hbW⟩
end Go.Proofs.YtddkhkpdbjjboaaGreat

/- A symbol that has a word: where it stands. -/
namespace Go.Proofs.YtddkhkpdbjjboaaGreat
open Go.RowKit
set_option linter.unusedVariables false
set_option linter.unusedSimpArgs false
set_option maxRecDepth 100000

theorem symF_mem {ws : List (Int × Nat × Nat)} {x : Int} {p : Int × Int} (h : symF ws x = some p) : ∃ t ∈ ws, t.1 = x ∧ fi t = p := by
  induction ws using snoc_ind with
  | h0 => simp [symF, symGo] at h
  | h1 ws t ih =>
    rw [symF_snoc] at h
    unfold upd at h
    by_cases e : x = t.1
    · rw [if_pos e] at h; injection h with h; exact ⟨t, by simp, e.symm, h⟩
    · rw [if_neg e] at h
      obtain ⟨u, hu, h2⟩ := ih h
      exact ⟨u, by simp [hu], h2⟩
theorem mem_mkWords {syms : List Int} {l : List (Nat × Nat)} {t : Int × Nat × Nat} (h : t ∈ mkWords syms l) : ∃ i : Nat, syms[i]? = some t.1 ∧ l[i]? = some t.2 := by
  obtain ⟨i, hi⟩ := List.getElem?_of_mem h
  refine ⟨i, ?_⟩
  unfold mkWords at hi
  rw [List.getElem?_zipWith] at hi
  cases h1 : syms[i]? with
  | none => simp [h1] at hi
  | some s =>
    cases h2 : l[i]? with
    | none => simp [h1, h2] at hi
    | some p => simp [h1, h2] at hi; subst hi; exact ⟨rfl, rfl⟩
end Go.Proofs.YtddkhkpdbjjboaaGreat

/- The reference's wordOf: the digits of a symbol's word. -/
namespace Go.Proofs.YtddkhkpdbjjboaaGreat
open Go.RowKit
set_option linter.unusedVariables false
set_option linter.unusedSimpArgs false
set_option maxRecDepth 100000

/-- The bits of a symbol's word. -/
def symBits (ws : List (Int × Nat × Nat)) (x : Int) : List Bool := bitsN (((symF ws x).getD (0, 0)).1).toNat (((symF ws x).getD (0, 0)).2).toNat
end Go.Proofs.YtddkhkpdbjjboaaGreat

/- What a check of blocks answers, in numbers. No program is named here. -/
namespace Go.Proofs.YtddkhkpdbjjboaaGreat
set_option linter.unusedVariables false
set_option linter.unusedSimpArgs false
set_option maxRecDepth 100000

/-- What a check of blocks answers. -/
def eL (L : List (List Int)) : Int := if 400 < L.length then 2 else if (L.all fun r => inB (-2047) 2047 r) = true then 0 else 1
theorem eL_large {L : List (List Int)} (h : 400 < L.length) : eL L = 2 := if_pos h
theorem eL_bad {L : List (List Int)} (h : ¬ 400 < L.length) {k : Nat} {r : List Int} (hr : L[k]? = some r) (hb : inB (-2047) 2047 r = false) : eL L = 1 := by
  unfold eL
  rw [if_neg h, if_neg]
  intro h2
  have := List.all_eq_true.1 h2 r (List.mem_of_getElem? hr)
  rw [hb] at this; cases this
theorem eL_ok {L : List (List Int)} (h : ¬ 400 < L.length) (hb : ∀ r ∈ L, inB (-2047) 2047 r = true) : eL L = 0 := by
  unfold eL
  rw [if_neg h, if_pos (List.all_eq_true.2 hb)]
theorem eL_zero {L : List (List Int)} (h : eL L = 0) : L.length ≤ 400 ∧ ∀ r ∈ L, inB (-2047) 2047 r = true := by
  unfold eL at h
  split at h
  · cases h
  · split at h
    · rename_i h1 h2; exact ⟨by omega, fun r hr => List.all_eq_true.1 h2 r hr⟩
    · cases h
end Go.Proofs.YtddkhkpdbjjboaaGreat

/- What a written list of fields is, in numbers; the fields' element. -/
namespace Go.Proofs.YtddkhkpdbjjboaaGreat
open Go.RowKit
set_option linter.unusedVariables false
set_option linter.unusedSimpArgs false
set_option maxRecDepth 100000

theorem okF_nat (X Y : Nat) : okF ((X : Int), (Y : Int)) ↔ X ≤ 24 ∧ Y < 2 ^ X := by
  unfold okF
  simp only [Int.toNat_natCast]
  constructor
  · rintro ⟨⟨_, h1⟩, _, h2⟩
    refine ⟨by omega, ?_⟩
    have : (Y : Int) < ((2 ^ X : Nat) : Int) := by simpa using h2
    omega
  · rintro ⟨h1, h2⟩
    refine ⟨⟨by omega, by omega⟩, by omega, ?_⟩
    have : (Y : Int) < ((2 ^ X : Nat) : Int) := by omega
    simpa using this
theorem elem_field : ElemOf Tryz.prog 85 89 2 16 :=
  .mk' (z := .agg #[.int .i64 0, .int .i64 0]) Tryz.underlying85 (by kernel_rfl) rfl (by omega)
end Go.Proofs.YtddkhkpdbjjboaaGreat

/- table.Encode: its contract. -/
namespace Go.Proofs.YtddkhkpdbjjboaaGreat
open Go.RowKit
set_option linter.unusedVariables false
set_option linter.unusedSimpArgs false
set_option maxRecDepth 100000

/-- The fields of symbols. -/
def fieldsOf (ws : List (Int × Nat × Nat)) (xs : List Int) : List (Int × Int) := xs.map fun x => (symF ws x).getD (0, 0)
def AllIn (ws : List (Int × Nat × Nat)) (xs : List Int) : Prop := ∀ x ∈ xs, (symF ws x).isSome = true
instance (ws : List (Int × Nat × Nat)) (xs : List Int) : Decidable (AllIn ws xs) := by unfold AllIn; infer_instance
/-- Each word that a symbol has is one of the words. -/
theorem Fine.kr {cs syms : List Int} {l : List (Nat × Nat)} (h : Fine cs syms l) (hcs : cs.length = 16) : Kr 0 l := codes_kr (by rw [nats_length]; exact hcs) h.code
theorem Fine.word {cs syms : List Int} {l : List (Nat × Nat)} (h : Fine cs syms l) (hcs : cs.length = 16) {t : Int × Nat × Nat} (ht : t ∈ mkWords syms l) : (0 ≤ t.1 ∧ t.1 ≤ 255) ∧ (1 ≤ t.2.1 ∧ t.2.1 ≤ 16) ∧ t.2.2 + 1 < 2 ^ t.2.1 := by
  obtain ⟨i, h1, h2⟩ := mem_mkWords ht
  have hm := List.mem_of_getElem? h2
  have := (h.kr hcs).ge _ hm
  exact ⟨h.ok _ (List.mem_of_getElem? h1), ⟨this.1, this.2.1⟩, (h.kr hcs).small hm⟩
theorem fi_small {cs syms : List Int} {l : List (Nat × Nat)} (h : Fine cs syms l) (hcs : cs.length = 16) {t : Int × Nat × Nat} (ht : t ∈ mkWords syms l) : WF t.1 ∧ WF (t.2.1 : Int) ∧ WF (t.2.2 : Int) := by
  obtain ⟨h1, h2, h3⟩ := h.word hcs ht
  have : 2 ^ t.2.1 ≤ 2 ^ 16 := Nat.pow_le_pow_right (by omega) h2.2
  exact ⟨wf_of (by omega), wf_of (by omega), wf_of (by omega)⟩

end Go.Proofs.YtddkhkpdbjjboaaGreat

/- bits.number: so many bits from a place on. -/
namespace Go.Proofs.YtddkhkpdbjjboaaGreat
open Go.RowKit
set_option linter.unusedVariables false
set_option linter.unusedSimpArgs false
set_option maxRecDepth 100000

theorem bitsN_at (w v i : Nat) (h : i < w) : (bitsN w v)[i]? = some (decide (v / 2 ^ (w - 1 - i) % 2 = 1)) := by
  induction w generalizing v with
  | zero => omega
  | succ w ih =>
    rw [bitsN]
    by_cases hi : i < w
    · rw [List.getElem?_append_left (by rw [bitsN_length]; exact hi), ih _ hi, Nat.div_div_eq_div_mul, ← Nat.pow_succ', show w + 1 - 1 - i = w - 1 - i + 1 by omega]
    · have : i = w := by omega
      subst this
      rw [List.getElem?_append_right (by rw [bitsN_length]; omega)]
      simp [bitsN_length]
theorem unpack_at : ∀ (bs : List Int) (j : Nat) (x : Int), bs[j / 8]? = some x → (unpack bs)[j]? = some (decide (x.toNat / 2 ^ (7 - j % 8) % 2 = 1))
  | [], j, x, h => by simp at h
  | y :: bs, j, x, h => by
    rw [unpack_cons]
    by_cases hj : j < 8
    · have e : j / 8 = 0 := by omega
      rw [e] at h
      simp at h
      subst h
      rw [List.getElem?_append_left (by rw [bitsN_length]; exact hj), bitsN_at 8 _ _ hj, show 8 - 1 - j = 7 - j % 8 by omega]
    · rw [List.getElem?_append_right (by rw [bitsN_length]; omega), bitsN_length]
      have e : j / 8 = (j - 8) / 8 + 1 := by omega
      rw [e, List.getElem?_cons_succ] at h
      rw [unpack_at bs (j - 8) x h, show (j - 8) % 8 = j % 8 by omega]
/-- The bits from 'at' on, so many. -/
def cutB (bs : List Int) (at_ n : Nat) : List Bool := ((unpack bs).drop at_).take n
theorem cutB_length (bs : List Int) (at_ n : Nat) (h : at_ + n ≤ 8 * bs.length) : (cutB bs at_ n).length = n := by
  simp [cutB, unpack_length]; omega
theorem cutB_snoc (bs : List Int) (at_ n : Nat) (x : Int) (h : bs[(at_ + n) / 8]? = some x) : cutB bs at_ (n + 1) = cutB bs at_ n ++ [decide (x.toNat / 2 ^ (7 - (at_ + n) % 8) % 2 = 1)] := by
  unfold cutB
  apply take_snoc
  rw [List.getElem?_drop]
  exact unpack_at bs _ x h

theorem bit_step (bs : List Int) (at_ n J : Nat) (x : Int) (hJ : at_ + n = J) (h : bs[J / 8]? = some x) (hx : 0 ≤ x ∧ x ≤ 255) (hn : n < 24) (hin : at_ + n ≤ 8 * bs.length) :
    bits BinOp.or IntKind.i64 (wrap64 ((valB (cutB bs at_ n) : Int) * 2)) (bits BinOp.and IntKind.i64 (wrap64 (x / 2 ^ (7 - J % 8))) 1) = (valB (cutB bs at_ (n + 1)) : Int) := by
  subst hJ
  rw [cutB_snoc bs at_ n x h, valB_snoc]
  have h1 := valB_lt (cutB bs at_ n)
  rw [cutB_length _ _ _ hin] at h1
  have h2 : 2 ^ n ≤ 2 ^ 24 := two_pow_lt _ _ (by omega)
  generalize valB (cutB bs at_ n) = V at *
  obtain ⟨X, rfl⟩ := Int.eq_ofNat_of_zero_le hx.1
  have e1 : (X : Int) / 2 ^ (7 - (at_ + n) % 8) = ((X / 2 ^ (7 - (at_ + n) % 8) : Nat) : Int) := by simp
  have h3 : X / 2 ^ (7 - (at_ + n) % 8) ≤ X := Nat.div_le_self _ _
  rw [e1, Int.toNat_natCast]
  generalize X / 2 ^ (7 - (at_ + n) % 8) = q at *
  rw [wrap64_nat q (by omega), show (1 : Int) = ((1 : Nat) : Int) from rfl, i64_and _ _ (by omega) (by omega), Nat.and_one_is_mod]
  have e2 : wrap64 ((V : Int) * 2) = ((V * 2 ^ 1 : Nat) : Int) := by
    rw [show (V : Int) * 2 = ((V * 2 : Nat) : Int) by simp]; exact wrap64_nat _ (by omega)
  rw [e2, i64_or _ _ (by omega) (by omega), nat_or_low _ 1 _ (by omega)]
  rcases Nat.mod_two_eq_zero_or_one q with hq | hq <;> simp [hq] <;> omega
set_option maxHeartbeats 1000000 in
theorem number_any (A : Option Addr) (c G : Nat) (bs : List Int) (at_ wd : Nat) (w : World) (hb : Seen w G A (ints .u8 bs)) (hby : Bytes bs) (h : at_ + wd ≤ 8 * bs.length) (hwd : wd ≤ 24) (hl : bs.length ≤ 1152921504606846975) :
    Calls Tryz.prog 93 #[.slice A bs.length c, .int .i64 at_, .int .i64 wd] w fun e w' => e = .returned (.int .i64 (valB (cutB bs at_ wd))) ∧ w = w' := by
  go_enter Tryz.func93, Tryz.ntmps93
  go_wp2_with fail
  go_loopg [7, 8, 9] wd (fun gk n i b wr => ∃ k : Nat, gk = wd - k ∧ k ≤ wd ∧ i = .int .i64 (at_ + k : Nat) ∧ n = .int .i64 (valB (cutB bs at_ k)) ∧ w = wr)
  case atStart => exact ⟨0, rfl, Nat.zero_le _, rfl, rfl, rfl⟩
  case round =>
    obtain ⟨k, rfl, hk, rfl, rfl, rfl⟩ := hrel
    by_cases hlt : k < wd
    · obtain ⟨g, o, x, rfl, _, hx, h1⟩ := hb.int (k := (at_ + k) / 8) (by omega)
      have hxb := hby x (List.mem_of_getElem? hx)
      have Hx := veil hx
      clear hx
      generalize HJ : at_ + k = J at *
      have HJ := veil HJ
      go_wp2_with fail
      go_roundg (wd - (k + 1))
      case rel => exact ⟨k + 1, rfl, by omega, by rw [← HJ.out]; go_num, congrArg (Value.int .i64) (bit_step _ _ _ _ _ HJ.out Hx.out hxb (by omega) (by omega)), rfl⟩
      case measure => omega
    · obtain rfl : k = wd := by omega
      go_wp2
      go_ret
      exact ⟨rfl, rfl⟩
end Go.Proofs.YtddkhkpdbjjboaaGreat

/- Words of which none begins another one: which of them begins a row of bits. -/
namespace Go.Proofs.YtddkhkpdbjjboaaGreat
open Go.RowKit
set_option linter.unusedVariables false
set_option linter.unusedSimpArgs false
set_option maxRecDepth 100000

structure PF (ws : List (Int × Nat × Nat)) : Prop where
  small : ∀ t ∈ ws, (1 ≤ t.2.1 ∧ t.2.1 ≤ 16) ∧ t.2.2 < 2 ^ t.2.1
  uniq : ∀ t ∈ ws, ∀ u ∈ ws, ∀ b, bitsN t.2.1 t.2.2 <+: b → bitsN u.2.1 u.2.2 <+: b → t = u
theorem Fine.pf {cs syms : List Int} {l : List (Nat × Nat)} (h : Fine cs syms l) (hcs : cs.length = 16) : PF (mkWords syms l) where
  small t ht := by have := h.word hcs ht; exact ⟨this.2.1, by omega⟩
  uniq t ht u hu b h1 h2 := by
    obtain ⟨i, hi1, hi2⟩ := mem_mkWords ht
    obtain ⟨k, hk1, hk2⟩ := mem_mkWords hu
    obtain rfl := (h.kr hcs).bits hi2 hk2 h1 h2
    rw [hi1] at hk1
    rw [hi2] at hk2
    injection hk1 with e1
    injection hk2 with e2
    exact Prod.ext e1 e2
def begins (t : Int × Nat × Nat) (b : List Bool) : Bool := (bitsN t.2.1 t.2.2).isPrefixOf b
theorem begins_iff (t : Int × Nat × Nat) (b : List Bool) : begins t b = true ↔ bitsN t.2.1 t.2.2 <+: b := List.isPrefixOf_iff_prefix
/-- The word at the front of a row of bits: its symbol and its length. -/
def find1 (ws : List (Int × Nat × Nat)) (b : List Bool) : Option (Int × Nat) := (ws.find? (begins · b)).map fun t => (t.1, t.2.1)
theorem PF.find {ws : List (Int × Nat × Nat)} (h : PF ws) {t : Int × Nat × Nat} (ht : t ∈ ws) {b : List Bool} (hb : bitsN t.2.1 t.2.2 <+: b) : find1 ws b = some (t.1, t.2.1) := by
  unfold find1
  cases hq : ws.find? (begins · b) with
  | none => exact absurd ((begins_iff t b).2 hb) (by simpa using List.find?_eq_none.1 hq t ht)
  | some u =>
    have h1 := List.find?_some hq
    have h2 := List.mem_of_find?_eq_some hq
    rw [h.uniq u h2 t ht b ((begins_iff u b).1 h1) hb]
    rfl
theorem find1_mem {ws : List (Int × Nat × Nat)} {b : List Bool} {s : Int} {n : Nat} (h : find1 ws b = some (s, n)) : ∃ t ∈ ws, t.1 = s ∧ t.2.1 = n ∧ bitsN t.2.1 t.2.2 <+: b := by
  unfold find1 at h
  cases hq : ws.find? (begins · b) with
  | none => simp [hq] at h
  | some u =>
    simp [hq] at h
    have h1 := List.find?_some hq
    exact ⟨u, List.mem_of_find?_eq_some hq, h.1, h.2, (begins_iff u b).1 h1⟩
theorem codeF_mem {ws : List (Int × Nat × Nat)} {x : Int} {p : Int × Int} (h : codeF ws p = some x) : ∃ t ∈ ws, fi t = p ∧ t.1 = x := by
  induction ws using snoc_ind with
  | h0 => simp [codeF] at h
  | h1 ws t ih =>
    rw [codeF_snoc] at h
    unfold upd at h
    by_cases e : p = fi t
    · rw [if_pos e] at h; injection h with h; exact ⟨t, by simp, e.symm, h⟩
    · rw [if_neg e] at h
      obtain ⟨u, hu, h2⟩ := ih h
      exact ⟨u, by simp [hu], h2⟩
theorem codeF_some {ws : List (Int × Nat × Nat)} {t : Int × Nat × Nat} (h : t ∈ ws) : (codeF ws (fi t)).isSome = true := by
  induction ws using snoc_ind with
  | h0 => simp at h
  | h1 ws u ih =>
    rw [codeF_snoc]
    unfold upd
    by_cases e : fi t = fi u
    · rw [if_pos e]; rfl
    · rw [if_neg e]
      rcases List.mem_append.1 h with h | h
      · exact ih h
      · simp at h; subst h; exact absurd rfl e
/-- A hit. -/
theorem PF.hit {ws : List (Int × Nat × Nat)} (h : PF ws) {b : List Bool} {k : Nat} (hk : k ≤ b.length) {s : Int} (hc : codeF ws ((k : Int), (valB (b.take k) : Int)) = some s) : find1 ws b = some (s, k) := by
  obtain ⟨t, ht, e1, e2⟩ := codeF_mem hc
  simp only [fi, Prod.mk.injEq] at e1
  have h1 : t.2.1 = k := by omega
  have h2 : t.2.2 = valB (b.take k) := by omega
  have h3 : bitsN t.2.1 t.2.2 <+: b := by
    rw [h1, h2]
    have := bitsN_valB (b.take k)
    rw [List.length_take, Nat.min_eq_left hk] at this
    rw [this]
    exact List.take_prefix _ _
  rw [h.find ht h3, e2, h1]
/-- No hit at all. -/
theorem PF.miss {ws : List (Int × Nat × Nat)} (h : PF ws) {b : List Bool} {k : Nat} (hk : k = 16 ∨ b.length ≤ k) (hc : ∀ j : Nat, 1 ≤ j → j ≤ k → codeF ws ((j : Int), (valB (b.take j) : Int)) = none) : find1 ws b = none := by
  cases hq : find1 ws b with
  | none => rfl
  | some p =>
    obtain ⟨s, n⟩ := p
    obtain ⟨t, ht, e1, e2, h1⟩ := find1_mem hq
    obtain ⟨h2, h3⟩ := h.small t ht
    have h4 := h1.length_le
    rw [bitsN_length] at h4
    have h5 := List.prefix_iff_eq_take.1 h1
    rw [bitsN_length] at h5
    have h6 : valB (b.take t.2.1) = t.2.2 := by rw [← h5]; exact valB_bitsN _ _ h3
    have h7 := hc t.2.1 h2.1 (by omega)
    rw [h6] at h7
    have h8 := codeF_some ht
    rw [show fi t = ((t.2.1 : Int), (t.2.2 : Int)) from rfl, h7] at h8
    cases h8
/-- What next answers. -/
def nextS (ws : List (Int × Nat × Nat)) (b : List Bool) : Int := ((find1 ws b).map (·.1)).getD 0
def nextL (ws : List (Int × Nat × Nat)) (b : List Bool) : Nat := ((find1 ws b).map (·.2)).getD 0
def nextE (ws : List (Int × Nat × Nat)) (b : List Bool) : Int := if (find1 ws b).isSome = true then 0 else if b.length < 16 then 3 else 4
end Go.Proofs.YtddkhkpdbjjboaaGreat

/- table.next: its contract. -/
namespace Go.Proofs.YtddkhkpdbjjboaaGreat
open Go.RowKit
set_option linter.unusedVariables false
set_option linter.unusedSimpArgs false
set_option maxRecDepth 100000

end Go.Proofs.YtddkhkpdbjjboaaGreat

/- Blocks as bits and back, in numbers: the tokens of a list of blocks, their bits, a source of tokens out of bits. No program is named here. -/
namespace Go.Proofs.YtddkhkpdbjjboaaGreat
set_option linter.unusedVariables false
set_option linter.unusedSimpArgs false
set_option maxRecDepth 100000

/-- The tokens of one block; true at the first one. -/
def flagT : List (Int × Int × Int) → List (Bool × Int × Int × Int)
  | [] => []
  | t :: l => (true, t) :: l.map fun x => (false, x)
/-- The tokens of blocks. -/
def toksB : Int → List (List Int) → List (Bool × Int × Int × Int)
  | _, [] => []
  | b, r :: L => flagT (toksZ b (toL r)) ++ toksB (r.headD 0) L
theorem flagT_length : ∀ l : List (Int × Int × Int), (flagT l).length = l.length
  | [] => rfl
  | t :: l => by simp [flagT]
theorem flagT_take : ∀ (l : List (Int × Int × Int)) (k : Nat), (flagT l).take k = flagT (l.take k)
  | [], k => by simp [flagT]
  | t :: l, 0 => by simp [flagT]
  | t :: l, k + 1 => by simp [flagT, List.map_take]
theorem flagT_at {l : List (Int × Int × Int)} {k : Nat} {t : Int × Int × Int} (h : l[k]? = some t) : (flagT l)[k]? = some (decide (k = 0), t) := by
  cases l with
  | nil => simp at h
  | cons x l =>
    cases k with
    | zero => simp at h; subst h; rfl
    | succ k =>
      simp only [List.getElem?_cons_succ] at h
      simp [flagT, h]
/-- The number 0 ahead of block k. -/
def ahead (L : List (List Int)) (k : Nat) : Int := if k = 0 then 0 else ((L.getD (k - 1) []).headD 0)
theorem toksB_snoc : ∀ (L : List (List Int)) (b : Int) (r : List Int), toksB b (L ++ [r]) = toksB b L ++ flagT (toksZ (if L = [] then b else (L.getLastD []).headD 0) (toL r))
  | [], b, r => by simp [toksB]
  | s :: L, b, r => by
    rw [List.cons_append, toksB, toksB_snoc L, toksB, List.append_assoc]
    congr 2
    cases L with
    | nil => simp
    | cons x L => simp
theorem toksB_next {L : List (List Int)} {k : Nat} {r : List Int} (h : L[k]? = some r) : toksB 0 (L.take (k + 1)) = toksB 0 (L.take k) ++ flagT (toksZ (ahead L k) (toL r)) := by
  rw [take_snoc h, toksB_snoc]
  congr 3
  unfold ahead
  have hk := (List.getElem?_eq_some_iff.1 h).1
  by_cases h0 : k = 0
  · subst h0; simp
  · rw [if_neg h0, if_neg (by intro e; have := congrArg List.length e; rw [List.length_take, List.length_nil] at this; omega)]
    have e : L.take k = L.take (k - 1) ++ [L.getD (k - 1) []] := by
      obtain ⟨x, hx⟩ := some_at (xs := L) (j := k - 1) (by omega)
      have := take_snoc hx
      rw [show k - 1 + 1 = k by omega] at this
      rw [this]; simp [hx]
    rw [e]; simp
theorem ahead_next {L : List (List Int)} {k : Nat} {r : List Int} (h : L[k]? = some r) : ahead L (k + 1) = r.headD 0 := by
  unfold ahead
  rw [if_neg (by omega)]; simp [h]
/-- The words for a token, by where it stands. -/
def wsOf (fw rw_ : List (Int × Nat × Nat)) (first : Bool) : List (Int × Nat × Nat) := if first = true then fw else rw_
/-- The bits of a token. -/
def tokBits (ws : List (Int × Nat × Nat)) (t : Int × Int × Int) : List Bool := symBits ws t.1 ++ bitsN t.2.1.toNat t.2.2.toNat
def segBits (fw rw_ : List (Int × Nat × Nat)) (l : List (Bool × Int × Int × Int)) : List Bool := l.flatMap fun x => tokBits (wsOf fw rw_ x.1) x.2
theorem segBits_append (fw rw_ : List (Int × Nat × Nat)) (a b : List (Bool × Int × Int × Int)) : segBits fw rw_ (a ++ b) = segBits fw rw_ a ++ segBits fw rw_ b := by simp [segBits]
theorem segBits_one (fw rw_ : List (Int × Nat × Nat)) (x : Bool × Int × Int × Int) : segBits fw rw_ [x] = tokBits (wsOf fw rw_ x.1) x.2 := by simp [segBits]
/-- Has each token a word? -/
def AllW (fw rw_ : List (Int × Nat × Nat)) (l : List (Bool × Int × Int × Int)) : Prop := ∀ x ∈ l, (symF (wsOf fw rw_ x.1) x.2.1).isSome = true
instance (fw rw_ : List (Int × Nat × Nat)) (l : List (Bool × Int × Int × Int)) : Decidable (AllW fw rw_ l) := by unfold AllW; infer_instance
theorem AllW.append {fw rw_ : List (Int × Nat × Nat)} {a b : List (Bool × Int × Int × Int)} (h1 : AllW fw rw_ a) (h2 : AllW fw rw_ b) : AllW fw rw_ (a ++ b) := fun x hx => by
  rcases List.mem_append.1 hx with h | h
  · exact h1 x h
  · exact h2 x h
/-- A token out of bits: an error, or the token and what is left. -/
def widS (first : Bool) (s : Int) : Int := if first = true then s else s % 16
def stepS (fw rw_ : List (Int × Nat × Nat)) (first : Bool) (b : List Bool) : Int ⊕ ((Int × Int × Int) × List Bool) :=
  if nextE (wsOf fw rw_ first) b ≠ 0 then .inl (nextE (wsOf fw rw_ first) b)
  else if 12 < widS first (nextS (wsOf fw rw_ first) b) ∨ (first = false ∧ 11 < widS first (nextS (wsOf fw rw_ first) b)) then .inl 4
  else if (b.drop (nextL (wsOf fw rw_ first) b)).length < (widS first (nextS (wsOf fw rw_ first) b)).toNat then .inl 3
  else .inr ((nextS (wsOf fw rw_ first) b, widS first (nextS (wsOf fw rw_ first) b), (valB ((b.drop (nextL (wsOf fw rw_ first) b)).take (widS first (nextS (wsOf fw rw_ first) b)).toNat) : Int)), (b.drop (nextL (wsOf fw rw_ first) b)).drop (widS first (nextS (wsOf fw rw_ first) b)).toNat)
theorem stepS_ne {fw rw_ : List (Int × Nat × Nat)} {first : Bool} {b : List Bool} {e : Int} (h : stepS fw rw_ first b = .inl e) : e ≠ 0 := by
  unfold stepS at h
  split at h
  · injection h with h; rename_i h1; rw [← h]; exact h1
  · split at h
    · injection h with h; omega
    · split at h
      · injection h with h; omega
      · cases h
/-- What a block's reader answers in numbers. -/
def outBk {σ : Type} (D : Int × List Int × List (Int × Int × Int) × Option σ) : List Int := if D.1 = 0 then fromL D.2.1 else zero64
/-- Blocks out of bits: an error, the blocks, what is left. -/
def decS (fw rw_ : List (Int × Nat × Nat)) : Nat → Int → List Bool → Int × List (List Int) × List Bool
  | 0, _, b => (0, [], b)
  | n + 1, before, b =>
    if (gB (stepS fw rw_) before b).1 = 0 then
      let x := fromL (gB (stepS fw rw_) before b).2.1
      let q := decS fw rw_ n (x.headD 0) ((gB (stepS fw rw_) before b).2.2.2.getD [])
      if q.1 = 0 then (0, x :: q.2.1, q.2.2) else (q.1, [], [])
    else ((gB (stepS fw rw_) before b).1, [], [])
/-- No more than fill is left. -/
def fillB (b : List Bool) : Bool := decide (b.length < 8) && b.all id
/-- Errors. -/
def eEnc (cs syms cs2 syms2 : List Int) (L : List (List Int)) : Int :=
  if checkErr cs syms ≠ 0 then checkErr cs syms else if checkErr cs2 syms2 ≠ 0 then checkErr cs2 syms2
  else if eL L ≠ 0 then eL L else if AllW (outWords cs syms) (outWords cs2 syms2) (toksB 0 L) then 0 else 5
end Go.Proofs.YtddkhkpdbjjboaaGreat

/- What the tokens of blocks are like. No program is named here. -/
namespace Go.Proofs.YtddkhkpdbjjboaaGreat
set_option linter.unusedVariables false
set_option linter.unusedSimpArgs false
set_option maxRecDepth 100000

/-- A token that a block may tell. -/
def goodT (t : Int × Int × Int) : Prop := fitT t = true ∧ 0 ≤ t.1 ∧ t.1 ≤ 255
theorem goodT_fit {t : Int × Int × Int} (h : goodT t) : (0 ≤ t.2.1 ∧ t.2.1 ≤ 12) ∧ 0 ≤ t.2.2 ∧ t.2.2 < pw t.2.1.toNat := by
  have h2 := h.1
  unfold fitT at h2
  have h3 := of_decide_eq_true h2
  exact ⟨⟨h3.1, h3.2.1⟩, h3.2.2.1, h3.2.2.2⟩
theorem rest_good : ∀ (zs : List Int) (r : Nat), (∀ z ∈ zs, -2047 ≤ z ∧ z ≤ 2047) → ∀ t ∈ restT r zs, goodT t
  | [], r, _, t, ht => by
    rw [restT_nil] at ht
    split at ht
    · simp at ht
    · rw [List.mem_singleton.1 ht]; exact ⟨by decide, by decide, by decide⟩
  | z :: zs, r, h, t, ht => by
    have hzs : ∀ z ∈ zs, -2047 ≤ z ∧ z ≤ 2047 := fun x hx => h x (List.mem_cons_of_mem _ hx)
    have hz := h z List.mem_cons_self
    by_cases h0 : z = 0
    · subst h0
      rw [restT_zero] at ht
      exact rest_good zs (r + 1) hzs t ht
    · rw [restT_cons r zs h0] at ht
      rcases List.mem_append.1 ht with ht | ht
      · rw [(List.mem_replicate.1 ht).2]; exact ⟨by decide, by decide, by decide⟩
      · rcases List.mem_cons.1 ht with rfl | ht
        · have := sz_11 hz.1 hz.2
          refine ⟨tkN_fit (by omega) (by omega), ?_, ?_⟩ <;> (unfold tkN; simp only []; omega)
        · exact rest_good zs 0 hzs t ht
theorem toks_good {b : Int} {zs : List Int} (hb : -2047 ≤ b ∧ b ≤ 2047) (h : ∀ z ∈ zs, -2047 ≤ z ∧ z ≤ 2047) : ∀ t ∈ toksZ b zs, goodT t := by
  intro t ht
  match zs, h, ht with
  | z :: zs, h, ht =>
    rw [toksZ] at ht
    have hz := h z List.mem_cons_self
    rcases List.mem_cons.1 ht with rfl | ht
    · have := sz_12 (n := z - b) (by omega) (by omega)
      refine ⟨tkN_fit (by omega) (by omega), ?_, ?_⟩ <;> (unfold tkN; simp only []; omega)
    · exact rest_good zs 0 (fun x hx => h x (List.mem_cons_of_mem _ hx)) t ht
theorem toksB_len : ∀ (L : List (List Int)) (b : Int), (toksB b L).length ≤ 64 * L.length
  | [], b => by simp [toksB]
  | r :: L, b => by
    have h1 := toksB_len L (r.headD 0)
    have h2 := toks_len b (toL_length r)
    simp only [toksB, List.length_append, flagT_length, List.length_cons]
    omega
theorem ahead_in {L : List (List Int)} {k : Nat} (hl : ∀ r ∈ L, r.length = 64) (h : ∀ r ∈ L.take k, inB (-2047) 2047 r = true) (hk : k ≤ L.length) : -2047 ≤ ahead L k ∧ ahead L k ≤ 2047 := by
  unfold ahead
  by_cases h0 : k = 0
  · rw [if_pos h0]; omega
  · rw [if_neg h0]
    obtain ⟨r, hr⟩ := some_at (xs := L) (j := k - 1) (by omega)
    have hm : r ∈ L.take k := by
      refine List.mem_of_getElem? (i := k - 1) ?_
      rw [List.getElem?_take, if_pos (by omega)]; exact hr
    have h2 := inB_mem.1 (h r hm)
    have h3 := hl r (List.mem_of_getElem? hr)
    rw [List.getD_eq_getElem?_getD, hr]
    match r, h3, h2 with
    | z :: r, _, h2 => exact h2 z List.mem_cons_self
end Go.Proofs.YtddkhkpdbjjboaaGreat

/- How often each symbol comes, in numbers. No program is named here. -/
namespace Go.Proofs.YtddkhkpdbjjboaaGreat
set_option linter.unusedVariables false
set_option linter.unusedSimpArgs false
set_option maxRecDepth 100000

def bump (xs : List Int) (i : Nat) : List Int := xs.set i (xs.getD i 0 + 1)
/-- How often each symbol is a first one (true), or another one. -/
def tally (b : Bool) (l : List (Bool × Int × Int × Int)) : List Int := l.foldl (fun a x => if x.1 = b then bump a x.2.1.toNat else a) (List.replicate 256 0)
theorem tally_nil (b : Bool) : tally b [] = List.replicate 256 0 := rfl
theorem tally_snoc (b : Bool) (l : List (Bool × Int × Int × Int)) (x : Bool × Int × Int × Int) : tally b (l ++ [x]) = if x.1 = b then bump (tally b l) x.2.1.toNat else tally b l := by
  unfold tally; rw [List.foldl_append]; rfl
theorem bump_length (xs : List Int) (i : Nat) : (bump xs i).length = xs.length := by simp [bump]
theorem snoc_list {α : Type} {P : List α → Prop} (h0 : P []) (h1 : ∀ l x, P l → P (l ++ [x])) (l : List α) : P l := by
  have : ∀ n (l : List α), l.length = n → P l := by
    intro n
    induction n with
    | zero => intro l h; rw [List.length_eq_zero_iff.1 h]; exact h0
    | succ n ih =>
      intro l h
      have hne : l ≠ [] := by intro e; rw [e] at h; cases h
      rw [← List.dropLast_concat_getLast hne]
      exact h1 _ _ (ih _ (by simp [h]))
  exact this _ l rfl
theorem tally_length (b : Bool) (l : List (Bool × Int × Int × Int)) : (tally b l).length = 256 := by
  refine snoc_list (P := fun l => (tally b l).length = 256) (by simp [tally_nil]) (fun l x h => ?_) l
  rw [tally_snoc]
  split
  · rw [bump_length]; exact h
  · exact h
theorem tally_in (b : Bool) (l : List (Bool × Int × Int × Int)) : ∀ z ∈ tally b l, 0 ≤ z ∧ z ≤ l.length := by
  refine snoc_list (P := fun l => ∀ z ∈ tally b l, 0 ≤ z ∧ z ≤ (l.length : Int)) (fun z hz => ?_) (fun l x h z hz => ?_) l
  · rw [tally_nil] at hz; rw [(List.mem_replicate.1 hz).2]; simp
  · rw [tally_snoc] at hz
    simp only [List.length_append, List.length_singleton]
    split at hz
    · unfold bump at hz
      rcases List.mem_or_eq_of_mem_set hz with hz | rfl
      · have := h z hz; omega
      · by_cases hi : x.2.1.toNat < (tally b l).length
        · obtain ⟨y, hy⟩ := some_at hi
          have := h y (List.mem_of_getElem? hy)
          rw [List.getD_eq_getElem?_getD, hy]; simp only [Option.getD_some]; omega
        · rw [List.getD_eq_getElem?_getD, List.getElem?_eq_none (by omega)]; simp only [Option.getD_none]; omega
    · have := h z hz; omega
/-- What Counts answers. -/
def cntL (b : Bool) (L : List (List Int)) : List Int := if eL L = 0 then tally b (toksB 0 L) else []
end Go.Proofs.YtddkhkpdbjjboaaGreat

/- Counts of several segments together, in numbers. No program is named here. -/
namespace Go.Proofs.YtddkhkpdbjjboaaGreat
set_option linter.unusedVariables false
set_option linter.unusedSimpArgs false
set_option maxRecDepth 100000

theorem fc_snoc {α : Type} : ∀ {l : List α} {k : Nat} {a : α}, l[k]? = some a → l.take (k + 1) = l.take k ++ [a]
  | [], k, a, h => by simp at h
  | b :: l, 0, a, h => by simp at h; simp [h]
  | b :: l, k + 1, a, h => by
    have ih := fc_snoc (l := l) (k := k) (a := a) (by simpa using h)
    rw [List.take_succ_cons, ih]; rfl
/-- The k-th segment of blocks cut so. -/
def piece (ps : List Nat) (L : List (List Int)) (k : Nat) : List (List Int) := (L.drop (ps.take k).sum).take (ps.getD k 0)
end Go.Proofs.YtddkhkpdbjjboaaGreat

/- How many blocks each segment has, in numbers; blocks cut into segments. No program is named here. -/
namespace Go.Proofs.YtddkhkpdbjjboaaGreat
set_option linter.unusedVariables false
set_option linter.unusedSimpArgs false
set_option maxRecDepth 100000

/-- Parts of e each, the last one with what is left. -/
def chunk (e : Nat) : Nat → List Nat
  | 0 => []
  | n + 1 => if e = 0 then [] else min (n + 1) e :: chunk e (n + 1 - e)
termination_by n => n
decreasing_by omega
/-- How many blocks each segment has. -/
def partsN (n e : Nat) : List Nat := if e = 0 ∨ n = 0 then [n] else chunk e n
theorem chunk_zero (e : Nat) : chunk e 0 = [] := by rw [chunk]
theorem chunk_pos {e n : Nat} (he : e ≠ 0) (hn : n ≠ 0) : chunk e n = min n e :: chunk e (n - e) := by
  obtain ⟨m, rfl⟩ : ∃ m, n = m + 1 := ⟨n - 1, by omega⟩
  rw [chunk, if_neg he]
theorem chunk_sum {e : Nat} (he : e ≠ 0) (n : Nat) : (chunk e n).sum = n := by
  induction n using Nat.strongRecOn with
  | _ n ih =>
    by_cases h : n = 0
    · subst h; rw [chunk_zero]; rfl
    · rw [chunk_pos he h, List.sum_cons, ih (n - e) (by omega)]; omega
theorem chunk_in {e : Nat} (he : e ≠ 0) (n : Nat) : ∀ x ∈ chunk e n, 1 ≤ x ∧ x ≤ e ∧ x ≤ n := by
  induction n using Nat.strongRecOn with
  | _ n ih =>
    by_cases h : n = 0
    · subst h; rw [chunk_zero]; simp
    · rw [chunk_pos he h]
      intro x hx
      rcases List.mem_cons.1 hx with rfl | hx
      · omega
      · have := ih (n - e) (by omega) x hx; omega
theorem chunk_len {e : Nat} (he : e ≠ 0) (n : Nat) : (chunk e n).length ≤ n := by
  induction n using Nat.strongRecOn with
  | _ n ih =>
    by_cases h : n = 0
    · subst h; rw [chunk_zero]; simp
    · rw [chunk_pos he h, List.length_cons]
      have := ih (n - e) (by omega); omega
theorem partsN_sum (n e : Nat) : (partsN n e).sum = n := by
  unfold partsN
  split
  · simp
  · rename_i h; exact chunk_sum (by omega) n
theorem partsN_in (n e : Nat) : ∀ x ∈ partsN n e, x ≤ n := by
  unfold partsN
  split
  · simp
  · rename_i h; exact fun x hx => (chunk_in (by omega) n x hx).2.2
theorem partsN_len (n e : Nat) : (partsN n e).length ≤ n + 1 := by
  unfold partsN
  split
  · simp
  · rename_i h; have := chunk_len (e := e) (by omega) n; omega
/-- A segment that can hold all is the only one. -/
theorem partsN_one {n e : Nat} (h : n ≤ e) : partsN n e = [n] := by
  unfold partsN
  split
  · rfl
  · rename_i h2; rw [chunk_pos (by omega) (by omega), show n - e = 0 by omega, chunk_zero, Nat.min_eq_left h]
theorem take_sum_le (ps : List Nat) (k : Nat) : (ps.take k).sum ≤ ps.sum := by
  have : ps.sum = (ps.take k).sum + (ps.drop k).sum := by rw [← List.sum_append, List.take_append_drop]
  omega
/-- Blocks cut into segments. -/
def segsOf {α : Type} : List Nat → List α → List (List α)
  | [], _ => []
  | n :: ps, L => L.take n :: segsOf ps (L.drop n)
theorem segsOf_length {α : Type} : ∀ (ps : List Nat) (L : List α), (segsOf ps L).length = ps.length
  | [], _ => rfl
  | n :: ps, L => by rw [segsOf, List.length_cons, List.length_cons, segsOf_length ps]
theorem segsOf_at {α : Type} : ∀ (ps : List Nat) (L : List α) (k : Nat) (n : Nat), ps[k]? = some n → (segsOf ps L)[k]? = some ((L.drop (ps.take k).sum).take n)
  | [], L, k, n, h => by simp at h
  | m :: ps, L, 0, n, h => by
    simp at h; subst h
    simp [segsOf]
  | m :: ps, L, k + 1, n, h => by
    rw [segsOf, List.getElem?_cons_succ, segsOf_at ps (L.drop m) k n (by simpa using h), List.drop_drop]
    simp
/-- The first error in a row. -/
def firstE : List Int → Int
  | [] => 0
  | e :: es => if e ≠ 0 then e else firstE es
theorem firstE_cons_ok (es : List Int) : firstE (0 :: es) = firstE es := by rw [firstE, if_neg (by decide)]
theorem firstE_cons_bad {e : Int} (h : e ≠ 0) (es : List Int) : firstE (e :: es) = e := by rw [firstE, if_pos h]
theorem firstE_zero : ∀ (es : List Int), firstE es = 0 ↔ ∀ e ∈ es, e = 0
  | [] => by simp [firstE]
  | e :: es => by
    by_cases h : e = 0
    · subst h; rw [firstE_cons_ok, firstE_zero es]; simp
    · rw [firstE_cons_bad h]
      simp [h]
theorem firstE_at {es : List Int} {k : Nat} {e : Int} (h0 : ∀ x ∈ es.take k, x = 0) (he : es[k]? = some e) (hn : e ≠ 0) : firstE es = e := by
  induction es generalizing k with
  | nil => simp at he
  | cons x es ih =>
    cases k with
    | zero => simp at he; subst he; exact firstE_cons_bad hn es
    | succ k =>
      have hx : x = 0 := h0 x (by simp)
      subst hx
      rw [firstE_cons_ok]
      exact ih (k := k) (fun y hy => h0 y (by simp [hy])) (by simpa using he)
end Go.Proofs.YtddkhkpdbjjboaaGreat

/- Appends onto rows of the call's own: which block the new slice lies in. No program is named here. -/
namespace Go.Proofs.YtddkhkpdbjjboaaGreat
open Go.RowKit
set_option linter.unusedVariables false
set_option linter.unusedSimpArgs false
set_option maxRecDepth 100000

/-- append of what is seen onto the first of the rows. -/
theorem run_ownV2 {P : Program} (w : World) (B : Nat) (t ty e : TypeId) (size bytes : Nat) (he : ElemOf P t e size bytes)
    (v : Value) (n : Nat) (xs : List Value) (rs : List Row) (HO : Owns B (⟨e, size, v, n, xs⟩ :: rs) w) (G : Nat) (A : Option Addr) (m c : Nat) (news : List Value) (hsee : Seen w G A news) (hl : news.length = m * size) (h1 : ∀ u ∈ news, u.oneCell' = true)
    (h63 : n + m ≤ maxLen) (hbytes : (n + m) * bytes ≤ 140737488355328) :
    ∃ v' w', (Builtin.append_ #[t, t] ty #[v, .slice A m c]).run P w = .ok v' w' ∧ Owns B (⟨e, size, v', n + m, xs ++ news⟩ :: rs) w' ∧ w.grownBy w' v.ownBlock ∧ Below B w w' ∧ (v'.ownBlock = v.ownBlock ∨ v'.ownBlock = some w.heap.size) := by
  have hown := HO.head
  have hB := HO.base
  have hap := (List.pairwise_cons.1 HO.apart).1
  obtain ⟨ht, hp, i, z, hi, hz0, hz1, hz2, hzs⟩ := he
  have fin : ∀ v' w', w'.ownsRow B e size v' (n + m) (xs ++ news) → w.grownBy w' v.ownBlock → (v'.ownBlock = v.ownBlock ∨ v'.ownBlock = some w.heap.size) → Owns B (⟨e, size, v', n + m, xs ++ news⟩ :: rs) w' ∧ w.grownBy w' v.ownBlock ∧ Below B w w' ∧ (v'.ownBlock = v.ownBlock ∨ v'.ownBlock = some w.heap.size) := by
    intro v' w' h2 h3 h4
    refine ⟨⟨Nat.le_trans hB h3.size, fun x hx => ?_, List.pairwise_cons.2 ⟨fun s hs g hg => ?_, HO.tail.apart⟩⟩, h3, (Below.refl _ _).grown h3 hB fun k hk => (hown.lt k hk).1, h4⟩
    · rcases List.mem_cons.1 hx with rfl | hx
      · exact h2
      · refine (HO.tail.each x hx).kept h3 ?_
        cases hv : x.v.ownBlock with
        | none => exact .inl rfl
        | some g => exact .inr fun e => hap x hx g e.symm hv
    · simp only at hg
      rcases h4 with h4 | h4
      · exact hap s hs g (h4.symm.trans hg)
      · rw [h4] at hg
        injection hg with hg
        intro hsg
        have := ((HO.tail.each s hs).lt g hsg).2
        omega
  rcases A with _ | ad
  · have hnews : news = [] := by
      rcases hsee with h | ⟨g, o, h, _⟩
      · exact h
      · cases h
    subst hnews
    have hm : m = 0 := by
      rcases Nat.eq_zero_or_pos m with h | h
      · exact h
      · have : 0 < m * size := Nat.mul_pos h hp
        simp at hl; omega
    subst hm
    refine ⟨v, w, ?_, fin v w (by simpa using hown) (World.grownBy.refl w _) (.inl rfl)⟩
    rcases hown.2 with ⟨h5, h6⟩ | ⟨g, cap, cur, h5, _, _, hnc, _⟩
    · simp only at h5 h6
      subst h5 h6
      simp [Builtin.append_, run_underlying ht, sizeOf, typeInfo, hi, Builtin.lenOf, Builtin.firstCells]
    · simp only at h5 hnc
      subst h5
      simp [Builtin.append_, run_underlying ht, sizeOf, typeInfo, hi, Builtin.lenOf, Builtin.firstCells, hnc, storeCells]
  · have hc : ∀ j u, news[j]? = some u → w.cell? (ad.add j) = some u := by
      rcases hsee with h | ⟨g, o, h, _, hc⟩
      · subst h; intro j u hu; simp at hu
      · injection h with h
        subst h
        intro j u hu
        rw [addr_add]
        exact hc j u hu
    obtain ⟨v', w', hr, h2, h3, _, h4⟩ := run_append_own_at (P := P) w B t ty e i z size bytes ht hi hz0 hz1 hz2 hzs hp v n xs hown ad m c news hl hc h1 h63 hbytes hB
    exact ⟨v', w', hr, fin v' w' h2 h3 h4⟩
theorem wp_ownV2 {P : Program} {o : Oper} {a : Act} {K : Act → World → Prop} {Q : Exit → Act → World → Prop} (w : World) (s x : Operand) (t : TypeId)
    (ho : o.op = .call { callee := .builtin .append, args := #[s, x], argTypes := #[t, t] })
    (B : Nat) (e : TypeId) (size bytes : Nat) (he : ElemOf P t e size bytes)
    (v : Value) (n : Nat) (xs : List Value) (rs : List Row) (hs : a.eval s = v) (HO : Owns B (⟨e, size, v, n, xs⟩ :: rs) w) (G : Nat) (A : Option Addr) (m c : Nat) (news : List Value) (hx : a.eval x = .slice A m c) (hsee : Seen w G A news) (hl : news.length = m * size) (h1 : ∀ u ∈ news, u.oneCell' = true)
    (h63 : n + m ≤ maxLen) (hbytes : (n + m) * bytes ≤ 140737488355328)
    (h : ∀ v' w', Owns B (⟨e, size, v', n + m, xs ++ news⟩ :: rs) w' → w.grownBy w' v.ownBlock → Below B w w' → (v'.ownBlock = v.ownBlock ∨ v'.ownBlock = some w.heap.size) → K (a.put o.dst v') w') : o.wp P a w K Q := by
  obtain ⟨v', w', hr, h2, h3, h4, h5⟩ := run_ownV2 (P := P) w B t o.type e size bytes he v n xs rs HO G A m c news hsee hl h1 h63 hbytes
  unfold Oper.wp execOp
  simp only [ho, resolve, invoke, builtin, Sem.run_bind, Sem.run_pure, Result.andThen_ok, List.map_toArray, List.map_cons, List.map_nil, hs, hx, hr]
  exact h v' w' h2 h3 h4 h5
/-- In a region: append of what is seen. -/
theorem step_ownV2 {P : Program} {ops : Array Oper} {o : Oper} {a : Act} {K : Act → World → Prop} {Q : Exit → Act → World → Prop} {E : Prop} (w : World) (hgd : Region.wanted o (yielded ops a.tmps) = true) (s x : Operand) (t : TypeId)
    (ho : o.op = .call { callee := .builtin .append, args := #[s, x], argTypes := #[t, t] })
    (B : Nat) (e : TypeId) (size bytes : Nat) (he : ElemOf P t e size bytes)
    (v : Value) (n : Nat) (xs : List Value) (rs : List Row) (hs : a.eval s = v) (HO : Owns B (⟨e, size, v, n, xs⟩ :: rs) w) (G : Nat) (A : Option Addr) (m c : Nat) (news : List Value) (hx : a.eval x = .slice A m c) (hsee : Seen w G A news) (hl : news.length = m * size) (h1 : ∀ u ∈ news, u.oneCell' = true)
    (h63 : n + m ≤ maxLen) (hbytes : (n + m) * bytes ≤ 140737488355328)
    (h : ∀ v' w', Owns B (⟨e, size, v', n + m, xs ++ news⟩ :: rs) w' → w.grownBy w' v.ownBlock → Below B w w' → (v'.ownBlock = v.ownBlock ∨ v'.ownBlock = some w.heap.size) → K (a.put o.dst v') w') :
    if Region.wanted o (yielded ops a.tmps) = true then Oper.wp P o a w K Q else E := by
  rw [if_pos hgd]
  exact wp_ownV2 w s x t ho B e size bytes he v n xs rs hs HO G A m c news hx hsee hl h1 h63 hbytes h
end Go.Proofs.YtddkhkpdbjjboaaGreat

/- What only some blocks of those that were there may see changed. No program is named here. -/
namespace Go.Proofs.YtddkhkpdbjjboaaGreat
open Go.RowKit
set_option linter.unusedVariables false
set_option linter.unusedSimpArgs false
set_option maxRecDepth 100000

/-- Of the blocks that were there only those of F may have changed. -/
structure Only (F : Nat → Prop) (w w' : World) : Prop where
  os : w'.os = w.os
  tape : w'.tape = w.tape
  output : w'.output = w.output
  size : w.heap.size ≤ w'.heap.size
  block : ∀ k, k < w.heap.size → ¬ F k → w'.heap[k]? = w.heap[k]?
section
variable {F F' : Nat → Prop} {w w1 w2 : World}
theorem Only.refl (F : Nat → Prop) (w : World) : Only F w w := ⟨rfl, rfl, rfl, Nat.le_refl _, fun _ _ _ => rfl⟩
theorem Only.trans (h : Only F w w1) (h2 : Only F' w1 w2) (hF : ∀ q, F' q → F q ∨ w.heap.size ≤ q) : Only F w w2 :=
  ⟨h2.os.trans h.os, h2.tape.trans h.tape, h2.output.trans h.output, Nat.le_trans h.size h2.size, fun k hk hn => (h2.block k (by have := h.size; omega) (fun hf => by rcases hF k hf with h | h; exact hn h; omega)).trans (h.block k hk hn)⟩
theorem Only.of_below {B : Nat} (h : Below B w w1) (hB : w.heap.size ≤ B) : Only F w w1 := ⟨h.os, h.tape, h.output, h.size, fun k hk _ => h.block k (by omega)⟩
theorem Only.of_grown {r : Option Nat} (h : w.grownBy w1 r) (hr : ∀ g, r = some g → F g ∨ w.heap.size ≤ g) : Only F w w1 :=
  ⟨h.os, h.tape, h.output, h.size, fun k hk hn => h.block k hk (fun e => by rcases hr k e.symm with h | h; exact hn h; omega)⟩
theorem Only.mono (h : Only F w w1) (hF : ∀ q, F q → F' q ∨ w.heap.size ≤ q) : Only F' w w1 := ⟨h.os, h.tape, h.output, h.size, fun k hk hn => h.block k hk (fun hf => by rcases hF k hf with h | h; exact hn h; omega)⟩
theorem Only.below (h : Only F w w1) {B : Nat} (hB : B ≤ w.heap.size) (hF : ∀ q, F q → B ≤ q) : Below B w w1 :=
  ⟨h.os, h.tape, h.output, h.size, fun k hk => h.block k (by omega) (fun hf => by have := hF k hf; omega)⟩
theorem Only.blk (h : Only F w w1) {b : Nat} {xs : List Value} {t : TypeId} (hb : Blk w b xs t) (hn : ¬ F b) : Blk w1 b xs t := by
  have := hb.lt
  unfold Blk at hb ⊢
  rw [h.block b this hn]; exact hb
theorem Only.cell (h : Only F w w1) {a : Addr} (ha : a.block < w.heap.size) (hn : ¬ F a.block) : w1.cell? a = w.cell? a := World.cell?_of_block (h.block a.block ha hn)
theorem Seen.only {G : Nat} {A : Option Addr} {xs : List Value} (h : Seen w G A xs) (hb : Only F w w1) (hG : G ≤ w.heap.size) (hF : ∀ q, F q → G ≤ q) : Seen w1 G A xs := h.below (hb.below hG hF) (Nat.le_refl _)
theorem Owns.only {B : Nat} {rs : List Row} (h : Owns B rs w) (hb : Only F w w1) (hF : ∀ r ∈ rs, ∀ g, r.v.ownBlock = some g → ¬ F g) : Owns B rs w1 := by
  refine ⟨Nat.le_trans h.base hb.size, fun r hr => ?_, h.apart⟩
  have hlt := fun g hg => ((h.each r hr).lt g hg).2
  obtain ⟨h1, h2⟩ := h.each r hr
  refine ⟨h1, ?_⟩
  rcases h2 with h2 | ⟨g, cap, cur, hv, hg, hh, r2⟩
  · exact .inl h2
  · have ho : r.v.ownBlock = some g := by rw [hv]; rfl
    exact .inr ⟨g, cap, cur, hv, hg, by rw [hb.block g (hlt g ho) (hF r hr g ho)]; exact hh, r2⟩
end
end Go.Proofs.YtddkhkpdbjjboaaGreat

/- Small laws for two appends in one statement (a region that draws its order): where each source lies, in whatever order. No program is named here. -/
namespace Go.Proofs.YtddkhkpdbjjboaaGreat
open Go.RowKit
set_option linter.unusedVariables false
set_option linter.unusedSimpArgs false
set_option maxRecDepth 100000

/-- A source that was laid before, behind an append onto another row. -/
theorem reg_grown {w w' : World} {q G : Nat} {xs : List Value} {row : Option Nat} (hs : Seen w G (some ⟨q, 0, none⟩) xs) (hg : w.grownBy w' row) (hr : ∀ g, row = some g → g < q) (hq : q < w.heap.size) : Seen w' G (some ⟨q, 0, none⟩) xs := by
  rcases hs with h | ⟨g, o, h, hlt, hc⟩
  · exact .inl h
  · injection h with h
    injection h with h1 h2
    subst h1 h2
    refine .inr ⟨_, _, rfl, hlt, fun j y hy => ?_⟩
    rw [hg.cell_far _ hq (fun e => by have := hr q e.symm; omega)]
    exact hc j y hy
theorem reg_far {w w' : World} {row : Option Nat} {B i : Nat} {u : Value} (hg : w.grownBy w' row) (hne : some B ≠ row) (hc : w.cell? ⟨B, i, none⟩ = some u) : w'.cell? ⟨B, i, none⟩ = some u :=
  (hg.cell_far _ (World.block_lt_of_cell? w _ hc) hne).trans hc
theorem reg_by0 (W : World) : W.drew.heap.size < W.heap.size + 2 := by show W.heap.size < _; omega
theorem reg_size (W : World) {o : Obj} : (W.drew.alloc o).heap.size = W.heap.size + 1 := by simp
theorem reg_lt0 (W : World) (o p : Obj) : W.heap.size < ((W.drew.alloc o).alloc p).heap.size := by simp; omega
theorem reg_lt1 (W : World) (o p : Obj) : W.heap.size + 1 < ((W.drew.alloc o).alloc p).heap.size := by simp
/-- The one laid second. -/
theorem reg_new1 (W : World) (o : Obj) (xs : List Value) {t : TypeId} : Seen ((W.drew.alloc o).alloc (.cells xs.toArray t)) (W.heap.size + 2) (some ⟨W.heap.size + 1, 0, none⟩) xs := by
  have h := Seen.new (W.drew.alloc o) xs t (W.heap.size + 2) (by simp)
  rw [reg_size] at h
  exact h
/-- The one laid first, another behind it. -/
theorem reg_new0 (W : World) (xs : List Value) {t : TypeId} (o : Obj) : Seen ((W.drew.alloc (.cells xs.toArray t)).alloc o) (W.heap.size + 1) (some ⟨W.heap.size, 0, none⟩) xs :=
  (Seen.new W.drew xs t (W.heap.size + 1) (Nat.lt_succ_self _)).alloc (Nat.le_of_eq (reg_size W).symm) _
theorem reg_below1 {B : Nat} {W w1 w2 : World} {o p : Obj} (h1 : Below B (W.drew.alloc o) w1) (h2 : Below B (w1.alloc p) w2) (hB : B ≤ W.heap.size) : Below B W w2 := by
  have h0 : Below B W (W.drew.alloc o) := ((Below.refl B W).drew).alloc hB o
  have h3 := h0.trans h1
  exact h3.trans (((Below.refl B w1).alloc (Nat.le_trans hB h3.size) p).trans h2)
theorem reg_below2 {B : Nat} {W w1 w2 : World} {o p : Obj} (h1 : Below B ((W.drew.alloc o).alloc p) w1) (h2 : Below B w1 w2) (hB : B ≤ W.heap.size) : Below B W w2 := by
  have h0 : Below B W ((W.drew.alloc o).alloc p) := (((Below.refl B W).drew).alloc hB o).alloc (by simp; omega) p
  exact (h0.trans h1).trans h2
/-- A part of a slice, as the model cuts it. -/
def cutV (A : Option Addr) (f h c : Nat) : Value := .slice (if c = f then A else A.map (·.add f)) (h - f) (c - f)
theorem cutV_seen {w : World} {G c f h : Nat} {A : Option Addr} {k : IntKind} {bs : List Int} (hs : Seen w G A (ints k bs)) (hf : f ≤ h) (hh : h ≤ bs.length) (hc : h ≤ c) :
    ∃ A', cutV A f h c = .slice A' (h - f) (c - f) ∧ Seen w G A' (ints k ((bs.drop f).take (h - f))) := by
  refine ⟨_, rfl, ?_⟩
  by_cases hcf : c = f
  · have : h - f = 0 := by omega
    rw [this]; exact .inl rfl
  · rw [if_neg hcf]
    rcases hs with hs | ⟨g, o, rfl, hg, hcell⟩
    · have : bs = [] := by simpa [ints] using hs
      subst this
      exact .inl (by simp [ints])
    · refine .inr ⟨g, o + f, by simp [addr_add], hg, fun j u hu => ?_⟩
      have hj := (List.getElem?_eq_some_iff.1 hu).1
      rw [ints_length, List.length_take, List.length_drop] at hj
      have e : (ints k bs)[f + j]? = some u := by
        rw [← hu]; simp only [ints, List.getElem?_map, List.getElem?_take, List.getElem?_drop]
        rw [if_pos (by omega)]
      have := hcell _ _ e
      rw [← this]; congr 2; omega
theorem cutV_length {bs : List Int} {f h : Nat} (hh : h ≤ bs.length) : ((bs.drop f).take (h - f)).length = h - f := by simp; omega
end Go.Proofs.YtddkhkpdbjjboaaGreat

/- Parts of a slice of bytes. -/
namespace Go.Proofs.YtddkhkpdbjjboaaGreat
open Go.RowKit
set_option linter.unusedVariables false
set_option linter.unusedSimpArgs false
set_option maxRecDepth 100000

theorem run_cutB_to (A : Option Addr) (n c h : Nat) (h2 : h ≤ c) (u : World) : (Instr.sliceAt 28 (.slice A n c) none (some (.int .i64 (h : Int))) none).run Tryz.prog u = .ok (.slice A h c) u := by
  have he : Tryz.prog.underlying 28 = some (.slice (Tryz.prog.elem 28)) := by kernel_rfl
  have hz : (sizeOf (Tryz.prog.elem 28)).run Tryz.prog u = .ok 1 u := by kernel_rfl
  rw [run_sliceAt_slice _ _ _ _ _ _ he, run_slice_h _ _ _ _ _ he _ _ (by omega) (by omega), hz]
  simp [Result.andThen, sliced]
  intro _
  cases A with
  | none => rfl
  | some a => simp [Addr.add]
theorem run_cutB_end (A : Option Addr) (n c f : Nat) (h1 : f ≤ n) (u : World) : (Instr.sliceAt 28 (.slice A n c) (some (.int .i64 (f : Int))) none none).run Tryz.prog u = .ok (cutV A f n c) u := by
  have he : Tryz.prog.underlying 28 = some (.slice (Tryz.prog.elem 28)) := by kernel_rfl
  have hz : (sizeOf (Tryz.prog.elem 28)).run Tryz.prog u = .ok 1 u := by kernel_rfl
  rw [run_sliceAt_slice _ _ _ _ _ _ he, run_slice_l _ _ _ _ _ he _ _ (by omega) (by omega), hz]
  simp [Result.andThen, sliced, cutV]
theorem cutB_drop {w : World} {G c f : Nat} {A : Option Addr} {bs : List Int} (hs : Seen w G A (ints .u8 bs)) (hf : f ≤ bs.length) (hc : bs.length ≤ c) :
    ∃ A', cutV A f bs.length c = .slice A' (bs.drop f).length (c - f) ∧ Seen w G A' (ints .u8 (bs.drop f)) := by
  obtain ⟨A', h1, h2⟩ := cutV_seen hs hf (Nat.le_refl _) hc
  refine ⟨A', by rw [h1, List.length_drop], ?_⟩
  rwa [List.take_of_length_le (by simp)] at h2
theorem unpack_drop (bs : List Int) (q : Nat) : unpack (bs.drop q) = (unpack bs).drop (8 * q) := by
  by_cases h : q ≤ bs.length
  · have e := unpack_append (bs.take q) (bs.drop q)
    rw [List.take_append_drop] at e
    rw [e, List.drop_left' (by rw [unpack_length, List.length_take]; omega)]
  · rw [List.drop_of_length_le (by omega), unpack_nil, List.drop_of_length_le (by rw [unpack_length]; omega)]
theorem unpack_take (bs : List Int) (q : Nat) : unpack (bs.take q) = (unpack bs).take (8 * q) := by
  by_cases h : q ≤ bs.length
  · have e := unpack_append (bs.take q) (bs.drop q)
    rw [List.take_append_drop] at e
    rw [e, List.take_left' (by rw [unpack_length, List.length_take]; omega)]
  · rw [List.take_of_length_le (by omega), List.take_of_length_le (by rw [unpack_length]; omega)]
end Go.Proofs.YtddkhkpdbjjboaaGreat
