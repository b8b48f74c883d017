/- The reference's BestCheck and Cost: the same contracts as Cost's. -/
import Derived.Test.YthelblkpfkngmaaRefWordOf
import Derived.Test.YthelblkpfkngmaaBestCost
namespace Go.Proofs.Ythelblkpfkngmaa
open Go.RowKit
set_option linter.unusedVariables false
set_option linter.unusedSimpArgs false

theorem outB_not (x : Int) : (!(decide (0 ≤ x) && decide (x ≤ 9999))) = outB x := by
  unfold outB
  by_cases h1 : x < 0 <;> by_cases h2 : 9999 < x <;> simp [h1, h2] <;> omega
set_option maxHeartbeats 1000000 in
theorem refBestCheck_any (A : Option Addr) (c G : Nat) (xs : List Int) (w : World) (hs : Seen w G A (ints .i64 xs)) (hl : xs.length ≤ maxLen) :
    Calls Try.prog 17 #[.slice A xs.length c] w fun e w' => e = .returned (.int .i64 (errB xs)) ∧ w = w' := by
  unfold maxLen at hl
  obtain ⟨E, hE⟩ : ∃ E, E = errB xs := ⟨_, rfl⟩
  rw [← hE]
  have HE := veil hE; clear hE
  by_cases h1 : 256 < xs.length
  · have h1z : (256 : Int) < (xs.length : Int) := by omega
    have HE2 : Hid (E = 2) := by rw [Hid, HE.out]; unfold errB; rw [if_pos h1]
    go_enter Try.func17, Try.ntmps17
    go_wp2
    go_ret
    exact ⟨by rw [HE2.out]; rfl, rfl⟩
  · have h1z : ¬ (256 : Int) < (xs.length : Int) := by omega
    have HE2 : Hid (E = if xs.any outB then 1 else 0) := by rw [Hid, HE.out]; unfold errB; rw [if_neg h1]
    clear HE
    go_enter Try.func17, Try.ntmps17
    go_wp2
    go_loopg [10] xs.length (fun gk i wr => ∃ k : Nat, gk = xs.length - k ∧ k ≤ xs.length ∧ i = .int .i64 (k : Int) ∧ w = wr ∧ Hid ((xs.take k).any outB = false))
    case atStart => exact ⟨0, rfl, by omega, rfl, rfl, by simp [Hid]⟩
    case round =>
      obtain ⟨k, rfl, hk, rfl, rfl, H⟩ := hrel
      by_cases hlt : k < xs.length
      · have hltz : (k : Int) < (xs.length : Int) := by omega
        obtain ⟨g, o, x, rfl, hg, hx, hc⟩ := hs.int hlt
        have Hx := veil hx; clear hx
        have HC := veil (outside_any x 0 9999 w)
        rw [outB_not] at HC
        by_cases ho : outB x = true
        · rw [ho] at HC
          have hany : Hid (xs.any outB = true) := List.any_eq_true.2 ⟨x, List.mem_of_getElem? Hx.out, ho⟩
          clear ho
          go_wp2_with fail
          refine HC.out.mono ?_
          rintro e w' ⟨rfl, rfl⟩
          go_wp2
          go_ret
          exact ⟨by rw [HE2.out, hany.out]; rfl, rfl⟩
        · have ho : outB x = false := by simpa using ho
          rw [ho] at HC
          have Ho := veil ho; clear ho
          go_wp2_with fail
          refine HC.out.mono ?_
          rintro e w' ⟨rfl, rfl⟩
          go_wp2
          go_roundg (xs.length - (k + 1))
          case rel => exact ⟨k + 1, rfl, by omega, by go_num, rfl, by rw [Hid, take_snoc Hx.out, List.any_append, H.out]; simp [Ho.out]⟩
          case measure => omega
      · have hltz : ¬ (k : Int) < (xs.length : Int) := by omega
        have hany : Hid (xs.any outB = false) := by
          have h1 := H.out
          rw [List.take_of_length_le (by omega)] at h1
          exact h1
        go_wp2
        go_ret
        exact ⟨by rw [HE2.out, hany.out]; rfl, rfl⟩
theorem lenF_sym (ws : List (Int × Nat × Nat)) (x : Int) : lenF ws x = (symF ws x).map (·.1) := by
  induction ws using snoc_ind with
  | h0 => rfl
  | h1 ws t ih =>
    rw [lenF_snoc, symF_snoc]
    unfold upd
    split
    · rfl
    · exact ih
theorem symBits_len (ws : List (Int × Nat × Nat)) (x : Int) : (symBits ws x).length = ((lenF ws x).getD 0).toNat := by
  unfold symBits
  rw [bitsN_length, lenF_sym]
  cases symF ws x <;> rfl

set_option maxRecDepth 100000 in
set_option maxHeartbeats 4000000 in
theorem refCost_any (cs syms zs : List Int) (A A2 : Option Addr) (c c2 G : Nat) (w : World) (hcs : cs.length = 16) (hn : syms.length ≤ maxLen) (hcap : syms.length ≤ c) (hb : ∀ x ∈ cs, -9223372036854775808 ≤ x ∧ x ≤ 9223372036854775807) (hs : Seen w G A (ints .i64 syms)) (hz : Seen w G A2 (ints .i64 zs)) (hG : G ≤ w.heap.size) (hzl : zs.length ≤ maxLen) :
    Calls Try.prog 14 #[tabV cs A syms.length c, .slice A2 zs.length c2] w fun e w' => e = .returned (.tuple #[.int .i64 (costV cs syms zs), .int .i64 (costE cs syms zs)]) ∧ Below w.heap.size w w' := by
  obtain ⟨E0, hE0⟩ : ∃ E, E = costE cs syms zs := ⟨_, rfl⟩
  obtain ⟨V0, hV0⟩ : ∃ V, V = costV cs syms zs := ⟨_, rfl⟩
  rw [← hE0, ← hV0]
  have HEe := veil hE0; have HVv := veil hV0
  clear hE0 hV0
  have hlen17 : (tabCells cs A syms.length c).length = 17 := tabCells_length hcs
  have HW := veil (fun w1 h1 hG1 => refCheck_any cs syms A c G w1 hcs hn hcap hb h1 hG1)
  have HWo : Hid (∀ l, Fine cs syms l → ∀ (x : Int) w1, Seen w1 G A (ints .i64 syms) → G ≤ w1.heap.size → Calls Try.prog 27 #[tabV cs A syms.length c, .int .i64 x] w1 fun e w' => e = .returned (.tuple #[.string (txt (symBits (mkWords syms l) x)), .bool (symF (mkWords syms l) x).isSome]) ∧ Below w1.heap.size w1 w') := fun l hf x w1 h1 h2 => wordOf_any cs syms l A c G x w1 hcs hf h1 h2
  have Hcs := veil hcs
  clear hcs hb hn
  obtain ⟨xs, hxs⟩ : ∃ xs, xs = tabCells cs A syms.length c := ⟨_, rfl⟩
  have Hr := veil (range_new w xs 25)
  unfold tabV at HW HWo ⊢
  rw [← hxs] at hlen17 HW HWo ⊢
  clear hxs
  have H17 := veil hlen17; clear hlen17
  go_enter Try.func14, Try.ntmps14
  go_wp2_with (first
    | (refine wpList_load_mid rfl 25 (.tmp 2) rfl w.heap.size 0 rfl xs _ Hr.out Try.underlying25 rfl (by rw [H17.out]; exact info_tab) ?_)
    | fail)
  refine (HW.out _ (hs.alloc hG _) (by simp; omega)).mono ?_
  rintro e w1 ⟨rfl, hb1⟩
  have hbel1 : Below w.heap.size w w1 := (below1 _ _).trans (hb1.mono (by simp))
  have hz1 := hb1.size
  simp at hz1
  have hzs := hz.below hbel1 hG
  have Hr1 := veil (range_below Hr.out hb1 (by simp))
  clear Hr HW hb1
  by_cases h0 : checkErr cs syms = 0
  · obtain ⟨l, hf, how, hll⟩ := fine_of h0
    have hws := words_small Hcs.out h0
    have HE0 : Hid (E0 = if errB zs ≠ 0 then errB zs else if missB (lenF (outWords cs syms)) (enumI zs) then 5 else 0) := by rw [Hid, HEe.out]; unfold costE; rw [if_neg (by rw [h0]; simp)]
    have HV0 : Hid (V0 = if E0 = 0 then costSum (lenF (outWords cs syms)) (enumI zs) else 0) := by rw [Hid, HVv.out, HEe.out]; rfl
    have HWl := veil (HWo.out l hf)
    have hfr := lenF_range (ws := outWords cs syms) fun t ht => (hws t ht).2.2.2
    rw [how] at HE0 HV0 hfr
    rw [h0]
    have Hfr := veil hfr
    clear HEe HVv h0 hws hf hll HWo how hfr
    have HL : Hid (∀ x, (symBits (mkWords syms l) x).length = ((lenF (mkWords syms l) x).getD 0).toNat ∧ (symF (mkWords syms l) x).isSome = (lenF (mkWords syms l) x).isSome) := fun x => ⟨symBits_len _ _, by rw [lenF_sym]; simp⟩
    have HB := veil (refBestCheck_any A2 c2 G zs w1 hzs hzl)
    go_wp2_with fail
    refine HB.out.mono ?_
    rintro e w1' ⟨rfl, rfl⟩
    clear HB
    by_cases h1 : errB zs = 0
    · obtain ⟨hz256, hzb⟩ := errB_ok h1
      have Hzb := veil hzb; clear hzb
      have HE1 : Hid (E0 = if missB (lenF (mkWords syms l)) (enumI zs) then 5 else 0) := by rw [Hid, HE0.out, h1]; simp
      clear HE0
      rw [h1]
      clear h1
      generalize lenF (mkWords syms l) = f at *
      go_wp2_with fail
      go_loopg [8, 25] zs.length (fun gk sm i wr => ∃ k : Nat, gk = zs.length - k ∧ k ≤ zs.length ∧ i = .int .i64 (k : Int) ∧ sm = .int .i64 (costSum f ((enumI zs).take k)) ∧ Below (w.heap.size + 1) w1 wr ∧ Hid (missB f ((enumI zs).take k) = false))
      case atStart => exact ⟨0, rfl, Nat.zero_le _, rfl, rfl, Below.refl _ _, rfl⟩
      case round =>
        obtain ⟨k, rfl, hk, rfl, rfl, hbk, HQ⟩ := hrel
        have hcb := costSum_bound (l := (enumI zs).take k) Hfr.out (fun p hp => Hzb.out _ (enumI_mem (List.mem_of_mem_take hp)).1)
        have hcb2 : costSum f ((enumI zs).take k) ≤ 159984 * 256 := by
          have h5 : ((enumI zs).take k).length ≤ 256 := by rw [List.length_take, enumI_length]; omega
          omega
        have hbw : Below w.heap.size w wr := hbel1.trans (hbk.mono (by omega))
        by_cases hlt : k < zs.length
        · have hltz : (k : Int) < (zs.length : Int) := by omega
          obtain ⟨g, o, x, rfl, hg, hx, hcx⟩ := (hz.below hbw hG).int hlt
          have hxb := Hzb.out x (List.mem_of_getElem? hx)
          have hfb := Hfr.out (k : Int)
          have hmb := mul_bound hxb hfb
          have HS := veil (costSum_snoc f ((enumI zs).take k) ((k : Int), x))
          have HQ2 := veil (missB_snoc f ((enumI zs).take k) ((k : Int), x))
          rw [← take_snoc (enumI_at hx)] at HS HQ2
          have hcs0 := hcb.1
          clear hcb
          have hzr := hbk.size
          have hrk := veil (show wr.rangeAt w.heap.size 0 xs from range_below Hr1.out hbk (by omega))
          have HWk := veil (HWl.out (k : Int) wr (hs.below hbw hG) (by omega))
          obtain ⟨hl1, hl2⟩ := HL.out (k : Int)
          rw [hl2] at HWk
          have hsz : (txt (symBits (mkWords syms l) (k : Int))).size = ((f (k : Int)).getD 0).toNat := by rw [txt_size, hl1]
          generalize txt (symBits (mkWords syms l) (k : Int)) = T at *
          clear hl1 hl2
          cases hfk : f (k : Int) with
          | some b =>
            rw [hfk] at HWk hfb hmb hsz
            simp only [Option.getD_some, Option.isSome_some] at HWk hfb hmb hsz
            have hin : Hid (missB f ((enumI zs).take (k + 1)) = false) := by
              rw [Hid, HQ2.out, HQ.out]; simp [hfk]
            have HS' : Hid (costSum f ((enumI zs).take (k + 1)) = costSum f ((enumI zs).take k) + x * b) := by rw [Hid, HS.out]; simp [hfk]
            have hTb : ((T.size : Nat) : Int) = b := by omega
            have Hsz := veil hsz
            clear hx HS hfk HQ2 hsz
            generalize costSum f ((enumI zs).take k) = sm at *
            go_wp2_with (first
              | (refine wpList_load_mid rfl 25 (.tmp 2) rfl w.heap.size 0 rfl xs _ hrk.out Try.underlying25 rfl (by rw [H17.out]; exact info_tab) ?_)
              | fail)
            refine HWk.out.mono ?_
            rintro e w2 ⟨rfl, hb2⟩
            have hbk2 : Below (w.heap.size + 1) w1 w2 := hbk.trans (hb2.mono (by omega))
            by_cases hx0 : 0 < x
            · go_wp2_with fail
              go_roundg (zs.length - (k + 1))
              case rel => exact ⟨k + 1, rfl, by omega, by go_num, by rw [HS'.out], hbk2, hin⟩
              case measure => omega
            · go_wp2_with fail
              go_roundg (zs.length - (k + 1))
              case rel => exact ⟨k + 1, rfl, by omega, by go_num, by rw [HS'.out], hbk2, hin⟩
              case measure => omega
          | none =>
            rw [hfk] at HWk hsz
            simp only [Option.getD_none, Option.isSome_none] at HWk hsz
            have hTb : ((T.size : Nat) : Int) = 0 := by omega
            have hT0 : T.size = 0 := by omega
            clear hsz
            by_cases hx0 : 0 < x
            · have hbad : Hid (missB f (enumI zs) = true) := by
                rw [Hid]
                unfold missB
                rw [List.any_eq_true]
                exact ⟨((k : Int), x), List.mem_of_getElem? (enumI_at hx), by simp [hfk, hx0]⟩
              clear hx HS hfk HQ2
              generalize costSum f ((enumI zs).take k) = sm at *
              go_wp2_with (first
                | (refine wpList_load_mid rfl 25 (.tmp 2) rfl w.heap.size 0 rfl xs _ hrk.out Try.underlying25 rfl (by rw [H17.out]; exact info_tab) ?_)
                | fail)
              refine HWk.out.mono ?_
              rintro e w2 ⟨rfl, hb2⟩
              have hbf : Below w.heap.size w w2 := hbw.trans (hb2.mono (by omega))
              go_wp2_with fail
              go_ret2
              have hE : E0 = 5 := by rw [HE1.out, hbad.out]; rfl
              exact ⟨ret_two (by rw [HV0.out, hE]; rfl) (by rw [hE]; rfl), hbf⟩
            · have hin : Hid (missB f ((enumI zs).take (k + 1)) = false) := by
                rw [Hid, HQ2.out, HQ.out]; simp; omega
              have HS' : Hid (costSum f ((enumI zs).take (k + 1)) = costSum f ((enumI zs).take k)) := by rw [Hid, HS.out]; simp [hfk]
              clear hx HS hfk HQ2
              generalize costSum f ((enumI zs).take k) = sm at *
              go_wp2_with (first
                | (refine wpList_load_mid rfl 25 (.tmp 2) rfl w.heap.size 0 rfl xs _ hrk.out Try.underlying25 rfl (by rw [H17.out]; exact info_tab) ?_)
                | fail)
              refine HWk.out.mono ?_
              rintro e w2 ⟨rfl, hb2⟩
              have hbk2 : Below (w.heap.size + 1) w1 w2 := hbk.trans (hb2.mono (by omega))
              go_wp2_with fail
              go_roundg (zs.length - (k + 1))
              case rel => exact ⟨k + 1, rfl, by omega, by go_num, by rw [HS'.out], hbk2, hin⟩
              case measure => omega
        · have hltz : ¬ (k : Int) < (zs.length : Int) := by omega
          have htk : (enumI zs).take k = enumI zs := List.take_of_length_le (by rw [enumI_length]; omega)
          rw [htk] at HQ ⊢
          have hE : Hid (E0 = 0) := by rw [Hid, HE1.out, HQ.out]; rfl
          have hV : Hid (V0 = costSum f (enumI zs)) := by rw [Hid, HV0.out, hE.out]; rfl
          clear hcb hcb2 htk
          generalize costSum f (enumI zs) = sm at *
          go_wp2_with fail
          go_ret2
          exact ⟨ret_two (by rw [hV.out]; rfl) (by rw [hE.out]; rfl), hbw⟩
    · have hne : (errB zs != 0) = true := by simpa using h1
      have HE1 : Hid (E0 = errB zs) := by rw [Hid, HE0.out, if_pos h1]
      have HV1 : Hid (V0 = 0) := by rw [Hid, HV0.out, HE1.out, if_neg h1]
      clear h1 HE0 HV0
      generalize errB zs = E at *
      go_wp2
      go_ret2
      exact ⟨ret_two (by rw [HV1.out]; rfl) (by rw [HE1.out]; rfl), hbel1⟩
  · have hne : (checkErr cs syms != 0) = true := by simpa using h0
    have HE : Hid (E0 = checkErr cs syms) := by rw [Hid, HEe.out]; unfold costE; rw [if_pos h0]
    have HV : Hid (V0 = 0) := by rw [Hid, HVv.out]; unfold costV; rw [← HEe.out, if_neg (by rw [HE.out]; exact h0)]
    clear h0
    obtain ⟨E, hE⟩ : ∃ E, E = checkErr cs syms := ⟨_, rfl⟩
    rw [← hE] at hne HE ⊢
    clear hE
    go_wp2
    go_ret2
    exact ⟨ret_two (by rw [HV.out]; rfl) (by rw [HE.out]; rfl), hbel1⟩
end Go.Proofs.Ythelblkpfkngmaa
