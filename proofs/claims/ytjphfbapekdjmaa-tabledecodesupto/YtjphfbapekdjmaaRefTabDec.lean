/- The reference's TableDecode: the same contract as Decode's. -/
import Derived.Test.YtjphfbapekdjmaaRefCheck
import Derived.Test.YtjphfbapekdjmaaTabDec
import Derived.Test.YtjphfbapekdjmaaRefBytes
import Derived.Test.YtjphfbapekdjmaaRefWords
import Derived.Test.YtjphfbapekdjmaaRefDigits
import Derived.Laws.Strings3
namespace Go.Proofs.Ytjphfbapekdjmaa
open Go.RowKit
set_option linter.unusedVariables false
set_option linter.unusedSimpArgs false
set_option maxRecDepth 100000

theorem digB_inj {a b : Bool} (h : digB a = digB b) : a = b := by cases a <;> cases b <;> first | rfl | (exact absurd h (by decide))
theorem dig_inj : ∀ {a b : List Bool}, dig a = dig b → a = b
  | [], [], _ => rfl
  | [], y :: b, h => by simp [dig] at h
  | x :: a, [], h => by simp [dig] at h
  | x :: a, y :: b, h => by
    simp only [dig, List.map_cons, List.cons.injEq] at h
    rw [digB_inj h.1, dig_inj (a := a) (b := b) h.2]
theorem txt_toList (a : List Bool) : (txt a).toList = dig a := by rw [ByteArray.toList_eq]; simp [txt]
theorem txt_beq (a b : List Bool) : ((txt a).toList == (txt b).toList) = decide (a = b) := by
  rw [txt_toList, txt_toList, Bool.eq_iff_iff, beq_iff_eq, decide_eq_true_iff]
  exact ⟨dig_inj, fun h => by rw [h]⟩

set_option maxHeartbeats 1000000 in
theorem hasPrefix0 (b p : List Bool) (w : World) (hb : b.length ≤ 140737488355328) (hp : p.length ≤ 140737488355328) : Calls Try.prog 47 #[.string (txt b), .string (txt p)] w fun e w' => e = .returned (.bool (p.isPrefixOf b)) ∧ w = w' := by
  have hs1 : (txt b).size = b.length := txt_size b
  have hs2 : (txt p).size = p.length := txt_size p
  by_cases hle : p.length ≤ b.length
  · have hr : p.isPrefixOf b = decide (b.take p.length = p) := by
      rw [Bool.eq_iff_iff, List.isPrefixOf_iff_prefix, List.prefix_iff_eq_take, decide_eq_true_iff]
      exact ⟨fun h => h.symm, fun h => h.symm⟩
    have Hr := veil hr
    have hle' : (p.length : Int) ≤ (b.length : Int) := by omega
    have hle2 : decide (p.length ≤ b.length) = true := decide_eq_true hle
    have hcut : ∀ w, (Instr.slice 9 (.string (txt b)) none (some (.int .i64 (p.length : Int))) none).run Try.prog w = .ok (.string (txt (b.take p.length))) w := by
      intro w
      rw [run_slice_string_to_if w 9 (txt b) .i64 _ Try.underlying9, if_pos ⟨by omega, by rw [hs1]; exact hle'⟩, Int.toNat_natCast, txt_extract]
      simp
    clear hr
    go_enter Try.func47, Try.ntmps47
    go_wp2
    go_ret
    refine ⟨ret_bool ?_, rfl⟩
    rw [Hr.out, ← txt_beq]
  · have hr : p.isPrefixOf b = false := by
      cases h : p.isPrefixOf b with
      | false => rfl
      | true => exact absurd (List.isPrefixOf_iff_prefix.1 h).length_le hle
    have Hr := veil hr
    have hle' : ¬ (p.length : Int) ≤ (b.length : Int) := by omega
    clear hr
    go_enter Try.func47, Try.ntmps47
    go_wp2
    go_ret
    exact ⟨ret_bool (by rw [Hr.out]), rfl⟩
theorem hasPrefix_any (b p : List Bool) (w : World) (hb : b.length ≤ 140737488355328) (hp : p.length ≤ 140737488355328) : Calls Try.prog 44 #[.string (txt b), .string (txt p)] w fun e w' => e = .returned (.bool (p.isPrefixOf b)) ∧ w = w' := by
  have hh := veil (hasPrefix0 b p w hb hp)
  go_enter Try.func44, Try.ntmps44
  go_wp2_with fail
  refine hh.out.mono ?_
  rintro e w1 ⟨rfl, rfl⟩
  go_wp2
  go_ret
  exact ⟨rfl, rfl⟩

theorem find1_hit {ws : List (Int × Nat × Nat)} {b : List Bool} {k : Nat} {t : Int × Nat × Nat} (h : ∀ u ∈ ws.take k, begins u b = false) (ht : ws[k]? = some t) (hb : begins t b = true) : find1 ws b = some (t.1, t.2.1) := by
  have e : ws = ws.take k ++ t :: ws.drop (k + 1) := by
    rw [← List.singleton_append, ← List.append_assoc, ← take_snoc ht, List.take_append_drop]
  unfold find1
  rw [e, List.find?_append, List.find?_eq_none.2 (fun u hu => by rw [h u hu]; simp)]
  simp [List.find?_cons, hb]
theorem find1_miss {ws : List (Int × Nat × Nat)} {b : List Bool} (h : ∀ u ∈ ws, begins u b = false) : find1 ws b = none := by
  unfold find1
  rw [List.find?_eq_none.2 (fun u hu => by rw [h u hu]; simp)]
  rfl
/-- What is left behind the word. -/
def nextR (ws : List (Int × Nat × Nat)) (b : List Bool) : List Bool := if (find1 ws b).isSome = true then b.drop (nextL ws b) else []
theorem mkWords_get {syms : List Int} {l : List (Nat × Nat)} {k : Nat} {x : Int} {p : Nat × Nat} (hx : syms[k]? = some x) (hp : l[k]? = some p) : (mkWords syms l)[k]? = some (x, p.1, p.2) := by
  unfold mkWords; rw [List.getElem?_zipWith, hx, hp]

set_option maxRecDepth 100000 in
set_option maxHeartbeats 2000000 in
theorem symOf_any (cs syms : List Int) (l : List (Nat × Nat)) (A : Option Addr) (c G : Nat) (b : List Bool) (w : World) (hcs : cs.length = 16) (hf : Fine cs syms l) (hs : Seen w G A (ints .i64 syms)) (hG : G ≤ w.heap.size) (hbl : b.length ≤ 140737488355328) :
    Calls Try.prog 32 #[tabV cs A syms.length c, .string (txt b)] w fun e w' => e = .returned (.tuple #[.int .i64 (nextS (mkWords syms l) b), .string (txt (nextR (mkWords syms l) b)), .int .i64 (nextE (mkWords syms l) b)]) ∧ Below w.heap.size w w' := by
  have h16 : (tabCells cs A syms.length c)[16]? = some (.slice A syms.length c) := tabCells_last hcs
  have hlen17 : (tabCells cs A syms.length c).length = 17 := tabCells_length hcs
  have h256 := hf.good.le
  have hll : l.length = syms.length := (codes_length hf.code).trans hf.good.sum
  have hwo := fun w1 => refWordsOf_any (nats cs) A syms.length c w1 (by rw [nats_length]; exact hcs) (by rw [hf.good.sum]; exact hf.good.le)
  rw [natI_nats hf.good.1, hf.code] at hwo
  have hsm : ∀ p ∈ l, p.1 ≤ 16 := fun p hp => ((hf.kr hcs).ge p hp).2.1
  have Hll := veil hll; have Hsm := veil hsm
  clear hf hll hcs hsm
  obtain ⟨ys, hys⟩ : ∃ ys, ys = tabCells cs A syms.length c := ⟨_, rfl⟩
  have Hr := veil (range_new w ys 25)
  unfold tabV at hwo ⊢
  rw [← hys] at hlen17 hwo h16 ⊢
  clear hys
  have Hwo := veil hwo; clear hwo
  have H17 := veil hlen17; clear hlen17
  go_enter Try.func32, Try.ntmps32
  go_wp2_with (first
    | (refine wpList_load_mid rfl 25 (.tmp 2) rfl w.heap.size 0 rfl ys _ Hr.out Try.underlying25 rfl (by rw [H17.out]; exact info_tab) ?_)
    | fail)
  refine (Hwo.out _).mono ?_
  rintro e w1 ⟨v, rfl, HS, hb1⟩
  have c16 : w1.cell? ⟨w.heap.size, 16, none⟩ = some (.slice A syms.length c) := by rw [hb1.cell (by simp), World.cell?_alloc_at _ _ _ _ rfl]; simpa using h16
  have hbel1 : Below w.heap.size w w1 := (below1 _ _).trans (hb1.mono (by simp))
  have hz1 := hb1.size
  simp at hz1
  obtain ⟨A5, c5, e5, hs5, _, _⟩ := HS.seen (List.mem_cons_self ..)
  simp only [strRow, Option.getD_some, Hll.out] at e5 hs5
  subst e5
  clear Hr hb1 Hwo h16 HS
  go_wp2_with fail
  go_loopg [9, 10, 18] syms.length (fun gk i0 s0 i wr => ∃ k : Nat, gk = syms.length - k ∧ k ≤ syms.length ∧ i = .int .i64 k ∧ Hid (∀ u ∈ (mkWords syms l).take k, begins u b = false) ∧ w1 = wr)
  case atStart => exact ⟨0, rfl, Nat.zero_le _, rfl, veil (by simp), rfl⟩
  case round =>
    obtain ⟨k, rfl, hk, rfl, HN, rfl⟩ := hrel
    by_cases hlt : k < syms.length
    · obtain ⟨p, hp⟩ := some_at (xs := l) (j := k) (by rw [Hll.out]; exact hlt)
      obtain ⟨g5, o5, rfl, hg5, h5⟩ := hs5.cell (strs_at hp)
      obtain ⟨g, o, y, rfl, hg, hy, h1⟩ := hs.int hlt
      rw [← hbel1.cell (by simp; omega)] at h1
      have hp16 := Hsm.out p (List.mem_of_getElem? hp)
      have hget := mkWords_get hy hp
      have hhp := hasPrefix_any b (bitsN p.1 p.2) w1 hbl (by rw [bitsN_length]; omega)
      have hsz : (txt (bitsN p.1 p.2)).size = p.1 := by rw [txt_size, bitsN_length]
      have hszb : (txt b).size = b.length := txt_size b
      have hlt' : (k : Int) < (syms.length : Int) := by omega
      have Hget := veil hget
      clear hget hp hy
      cases hbg : (bitsN p.1 p.2).isPrefixOf b with
      | true =>
        rw [hbg] at hhp
        have hbl2 : p.1 ≤ b.length := by have := (List.isPrefixOf_iff_prefix.1 hbg).length_le; rw [bitsN_length] at this; exact this
        have hf1 := find1_hit HN.out Hget.out (show begins (y, p.1, p.2) b = true from hbg)
        have h11 : nextS (mkWords syms l) b = y := by unfold nextS; rw [hf1]; rfl
        have h12 : nextR (mkWords syms l) b = b.drop p.1 := by unfold nextR nextL; rw [hf1]; rfl
        have h13 : nextE (mkWords syms l) b = 0 := by unfold nextE; rw [hf1]; rfl
        have H1 := veil h11; have H2 := veil h12; have H3 := veil h13; have Hhp := veil hhp
        have hcut : ∀ w, (Instr.slice 9 (.string (txt b)) (some (.int .i64 (p.1 : Int))) none none).run Try.prog w = .ok (.string (txt (b.drop p.1))) w := by
          intro w
          rw [run_slice_string_from_if w 9 (txt b) .i64 _ Try.underlying9, if_pos ⟨by omega, by rw [hszb]; omega⟩, Int.toNat_natCast, hszb, txt_extract]
          rw [List.take_of_length_le (by simp)]
        clear h11 h12 h13 hf1 hbg hhp
        generalize txt (bitsN p.1 p.2) = tx at *
        obtain ⟨tr, htr⟩ : ∃ tr, tr = txt (b.drop p.1) := ⟨_, rfl⟩
        rw [← htr] at hcut
        have Htr := veil htr; clear htr
        go_wp2_with fail
        refine Hhp.out.mono ?_
        rintro e w3 ⟨rfl, rfl⟩
        go_wp2_with fail
        go_quiet (fail)
        go_wp2
        go_ret3
        exact ⟨ret_three (by rw [H1.out]; rfl) (by rw [H2.out, ← Htr.out]; rfl) (by rw [H3.out]; rfl), hbel1.drewN _⟩
      | false =>
        rw [hbg] at hhp
        have Hhp := veil hhp; have Hbg := veil hbg
        clear hhp hbg
        generalize txt (bitsN p.1 p.2) = tx at *
        go_wp2_with fail
        refine Hhp.out.mono ?_
        rintro e w3 ⟨rfl, rfl⟩
        go_wp2
        go_roundg (syms.length - (k + 1))
        case rel => exact ⟨k + 1, rfl, by omega, by go_num, veil (mem_snoc Hget.out HN.out Hbg.out), rfl⟩
        case measure => omega
    · obtain rfl : k = syms.length := by omega
      have hall : ∀ u ∈ mkWords syms l, begins u b = false := by
        have := HN.out
        rw [List.take_of_length_le (by rw [mkWords_length _ _ (by rw [Hll.out]; omega), Hll.out]; omega)] at this
        exact this
      have hf1 := find1_miss hall
      have h11 : nextS (mkWords syms l) b = 0 := by unfold nextS; rw [hf1]; rfl
      have h12 : nextR (mkWords syms l) b = [] := by unfold nextR; rw [hf1]; rfl
      have h13 : nextE (mkWords syms l) b = if b.length < 16 then 3 else 4 := by unfold nextE; rw [hf1]; rfl
      have H1 := veil h11; have H2 := veil h12
      have hszb : (txt b).size = b.length := txt_size b
      clear h11 h12 hf1 hall
      by_cases h16 : b.length < 16
      · rw [if_pos h16] at h13
        have H3 := veil h13
        clear h13
        have h16' : (b.length : Int) < 16 := by omega
        go_wp2
        go_ret3
        exact ⟨ret_three (by rw [H1.out]; rfl) (by rw [H2.out]; rfl) (by rw [H3.out]; rfl), hbel1⟩
      · rw [if_neg h16] at h13
        have H3 := veil h13
        clear h13
        have h16' : ¬ (b.length : Int) < 16 := by omega
        go_wp2
        go_ret3
        exact ⟨ret_three (by rw [H1.out]; rfl) (by rw [H2.out]; rfl) (by rw [H3.out]; rfl), hbel1⟩

theorem nextR_hit {ws : List (Int × Nat × Nat)} {b : List Bool} (h : nextE ws b = 0) : nextR ws b = b.drop (nextL ws b) := by
  unfold nextE at h
  split at h
  · rename_i h1; unfold nextR; rw [if_pos h1]
  · split at h <;> cases h

set_option maxRecDepth 100000 in
set_option maxHeartbeats 2000000 in
theorem refDecode_any (cs syms bs : List Int) (n : Int) (A A2 : Option Addr) (c c2 G : Nat) (w : World) (hcs : cs.length = 16) (hn : syms.length ≤ maxLen) (hcap : syms.length ≤ c) (hb : ∀ x ∈ cs, -9223372036854775808 ≤ x ∧ x ≤ 9223372036854775807) (hs : Seen w G A (ints .i64 syms)) (hG : G ≤ w.heap.size)
    (hx : Seen w G A2 (ints .u8 bs)) (hby : Bytes bs) (hl : bs.length ≤ 1048576) :
    Calls Try.prog 14 #[tabV cs A syms.length c, .slice A2 bs.length c2, .int .i64 n] w fun e w' => ∃ v, e = .returned (.tuple #[v, .int .i64 (decLong cs syms bs n), .int .i64 (decErr cs syms bs n)]) ∧ Owns w.heap.size [numRow v (decOut cs syms bs n)] w' ∧ Below w.heap.size w w' := by
  have hlen17 : (tabCells cs A syms.length c).length = 17 := tabCells_length hcs
  have hck := fun w1 h1 hG1 => refCheck_any cs syms A c G w1 hcs hn hcap hb h1 hG1
  have hso := fun l hf b w1 h1 hG1 hbl => symOf_any cs syms l A c G b w1 hcs hf h1 hG1 hbl
  have Hby := veil hby
  clear hcs hb hby hn
  obtain ⟨ys, hys⟩ : ∃ ys, ys = tabCells cs A syms.length c := ⟨_, rfl⟩
  have Hr := veil (range_new w ys 25)
  unfold tabV at hck hso ⊢
  rw [← hys] at hlen17 hck hso ⊢
  clear hys
  have Hck := veil hck; have Hso := veil hso; clear hck hso
  have H17 := veil hlen17; clear hlen17
  go_enter Try.func14, Try.ntmps14
  go_wp2_with (first
    | (refine wpList_load_mid rfl 25 (.tmp 3) rfl w.heap.size 0 rfl ys _ Hr.out Try.underlying25 rfl (by rw [H17.out]; exact info_tab) ?_)
    | fail)
  refine (Hck.out _ (hs.alloc hG _) (by simp; omega)).mono ?_
  rintro e w1 ⟨rfl, hb1⟩
  have hbel1 : Below w.heap.size w w1 := (below1 _ _).trans (hb1.mono (by simp))
  have hr1 : w1.rangeAt w.heap.size 0 ys := range_below Hr.out hb1 (by simp)
  have Hr1 := veil hr1
  have hz1 := hb1.size
  simp at hz1
  clear Hr hb1 hr1 Hck
  by_cases h0 : checkErr cs syms = 0
  · rw [h0]
    by_cases hrg : 0 ≤ n ∧ n ≤ 20000
    · have Ho := veil (outside_no n 0 20000 hrg w1)
      obtain ⟨N, rfl⟩ := Int.eq_ofNat_of_zero_le hrg.1
      have hN : N ≤ 20000 := by omega
      have he1 : decErr cs syms bs N = (dec (outWords cs syms) N (unpack bs)).1 := by unfold decErr; rw [if_pos h0, if_pos hrg]; rfl
      clear hrg
      obtain ⟨l, hf, how, hll⟩ := fine_of h0
      have hso := Hso.out l hf
      rw [← how] at hso
      have H0 := veil h0; have He1 := veil he1
      clear hll hf how h0 he1 Hso
      obtain ⟨ws, hws⟩ : ∃ ws, ws = outWords cs syms := ⟨_, rfl⟩
      rw [← hws] at He1 hso
      have Hws := veil hws; have Hs := veil hso
      clear hws hso
      have Hdg := veil (digitsOf_any A2 c2 G bs w1 (hx.below hbel1 hG) Hby.out (by omega) hl)
      go_wp2_with fail
      refine Ho.out.mono ?_
      rintro e w1' ⟨rfl, rfl⟩
      go_wp2_with fail
      refine Hdg.out.mono ?_
      rintro e w2 ⟨rfl, hb2⟩
      have hbel2 : Below w.heap.size w w2 := hbel1.trans (hb2.mono (by omega))
      have hr2 : w2.rangeAt w.heap.size 0 ys := range_below Hr1.out hb2 (by omega)
      have Hr2 := veil hr2
      have hz2 := hb2.size
      clear Hr1 hb2 hr2 Hdg Ho
      go_wp2_with fail
      go_loopg [10, 11, 12, 13, 14, 25] N (fun gk sv v s0 r0 e0 i wr => ∃ (k at_ : Nat) (acc : List Int), gk = N - k ∧ k ≤ N ∧ i = .int .i64 k ∧ sv = .string (txt ((unpack bs).drop at_)) ∧ Hid (DInv ws N (unpack bs) k at_ acc) ∧ at_ ≤ 8 * bs.length ∧ acc.length = k ∧ Owns w2.heap.size [numRow v acc] wr ∧ Below w2.heap.size w2 wr)
      case atStart => exact ⟨0, 0, [], rfl, Nat.zero_le _, rfl, by simp, veil (DInv.start _ _ _), by omega, rfl, (Owns.start w2).fresh _ _, Below.refl _ _⟩
      case round =>
        obtain ⟨k, at_, acc, rfl, hk, rfl, rfl, HD, hat, hal, HO, hbel⟩ := hrel
        have hz := hbel.size
        have hlen : ((unpack bs).drop at_).length = 8 * bs.length - at_ := by rw [List.length_drop, unpack_length]
        by_cases hlt : k < N
        · have hrr : wr.rangeAt w.heap.size 0 ys := range_below Hr2.out hbel (by omega)
          have Hrr := veil hrr; clear hrr
          have hsy := Hs.out ((unpack bs).drop at_) wr ((hs.below hbel2 hG).below hbel (by omega)) (by omega) (by rw [hlen]; omega)
          have hL := nextL_le (ws := ws) (b := (unpack bs).drop at_)
          rw [hlen] at hL
          have Hal := veil hal; clear hal hlen
          by_cases he : nextE ws ((unpack bs).drop at_) = 0
          · have hD2 := HD.out.next hlt he
            rw [he, nextR_hit he, List.drop_drop] at hsy
            have Hsy := veil hsy; have HD2 := veil hD2
            clear hsy hD2 he
            generalize nextL ws ((unpack bs).drop at_) = L at *
            generalize nextS ws ((unpack bs).drop at_) = sy at *
            generalize txt ((unpack bs).drop at_) = tx at *
            go_wp2_with (first
              | (refine wpList_load_mid rfl 25 (.tmp 3) rfl w.heap.size 0 rfl ys _ Hrr.out Try.underlying25 rfl (by rw [H17.out]; exact info_tab) ?_)
              | fail)
            refine Hsy.out.mono ?_
            rintro e w3 ⟨rfl, hb3⟩
            have HO3 := HO.below hb3
            have hbel3 := hbel.trans (hb3.mono hz)
            clear Hsy HO
            go_wp2_with (first
              | (at_builtin; go_loud (refine wpList_ownI _ rfl (.tmp 37) (.tmp 39) _ rfl w2.heap.size 3 .i64 8 elem_int u11 acc [] rfl HO3 [sy] rfl (by have := Hal.out; unfold maxLen; simp; omega) (by have := Hal.out; simp; omega) ?_); intro v4 w4 HO4 hb4 hz4))
            go_roundg (N - (k + 1))
            case rel => exact ⟨k + 1, at_ + L, acc ++ [sy], rfl, by omega, by go_num, rfl, HD2, by omega, by have := Hal.out; simp; omega, HO4, hbel3.trans hb4⟩
            case measure => omega
          · have hst := HD.out.stop hlt he
            have hee : decErr cs syms bs N = nextE ws ((unpack bs).drop at_) := by rw [He1.out, hst]
            have ho : decOut cs syms bs N = [] := decOut_err (by rw [hee]; exact he)
            have hll : decLong cs syms bs N = 0 := decLong_err (by rw [hee]; exact he)
            have hne : (nextE ws ((unpack bs).drop at_) != 0) = true := by simpa using he
            have Hsy := veil hsy; have Hee := veil hee; have Ho := veil ho; have Hll := veil hll
            clear hsy hst hee ho hll he
            obtain ⟨E, hE⟩ : ∃ E, E = nextE ws ((unpack bs).drop at_) := ⟨_, rfl⟩
            rw [← hE] at hne Hsy Hee
            clear hE
            generalize txt ((unpack bs).drop at_) = tx at *
            go_wp2_with (first
              | (refine wpList_load_mid rfl 25 (.tmp 3) rfl w.heap.size 0 rfl ys _ Hrr.out Try.underlying25 rfl (by rw [H17.out]; exact info_tab) ?_)
              | fail)
            refine Hsy.out.mono ?_
            rintro e w3 ⟨rfl, hb3⟩
            have hbel3 := (hbel2.trans (hbel.mono hbel2.size)).trans (hb3.mono (Nat.le_trans hbel2.size hz))
            go_wp2
            go_ret3
            exact ⟨_, ret_three rfl (by rw [Hll.out]; rfl) (by rw [Hee.out]; rfl), by rw [Ho.out]; exact (Owns.nil hbel3.size).fresh _ _, hbel3⟩
        · obtain rfl : k = N := by omega
          have hd := HD.out.done
          have hee : decErr cs syms bs k = 0 := by rw [He1.out, hd]
          have ho : decOut cs syms bs k = acc := by unfold decOut; rw [if_pos hee, ← Hws.out, Int.toNat_natCast, hd]
          have hll : decLong cs syms bs k = at_ := by unfold decLong; rw [if_pos hee, ← Hws.out, Int.toNat_natCast, hd]
          have hsz : (txt ((unpack bs).drop at_)).size = 8 * bs.length - at_ := by rw [txt_size, hlen]
          have Hee := veil hee; have Ho := veil ho; have Hll := veil hll
          clear hd hee ho hll hlen
          generalize txt ((unpack bs).drop at_) = tx at *
          obtain ⟨Z, hZ⟩ : ∃ Z, Z = 8 * bs.length - at_ := ⟨_, rfl⟩
          rw [← hZ] at hsz
          have hZ2 : Z ≤ 8388608 := by omega
          go_wp2
          go_ret3
          refine ⟨_, ret_three rfl ?_ (by rw [Hee.out]; rfl), by rw [Ho.out]; exact HO.down hbel2.size, hbel2.trans (hbel.mono hbel2.size)⟩
          rw [Hll.out]
          refine congrArg (Value.int .i64) ?_
          omega
    · have Ho := veil (outside_yes n 0 20000 (by omega) w1)
      have he : decErr cs syms bs n = 1 := by unfold decErr; rw [if_pos h0, if_neg hrg]
      have ho : decOut cs syms bs n = [] := decOut_err (by rw [he]; decide)
      have hll : decLong cs syms bs n = 0 := decLong_err (by rw [he]; decide)
      have He := veil he; have HoO := veil ho; have Hll := veil hll
      clear he ho hll h0 hrg
      go_wp2_with fail
      refine Ho.out.mono ?_
      rintro e w1' ⟨rfl, rfl⟩
      go_wp2
      go_ret3
      exact ⟨_, ret_three rfl (by rw [Hll.out]; rfl) (by rw [He.out]; rfl), by rw [HoO.out]; exact (Owns.nil hbel1.size).fresh _ _, hbel1⟩
  · have he : decErr cs syms bs n = checkErr cs syms := by unfold decErr; rw [if_neg h0]
    have ho : decOut cs syms bs n = [] := decOut_err (by rw [he]; exact h0)
    have hll : decLong cs syms bs n = 0 := decLong_err (by rw [he]; exact h0)
    have hne : (checkErr cs syms != 0) = true := by simpa using h0
    clear h0
    obtain ⟨E, hE⟩ : ∃ E, E = checkErr cs syms := ⟨_, rfl⟩
    rw [← hE] at hne he ⊢
    have He := veil he; have Ho := veil ho; have Hll := veil hll
    clear hE he ho hll
    go_wp2
    go_ret3
    exact ⟨_, ret_three rfl (by rw [Hll.out]; rfl) (by rw [He.out]; rfl), by rw [Ho.out]; exact (Owns.nil hbel1.size).fresh _ _, hbel1⟩
end Go.Proofs.Ytjphfbapekdjmaa
