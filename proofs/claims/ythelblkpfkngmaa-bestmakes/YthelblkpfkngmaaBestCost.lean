/- best.Cost: its contract. -/
import Derived.Test.YthelblkpfkngmaaBestCheck
import Derived.Test.YthelblkpfkngmaaBestEnum
import Derived.Test.YthelblkpfkngmaaBestMap
import Derived.Test.YthelblkpfkngmaaTabWords
namespace Go.Proofs.Ythelblkpfkngmaa
open Go.RowKit
set_option linter.unusedVariables false
set_option linter.unusedSimpArgs false

/-- The length of a symbol's word. -/
def lenF (ws : List (Int × Nat × Nat)) : Int → Option Int := ws.foldl (fun f t => upd f t.1 (t.2.1 : Int)) (fun _ => none)
theorem lenF_nil : lenF [] = fun _ => none := rfl
theorem lenF_snoc (ws : List (Int × Nat × Nat)) (t : Int × Nat × Nat) : lenF (ws ++ [t]) = upd (lenF ws) t.1 (t.2.1 : Int) := by simp [lenF]
theorem lenF_range {ws : List (Int × Nat × Nat)} (h : ∀ t ∈ ws, t.2.1 ≤ 16) (s : Int) : 0 ≤ (lenF ws s).getD 0 ∧ (lenF ws s).getD 0 ≤ 16 := by
  induction ws using snoc_ind with
  | h0 => simp [lenF]
  | h1 ws t ih =>
    rw [lenF_snoc]
    unfold upd
    have h1 := h t (by simp)
    by_cases e : s = t.1
    · rw [if_pos e]; simp; omega
    · rw [if_neg e]; exact ih fun t ht => h t (by simp [ht])
theorem mul_bound {x b : Int} (hx : 0 ≤ x ∧ x ≤ 9999) (hb : 0 ≤ b ∧ b ≤ 16) : 0 ≤ x * b ∧ x * b ≤ 159984 := by
  refine ⟨Int.mul_nonneg hx.1 hb.1, ?_⟩
  have h1 : x * b ≤ 9999 * b := Int.mul_le_mul_of_nonneg_right hx.2 hb.1
  omega
/-- What the codewords of all occurrences take. -/
def costSum (f : Int → Option Int) (l : List (Int × Int)) : Int := (l.map fun p => p.2 * (f p.1).getD 0).sum
/-- Does one that occurs lack a word? -/
def missB (f : Int → Option Int) (l : List (Int × Int)) : Bool := l.any fun p => decide (0 < p.2) && (f p.1).isNone
theorem costSum_snoc (f : Int → Option Int) (l : List (Int × Int)) (p : Int × Int) : costSum f (l ++ [p]) = costSum f l + p.2 * (f p.1).getD 0 := by simp [costSum]
theorem missB_snoc (f : Int → Option Int) (l : List (Int × Int)) (p : Int × Int) : missB f (l ++ [p]) = (missB f l || (decide (0 < p.2) && (f p.1).isNone)) := by simp [missB]
def costE (cs syms zs : List Int) : Int := if checkErr cs syms ≠ 0 then checkErr cs syms else if errB zs ≠ 0 then errB zs else if missB (lenF (outWords cs syms)) (enumI zs) then 5 else 0
def costV (cs syms zs : List Int) : Int := if costE cs syms zs = 0 then costSum (lenF (outWords cs syms)) (enumI zs) else 0
theorem words_small {cs syms : List Int} (hcs : cs.length = 16) (h : checkErr cs syms = 0) : ∀ t ∈ outWords cs syms, 0 ≤ t.1 ∧ t.1 ≤ 255 ∧ 1 ≤ t.2.1 ∧ t.2.1 ≤ 16 := by
  obtain ⟨l, hf, e, hl⟩ := fine_of h
  rw [e]
  intro t ht
  have hk := codes_kr (by rw [nats_length]; exact hcs) hf.code
  unfold mkWords at ht
  obtain ⟨i, hi⟩ := List.mem_iff_getElem?.1 ht
  rw [List.getElem?_zipWith] at hi
  cases h1 : syms[i]? with
  | none => simp [h1] at hi
  | some s =>
    cases h2 : l[i]? with
    | none => simp [h1, h2] at hi
    | some p =>
      simp [h1, h2] at hi
      subst hi
      have h3 := hf.ok s (List.mem_of_getElem? h1)
      have h4 := hk.ge p (List.mem_of_getElem? h2)
      exact ⟨h3.1, h3.2, h4.1, h4.2.1⟩
theorem outWords_length {cs syms : List Int} (h : checkErr cs syms = 0) : (outWords cs syms).length ≤ 256 := by
  obtain ⟨l, hf, e, hl⟩ := fine_of h
  rw [e]; have := hf.good.le
  simp [mkWords, hl]; exact this

theorem costSum_bound {f : Int → Option Int} {l : List (Int × Int)} (h1 : ∀ s, 0 ≤ (f s).getD 0 ∧ (f s).getD 0 ≤ 16) (h2 : ∀ p ∈ l, 0 ≤ p.2 ∧ p.2 ≤ 9999) : 0 ≤ costSum f l ∧ costSum f l ≤ 159984 * (l.length : Int) := by
  induction l using snoc_ind with
  | h0 => simp [costSum]
  | h1 l p ih =>
    rw [costSum_snoc]
    have h3 := ih fun q hq => h2 q (by simp [hq])
    have h4 := mul_bound (h2 p (by simp)) (h1 p.1)
    simp only [List.length_append, List.length_cons, List.length_nil]
    omega
theorem enumI_mem {zs : List Int} {p : Int × Int} (h : p ∈ enumI zs) : p.2 ∈ zs ∧ ∃ k : Nat, p.1 = (k : Int) ∧ zs[k]? = some p.2 := by
  obtain ⟨k, hk⟩ := List.mem_iff_getElem?.1 h
  have hl := (List.getElem?_eq_some_iff.1 hk).1
  rw [enumI_length] at hl
  obtain ⟨x, hx⟩ := some_at hl
  rw [enumI_at hx] at hk
  injection hk with hk
  subst hk
  exact ⟨List.mem_of_getElem? hx, k, rfl, hx⟩

set_option maxRecDepth 100000 in
set_option maxHeartbeats 4000000 in
theorem cost_any (cs syms zs : List Int) (A A2 : Option Addr) (c c2 G : Nat) (w : World) (hcs : cs.length = 16) (hn : syms.length ≤ maxLen) (hb : ∀ x ∈ cs, -9223372036854775808 ≤ x ∧ x ≤ 9223372036854775807) (hs : Seen w G A (ints .i64 syms)) (hz : Seen w G A2 (ints .i64 zs)) (hG : G ≤ w.heap.size) (hzl : zs.length ≤ maxLen) :
    Calls Try.prog 13 #[tabV cs A syms.length c, .slice A2 zs.length c2] w fun e w' => e = .returned (.tuple #[.int .i64 (costV cs syms zs), .int .i64 (costE cs syms zs)]) ∧ Below w.heap.size w w' := by
  obtain ⟨E0, hE0⟩ : ∃ E, E = costE cs syms zs := ⟨_, rfl⟩
  obtain ⟨V0, hV0⟩ : ∃ V, V = costV cs syms zs := ⟨_, rfl⟩
  rw [← hE0, ← hV0]
  have HEe := veil hE0; have HVv := veil hV0
  clear hE0 hV0
  have hlen17 : (tabCells cs A syms.length c).length = 17 := tabCells_length hcs
  have HW := veil (fun w1 h1 hG1 => words_any cs syms A c G w1 hcs hn hb h1 hG1)
  have Hcs := veil hcs
  clear hcs hb hn
  obtain ⟨xs, hxs⟩ : ∃ xs, xs = tabCells cs A syms.length c := ⟨_, rfl⟩
  have Hr := veil (range_new w xs 25)
  unfold tabV at HW ⊢
  rw [← hxs] at hlen17 HW ⊢
  clear hxs
  have H17 := veil hlen17; clear hlen17
  go_enter Try.func13, Try.ntmps13
  go_wp2_with (first
    | (refine wpList_load_mid rfl 25 (.tmp 2) rfl w.heap.size 0 rfl xs _ Hr.out Try.underlying25 rfl (by rw [H17.out]; exact info_tab) ?_)
    | fail)
  refine (HW.out _ (hs.alloc hG _) (by simp; omega)).mono ?_
  rintro e w1 ⟨v1, rfl, HO1, hb1⟩
  have hbel1 : Below w.heap.size w w1 := (below1 _ _).trans (hb1.mono (by simp))
  have hz1 := hbel1.size
  have hzs := hz.below hbel1 hG
  clear Hr HW hb1
  by_cases h0 : checkErr cs syms = 0
  · have hwl := outWords_length h0
    have hws := words_small Hcs.out h0
    have HE0 : Hid (E0 = if errB zs ≠ 0 then errB zs else if missB (lenF (outWords cs syms)) (enumI zs) then 5 else 0) := by rw [Hid, HEe.out]; unfold costE; rw [if_neg (by rw [h0]; simp)]
    have HV0 : Hid (V0 = if E0 = 0 then costSum (lenF (outWords cs syms)) (enumI zs) else 0) := by rw [Hid, HVv.out, HEe.out]; rfl
    clear HEe HVv
    rw [h0]
    clear h0
    obtain ⟨A5, c5, e5, hs5, _, _⟩ := HO1.seen List.mem_cons_self
    simp only [wordRow] at e5 hs5
    subst e5
    generalize outWords cs syms = ws at *
    have Hws := veil hws
    clear hws HO1
    have HB := veil (bcheck_any A2 c2 G zs w1 hzs hzl)
    go_wp2_with fail
    refine HB.out.mono ?_
    rintro e w1' ⟨rfl, rfl⟩
    clear HB
    by_cases h1 : errB zs = 0
    · obtain ⟨hz256, hzb⟩ := errB_ok h1
      have Hzb := veil hzb; clear hzb
      have HE1 : Hid (E0 = if missB (lenF ws) (enumI zs) then 5 else 0) := by rw [Hid, HE0.out, h1]; simp
      clear HE0
      rw [h1]
      clear h1
      have hmm := make_mapN ws.length w1
      go_wp2_with fail
      go_loopg [35] ws.length (fun gk i wr => ∃ k : Nat, gk = ws.length - k ∧ k ≤ ws.length ∧ i = .int .i64 (k : Int) ∧ MapN wr w1.heap.size k (lenF (ws.take k)) ∧ Below w1.heap.size w1 wr)
      case atStart => exact ⟨0, rfl, Nat.zero_le _, rfl, MapN.made w1, below1 _ _⟩
      case round =>
        clear hmm
        obtain ⟨k, rfl, hk, rfl, HM, hbel⟩ := hrel
        by_cases hlt : k < ws.length
        · have hltz : (k : Int) < (ws.length : Int) := by omega
          obtain ⟨g, o, s, n, cd, rfl, hg, hx, h1, h2, h3⟩ := hs5.triple hlt
          have hz := hbel.size
          rw [← hbel.cell (by simp; omega)] at h1 h2 h3
          have Hx := veil hx; clear hx
          obtain ⟨s1, s2, s3, s4⟩ := Hws.out _ (List.mem_of_getElem? Hx.out)
          simp only at s1 s2 s3 s4
          have HM2 := HM.below (below1 wr (Obj.cells #[Value.int IntKind.i64 s, Value.int IntKind.i64 (n : Int), Value.int IntKind.i64 (cd : Int)] 41)) HM.lt
          have hbel2 := hbel.trans ((below1 wr (Obj.cells #[Value.int IntKind.i64 s, Value.int IntKind.i64 (n : Int), Value.int IntKind.i64 (cd : Int)] 41)).mono hz)
          obtain ⟨w3, hup, HM3, hgr⟩ := HM2.store (by unfold maxLen; omega) (wf_of (x := s) (by omega)) (wf_of (x := (n : Int)) (by omega))
          have hb4 : Below w1.heap.size w1 w3 := hbel2.grown hgr hbel2.size (fun j hj => by injection hj with hj; omega)
          have HM4 : MapN w3 w1.heap.size (k + 1) (lenF (ws.take (k + 1))) := by
            rw [take_snoc Hx.out, lenF_snoc]; exact HM3
          clear HM HM2 HM3 hgr hbel hbel2
          go_wp2_with fail
          go_roundg (ws.length - (k + 1))
          case rel => exact ⟨k + 1, rfl, by omega, by go_num, HM4, hb4⟩
          case measure => omega
        · have hltz : ¬ (k : Int) < (ws.length : Int) := by omega
          obtain rfl : k = ws.length := by omega
          rw [List.take_length] at HM
          have hfr := lenF_range (ws := ws) fun t ht => (Hws.out t ht).2.2.2
          rename World => W2
          have hzs2 := hzs.below hbel (Nat.le_trans hG hz1)
          have hbelz : Below w.heap.size w W2 := hbel1.trans (hbel.mono hz1)
          have Hfr := veil hfr; have HM' := veil HM
          generalize lenF ws = f at *
          clear hfr HM hbel hlt hk
          go_wp2_with fail
          go_loopg [12, 47] zs.length (fun gk sm i wr => ∃ k : Nat, gk = zs.length - k ∧ k ≤ zs.length ∧ i = .int .i64 (k : Int) ∧ sm = .int .i64 (costSum f ((enumI zs).take k)) ∧ W2 = wr ∧ Hid (missB f ((enumI zs).take k) = false))
          case atStart => exact ⟨0, rfl, Nat.zero_le _, rfl, rfl, rfl, rfl⟩
          case round =>
            obtain ⟨k, rfl, hk, rfl, rfl, rfl, HQ⟩ := hrel
            have hcb := costSum_bound (l := (enumI zs).take k) Hfr.out (fun p hp => Hzb.out _ (enumI_mem (List.mem_of_mem_take hp)).1)
            have hcb2 : costSum f ((enumI zs).take k) ≤ 159984 * 256 := by
              have h5 : ((enumI zs).take k).length ≤ 256 := by rw [List.length_take, enumI_length]; omega
              omega
            by_cases hlt : k < zs.length
            · have hltz : (k : Int) < (zs.length : Int) := by omega
              obtain ⟨g, o, x, rfl, hg, hx, hcx⟩ := hzs2.int hlt
              have hxb := Hzb.out x (List.mem_of_getElem? hx)
              have hfb := Hfr.out (k : Int)
              have hmb := mul_bound hxb hfb
              have HS := veil (costSum_snoc f ((enumI zs).take k) ((k : Int), x))
              have HQ2 := veil (missB_snoc f ((enumI zs).take k) ((k : Int), x))
              rw [← take_snoc (enumI_at hx)] at HS HQ2
              have hlk := HM'.out.look (x := (k : Int)) (wf_of (by omega))
              have hcs0 := hcb.1
              clear hcb
              cases hfk : f (k : Int) with
              | some b =>
                have hin : Hid (missB f ((enumI zs).take (k + 1)) = false) := by
                  rw [Hid, HQ2.out, HQ.out]; simp [hfk]
                rw [hfk] at hlk hfb hmb
                have HS' : Hid (costSum f ((enumI zs).take (k + 1)) = costSum f ((enumI zs).take k) + x * b) := by rw [Hid, HS.out]; simp [hfk]
                simp only [Option.getD_some, Option.isSome_some] at hlk hfb hmb
                clear hx HS hfk HQ2
                generalize costSum f ((enumI zs).take k) = sm at *
                by_cases hx0 : 0 < x
                · go_wp2_with fail
                  go_roundg (zs.length - (k + 1))
                  case rel => exact ⟨k + 1, rfl, by omega, by go_num, by rw [HS'.out], rfl, hin⟩
                  case measure => omega
                · go_wp2_with fail
                  go_roundg (zs.length - (k + 1))
                  case rel => exact ⟨k + 1, rfl, by omega, by go_num, by rw [HS'.out], rfl, hin⟩
                  case measure => omega
              | none =>
                rw [hfk] at hlk
                simp only [Option.getD_none, Option.isSome_none] at hlk
                by_cases hx0 : 0 < x
                · have hbad : Hid (missB f (enumI zs) = true) := by
                    rw [Hid]
                    unfold missB
                    rw [List.any_eq_true]
                    exact ⟨((k : Int), x), List.mem_of_getElem? (enumI_at hx), by simp [hfk, hx0]⟩
                  clear hx HS hfk HQ2
                  generalize costSum f ((enumI zs).take k) = sm at *
                  go_wp2_with fail
                  go_ret2
                  have hE : E0 = 5 := by rw [HE1.out, hbad.out]; rfl
                  exact ⟨ret_two (by rw [HV0.out, hE]; rfl) (by rw [hE]; rfl), hbelz⟩
                · have hin : Hid (missB f ((enumI zs).take (k + 1)) = false) := by
                    rw [Hid, HQ2.out, HQ.out]; simp; omega
                  have HS' : Hid (costSum f ((enumI zs).take (k + 1)) = costSum f ((enumI zs).take k)) := by rw [Hid, HS.out]; simp [hfk]
                  clear hx HS hfk HQ2
                  generalize costSum f ((enumI zs).take k) = sm at *
                  go_wp2_with fail
                  go_roundg (zs.length - (k + 1))
                  case rel => exact ⟨k + 1, rfl, by omega, by go_num, by rw [HS'.out], rfl, hin⟩
                  case measure => omega
            · have hltz : ¬ (k : Int) < (zs.length : Int) := by omega
              have htk : (enumI zs).take k = enumI zs := List.take_of_length_le (by rw [enumI_length]; omega)
              rw [htk] at HQ ⊢
              have hE : Hid (E0 = 0) := by rw [Hid, HE1.out, HQ.out]; rfl
              have hV : Hid (V0 = costSum f (enumI zs)) := by rw [Hid, HV0.out, hE.out]; rfl
              clear hcb hcb2 htk
              generalize costSum f (enumI zs) = sm at *
              go_wp2_with fail
              go_ret2
              exact ⟨ret_two (by rw [hV.out]; rfl) (by rw [hE.out]; rfl), hbelz⟩
    · have hne : (errB zs != 0) = true := by simpa using h1
      have HE1 : Hid (E0 = errB zs) := by rw [Hid, HE0.out, if_pos h1]
      have HV1 : Hid (V0 = 0) := by rw [Hid, HV0.out, HE1.out, if_neg h1]
      clear h1 HE0 HV0
      generalize errB zs = E at *
      go_wp2
      go_ret2
      exact ⟨ret_two (by rw [HV1.out]; rfl) (by rw [HE1.out]; rfl), hbel1⟩
  · have hne : (checkErr cs syms != 0) = true := by simpa using h0
    have HE : Hid (E0 = checkErr cs syms) := by rw [Hid, HEe.out]; unfold costE; rw [if_pos h0]
    have HV : Hid (V0 = 0) := by rw [Hid, HVv.out]; unfold costV; rw [← HEe.out, if_neg (by rw [HE.out]; exact h0)]
    clear h0
    obtain ⟨E, hE⟩ : ∃ E, E = checkErr cs syms := ⟨_, rfl⟩
    rw [← hE] at hne HE ⊢
    clear hE
    go_wp2
    go_ret2
    exact ⟨ret_two (by rw [HV.out]; rfl) (by rw [HE.out]; rfl), hbel1⟩
end Go.Proofs.Ythelblkpfkngmaa
