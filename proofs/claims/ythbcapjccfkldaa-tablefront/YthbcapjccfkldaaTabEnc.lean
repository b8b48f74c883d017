/- table.Encode: its contract. -/
import Derived.Test.YthbcapjccfkldaaTabWords
import Derived.Test.YthbcapjccfkldaaWrittenMath
namespace Go.Proofs.Ythbcapjccfkldaa
open Go.RowKit
set_option linter.unusedVariables false
set_option linter.unusedSimpArgs false

theorem info_field : (Try.prog.info? 64).map (fun i => (i.zero, i.size, i.bytes)) = some (some (.agg #[.int .i64 0, .int .i64 0]), 2, 16) := by kernel_rfl
theorem run_make_fields (n : Nat) (h : n ≤ 1099511627776) (u : World) : ∃ cur, (Instr.makeSlice 62 (.int .i64 0) (.int .i64 (n : Int))).run Try.prog u =
    .ok (.slice (some ⟨u.heap.size, 0, none⟩) 0 n) (u.alloc (.cells cur 64)) ∧ cur.size = n * 2 := by
  obtain ⟨i0, hi, hz0, hz1, hz2⟩ := info_parts info_field
  have h := run_make (P := Try.prog) u 62 64 i0 (.agg #[.int .i64 0, .int .i64 0]) Try.underlying62 hi hz0 .i64 .i64 0 n (by omega) (by omega) (by rw [hz2]; omega) (by omega)
  exact ⟨_, h, by simp [madeCells, hz1, Value.cells]⟩

/-- The fields of symbols. -/
def fieldsOf (ws : List (Int × Nat × Nat)) (xs : List Int) : List (Int × Int) := xs.map fun x => (symF ws x).getD (0, 0)
theorem fieldsOf_snoc {ws : List (Int × Nat × Nat)} {xs : List Int} {k : Nat} {x : Int} (h : xs[k]? = some x) : fieldsOf ws (xs.take (k + 1)) = fieldsOf ws (xs.take k) ++ [(symF ws x).getD (0, 0)] := by
  rw [take_snoc h]; simp [fieldsOf]
def AllIn (ws : List (Int × Nat × Nat)) (xs : List Int) : Prop := ∀ x ∈ xs, (symF ws x).isSome = true
instance (ws : List (Int × Nat × Nat)) (xs : List Int) : Decidable (AllIn ws xs) := by unfold AllIn; infer_instance
def encErr (cs syms xs : List Int) : Int := if checkErr cs syms = 0 then if 20000 < xs.length then 2 else if AllIn (outWords cs syms) xs then 0 else 5 else checkErr cs syms
/-- What Encode makes. -/
def Encd (cs syms xs out : List Int) : Prop := (encErr cs syms xs ≠ 0 → out = []) ∧ (encErr cs syms xs = 0 → Bytes out ∧ ∃ p, p < 8 ∧ unpack out = fieldBits (fieldsOf (outWords cs syms) xs) ++ List.replicate p true)
theorem encd_err {cs syms xs : List Int} (h : encErr cs syms xs ≠ 0) : Encd cs syms xs [] := ⟨fun _ => rfl, fun e => absurd e h⟩
theorem encErr_zero {cs syms xs : List Int} (h : encErr cs syms xs = 0) : checkErr cs syms = 0 ∧ xs.length ≤ 20000 ∧ AllIn (outWords cs syms) xs := by
  unfold encErr at h
  split at h
  · rename_i h1
    split at h
    · cases h
    · rename_i h2
      split at h
      · rename_i h3; exact ⟨h1, by omega, h3⟩
      · cases h
  · rename_i h1; exact absurd h h1
/-- Each word that a symbol has is one of the words. -/
theorem symF_mem {ws : List (Int × Nat × Nat)} {x : Int} {p : Int × Int} (h : symF ws x = some p) : ∃ t ∈ ws, t.1 = x ∧ fi t = p := by
  induction ws using snoc_ind with
  | h0 => simp [symF, symGo] at h
  | h1 ws t ih =>
    rw [symF_snoc] at h
    unfold upd at h
    by_cases e : x = t.1
    · rw [if_pos e] at h; injection h with h; exact ⟨t, by simp, e.symm, h⟩
    · rw [if_neg e] at h
      obtain ⟨u, hu, h2⟩ := ih h
      exact ⟨u, by simp [hu], h2⟩
theorem mem_mkWords {syms : List Int} {l : List (Nat × Nat)} {t : Int × Nat × Nat} (h : t ∈ mkWords syms l) : ∃ i : Nat, syms[i]? = some t.1 ∧ l[i]? = some t.2 := by
  obtain ⟨i, hi⟩ := List.getElem?_of_mem h
  refine ⟨i, ?_⟩
  unfold mkWords at hi
  rw [List.getElem?_zipWith] at hi
  cases h1 : syms[i]? with
  | none => simp [h1] at hi
  | some s =>
    cases h2 : l[i]? with
    | none => simp [h1, h2] at hi
    | some p => simp [h1, h2] at hi; subst hi; exact ⟨rfl, rfl⟩
theorem Fine.kr {cs syms : List Int} {l : List (Nat × Nat)} (h : Fine cs syms l) (hcs : cs.length = 16) : Kr 0 l := codes_kr (by rw [nats_length]; exact hcs) h.code
theorem Fine.word {cs syms : List Int} {l : List (Nat × Nat)} (h : Fine cs syms l) (hcs : cs.length = 16) {t : Int × Nat × Nat} (ht : t ∈ mkWords syms l) : (0 ≤ t.1 ∧ t.1 ≤ 255) ∧ (1 ≤ t.2.1 ∧ t.2.1 ≤ 16) ∧ t.2.2 + 1 < 2 ^ t.2.1 := by
  obtain ⟨i, h1, h2⟩ := mem_mkWords ht
  have hm := List.mem_of_getElem? h2
  have := (h.kr hcs).ge _ hm
  exact ⟨h.ok _ (List.mem_of_getElem? h1), ⟨this.1, this.2.1⟩, (h.kr hcs).small hm⟩
theorem fields_ok {cs syms xs : List Int} (hcs : cs.length = 16) (h : encErr cs syms xs = 0) : writeErr (fieldsOf (outWords cs syms) xs) = 0 := by
  obtain ⟨h1, h2, h3⟩ := encErr_zero h
  obtain ⟨l, hf, hw, _⟩ := fine_of h1
  unfold writeErr
  rw [if_neg (by simp [fieldsOf]; omega), if_pos]
  intro f hf2
  simp only [fieldsOf, List.mem_map] at hf2
  obtain ⟨x, hx, rfl⟩ := hf2
  obtain ⟨p, hp⟩ := Option.isSome_iff_exists.1 (h3 x hx)
  rw [hp]
  obtain ⟨t, ht, _, rfl⟩ := symF_mem hp
  rw [hw] at ht
  obtain ⟨_, h5, h6⟩ := hf.word hcs ht
  exact (okF_nat t.2.1 t.2.2).2 ⟨by omega, by omega⟩
theorem fi_small {cs syms : List Int} {l : List (Nat × Nat)} (h : Fine cs syms l) (hcs : cs.length = 16) {t : Int × Nat × Nat} (ht : t ∈ mkWords syms l) : WF t.1 ∧ WF (t.2.1 : Int) ∧ WF (t.2.2 : Int) := by
  obtain ⟨h1, h2, h3⟩ := h.word hcs ht
  have : 2 ^ t.2.1 ≤ 2 ^ 16 := Nat.pow_le_pow_right (by omega) h2.2
  exact ⟨wf_of (by omega), wf_of (by omega), wf_of (by omega)⟩

set_option maxRecDepth 100000 in
set_option maxHeartbeats 2000000 in
theorem encode_any (cs syms xs : List Int) (A A2 : Option Addr) (c c2 G : Nat) (w : World) (hcs : cs.length = 16) (hn : syms.length ≤ maxLen) (hb : ∀ x ∈ cs, -9223372036854775808 ≤ x ∧ x ≤ 9223372036854775807) (hs : Seen w G A (ints .i64 syms)) (hG : G ≤ w.heap.size)
    (hx : Seen w G A2 (ints .i64 xs)) (hxl : xs.length ≤ maxLen) (hxb : ∀ x ∈ xs, -9223372036854775808 ≤ x ∧ x ≤ 9223372036854775807) :
    Calls Try.prog 20 #[tabV cs A syms.length c, .slice A2 xs.length c2] w fun e w' => ∃ v out, e = .returned (.tuple #[v, .int .i64 (encErr cs syms xs)]) ∧ w'.ownsRow w.heap.size 5 1 v out.length (ints .u8 out) ∧ Encd cs syms xs out ∧ Below w.heap.size w w' := by
  have hlen17 : (tabCells cs A syms.length c).length = 17 := tabCells_length hcs
  have hck := fun w1 h1 hG1 => words_any cs syms A c G w1 hcs hn hb h1 hG1
  have Hcs := veil hcs
  clear hcs hb
  obtain ⟨ys, hys⟩ : ∃ ys, ys = tabCells cs A syms.length c := ⟨_, rfl⟩
  have Hr := veil (range_new w ys 25)
  unfold tabV at hck ⊢
  rw [← hys] at hlen17 hck ⊢
  clear hys
  have Hck := veil hck; clear hck
  have H17 := veil hlen17; clear hlen17
  unfold maxLen at hxl
  go_enter Try.func20, Try.ntmps20
  go_wp2_with (first
    | (refine wpList_load_mid rfl 25 (.tmp 2) rfl w.heap.size 0 rfl ys _ Hr.out Try.underlying25 rfl (by rw [H17.out]; exact info_tab) ?_)
    | fail)
  refine (Hck.out _ (hs.alloc hG _) (by simp; omega)).mono ?_
  rintro e w1 ⟨v, rfl, HO, hb1⟩
  have hbel1 : Below w.heap.size w w1 := (below1 _ _).trans (hb1.mono (by simp))
  have hz1 := hb1.size
  simp at hz1
  clear Hr hb1
  by_cases h0 : checkErr cs syms = 0
  · rw [h0]
    by_cases hbig : 20000 < xs.length
    · have he : encErr cs syms xs = 2 := by unfold encErr; rw [if_pos h0, if_pos hbig]
      have He := veil he; clear he h0
      have hbig' : (20000 : Int) < (xs.length : Int) := by omega
      go_wp2
      go_ret2
      exact ⟨_, [], ret_two rfl (by rw [He.out]; rfl), World.ownsRow_nil _ _ _ _, encd_err (by rw [He.out]; decide), hbel1⟩
    · have hbig' : ¬ (20000 : Int) < (xs.length : Int) := by omega
      obtain ⟨l, hf, how, hll⟩ := fine_of h0
      have h256 := hf.good.le
      rw [how] at HO
      have hwl : (mkWords syms l).length = syms.length := by rw [mkWords_length _ _ (by omega), hll]
      have hwf : ∀ t ∈ mkWords syms l, WF t.1 := fun t ht => (fi_small hf Hcs.out ht).1
      obtain ⟨A5, c5, e5, hs5, _, _⟩ := HO.seen (List.mem_cons_self ..)
      simp only [wordRow] at e5 hs5
      rw [hwl] at e5
      subst e5
      have hby := bySymbol_any A5 c5 w1.heap.size (mkWords syms l) w1 hs5 (Nat.le_refl _) (by rw [hwl]; omega) hwf
      rw [hwl] at hby
      have Hby := veil hby
      have How := veil how; have H0 := veil h0
      clear hby hwf hwl hll hf how HO hs5 h0
      go_wp2_with fail
      refine Hby.out.mono ?_
      rintro e w2 ⟨b, rfl, hbb, HM, hb2⟩
      rw [← How.out] at HM
      have hbel2 := hbel1.trans (hb2.mono hbel1.size)
      have hz2 := hb2.size
      have hbl := HM.lt
      clear Hby hb2
      obtain ⟨cur, hmk, hcur⟩ := run_make_fields xs.length (by omega) w2
      have Hcur := veil hcur; clear hcur
      obtain ⟨ws, hws⟩ : ∃ ws, ws = outWords cs syms := ⟨_, rfl⟩
      rw [← hws] at HM
      have Hws := veil hws
      clear How Hck hws
      go_wp2_with fail
      go_loopg [9, 11, 12, 13, 32] xs.length (fun gk v s0 f0 k0 i wr => ∃ k : Nat, gk = xs.length - k ∧ k ≤ xs.length ∧ i = .int .i64 k ∧ Hid (AllIn ws (xs.take k)) ∧ wr.ownsRow w2.heap.size 64 2 v (fieldsOf ws (xs.take k)).length (pairCells (fieldsOf ws (xs.take k))) ∧ Below w2.heap.size w2 wr)
      case atStart =>
        refine ⟨0, rfl, Nat.zero_le _, rfl, veil (by intro x hx; simp at hx), ?_, below1 _ _⟩
        exact World.ownsRow_made _ _ _ (Nat.le_refl _) (by unfold maxLen; omega) Hcur.out
      case round =>
        obtain ⟨k, rfl, hk, rfl, HA, hown, hbel⟩ := hrel
        have hz := hbel.size
        have HMr := HM.below hbel hbl
        by_cases hlt : k < xs.length
        · obtain ⟨g, o, x, rfl, hg, hxx, h1⟩ := hx.int hlt
          rw [← hbel2.cell (by simp; omega), ← hbel.cell (by simp; omega)] at h1
          have hwx : WF x := wf_of (hxb x (List.mem_of_getElem? hxx))
          have Hwx := veil hwx; have Hxx := veil hxx
          clear hwx hxx
          cases hq : symF ws x with
          | none =>
            have he : encErr cs syms xs = 5 := by
              unfold encErr
              rw [if_pos H0.out, if_neg hbig, if_neg]
              intro h
              have := h x (List.mem_of_getElem? Hxx.out)
              rw [← Hws.out, hq] at this
              cases this
            have He := veil he; clear he
            go_wp2_with (first
              | (at_lookup; refine wpList_lookF _ rfl (.tmp 37) (.tmp 38) rfl b syms.length (symF ws) (symS ws) rfl HMr x rfl Hwx.out (0, 0) false (by rw [hq]; rfl) (by rw [hq]; rfl) ?_)
              | fail)
            go_ret2
            exact ⟨_, [], ret_two rfl (by rw [He.out]; rfl), World.ownsRow_nil _ _ _ _, encd_err (by rw [He.out]; decide), (hbel2.trans (hbel.mono hbel2.size)).trans ((below1 _ _).mono (by omega))⟩
          | some p =>
            obtain ⟨p1, p2⟩ := p
            have hfl : (fieldsOf ws (xs.take k)).length = k := by simp [fieldsOf]; omega
            have hsn := fieldsOf_snoc (ws := ws) Hxx.out
            rw [hq] at hsn
            have Hsn := veil hsn; have Hfl := veil hfl
            clear hsn hfl
            have Hq := veil hq
            go_wp2_with (first
              | (at_lookup; refine wpList_lookF _ rfl (.tmp 37) (.tmp 38) rfl b syms.length (symF ws) (symS ws) rfl HMr x rfl Hwx.out (p1, p2) true (by rw [Hq.out]; rfl) (by rw [Hq.out]; rfl) ?_)
              | (at_builtin; go_loud (refine wpList_app2 (wr.alloc (.cells #[.int .i64 p1, .int .i64 p2] 64)) rfl (.tmp 44) (.tmp 46) _ rfl w2.heap.size 64 Try.underlying62 info_field u9 (fieldsOf ws (xs.take k)) p1 p2 rfl (hown.alloc _) (by rw [World.size_alloc']; rfl) (by rw [Hfl.out]; omega) (by rw [World.size_alloc']; omega) ?_); intro v' w' hown' hbel' hsz'))
            go_roundg (xs.length - (k + 1))
            case rel => exact ⟨k + 1, rfl, by omega, by go_num, veil (mem_snoc Hxx.out HA.out (by rw [Hq.out]; rfl)), by rw [Hsn.out]; exact hown', (hbel.trans ((below1 _ _).mono hz)).trans hbel'⟩
            case measure => omega
        · obtain rfl : k = xs.length := by omega
          rw [List.take_length] at hown
          have hal : AllIn ws xs := by have := HA.out; rw [List.take_length] at this; exact this
          have he : encErr cs syms xs = 0 := by
            unfold encErr
            rw [if_pos H0.out, if_neg hbig, if_pos]
            rw [← Hws.out]; exact hal
          have hwe := fields_ok Hcs.out he
          rw [← Hws.out] at hwe
          have hfl : (fieldsOf ws xs).length = xs.length := by simp [fieldsOf]
          obtain ⟨A9, c9, e9, hs9, _, _⟩ := own_form' hown
          subst e9
          have hwr := write_any A9 c9 wr.heap.size (fieldsOf ws xs) wr hs9 (Nat.le_refl _) (by rw [hfl]; unfold maxLen; omega)
          rw [hwe] at hwr
          have Hwr := veil hwr; have He := veil he; have Hwe := veil hwe
          clear hwr he hwe hal hfl hown hs9
          go_wp2_with fail
          refine Hwr.out.mono ?_
          rintro e w3 ⟨v3, out, rfl, hown3, hW, hb3⟩
          have hE : Encd cs syms xs out := ⟨fun h => absurd He.out h, fun _ => by rw [← Hws.out]; exact hW.2 Hwe.out⟩
          have hbel3 := (hbel2.trans (hbel.mono hbel2.size)).trans (hb3.mono (Nat.le_trans hbel2.size hz))
          have hdn := Nat.le_trans hbel2.size hz
          clear hW
          go_wp2
          go_ret2
          exact ⟨v3, out, ret_two rfl (by rw [He.out]; rfl), own_base hown3 hdn, hE, hbel3⟩
  · have he : encErr cs syms xs = checkErr cs syms := by unfold encErr; rw [if_neg h0]
    have hne : (checkErr cs syms != 0) = true := by simpa using h0
    have H0 := veil h0
    clear h0 Hck HO
    obtain ⟨E, hE⟩ : ∃ E, E = checkErr cs syms := ⟨_, rfl⟩
    rw [← hE] at hne he ⊢
    have HE := veil hE; have He := veil he; clear hE he
    go_wp2
    go_ret2
    exact ⟨_, [], ret_two rfl (by rw [He.out]; rfl), World.ownsRow_nil _ _ _ _, encd_err (by rw [He.out, HE.out]; exact H0.out), hbel1⟩
end Go.Proofs.Ythbcapjccfkldaa
