/- table.Encode: its contract. -/
import Derived.Test.YtjphfbapekdjmaaTabCodes
namespace Go.Proofs.Ytjphfbapekdjmaa
open Go.RowKit
set_option linter.unusedVariables false
set_option linter.unusedSimpArgs false
set_option maxRecDepth 100000

set_option maxRecDepth 100000 in
set_option maxHeartbeats 2000000 in
theorem encode_any (cs syms xs : List Int) (A A2 : Option Addr) (c c2 G : Nat) (w : World) (hcs : cs.length = 16) (hn : syms.length ≤ maxLen) (hb : ∀ x ∈ cs, -9223372036854775808 ≤ x ∧ x ≤ 9223372036854775807) (hs : Seen w G A (ints .i64 syms)) (hG : G ≤ w.heap.size)
    (hx : Seen w G A2 (ints .i64 xs)) (hxl : xs.length ≤ maxLen) (hxb : ∀ x ∈ xs, -9223372036854775808 ≤ x ∧ x ≤ 9223372036854775807) :
    Calls Try.prog 8 #[tabV cs A syms.length c, .slice A2 xs.length c2] w fun e w' => ∃ v out, e = .returned (.tuple #[v, .int .i64 (encErr cs syms xs)]) ∧ w'.ownsRow w.heap.size 5 1 v out.length (ints .u8 out) ∧ Encd cs syms xs out ∧ Below w.heap.size w w' := by
  have hlen17 : (tabCells cs A syms.length c).length = 17 := tabCells_length hcs
  have hck := fun w1 h1 hG1 => codewords_any cs syms A c G w1 hcs hn hb h1 hG1
  have Hcs := veil hcs
  clear hcs hb
  obtain ⟨ys, hys⟩ : ∃ ys, ys = tabCells cs A syms.length c := ⟨_, rfl⟩
  have Hr := veil (range_new w ys 25)
  unfold tabV at hck ⊢
  rw [← hys] at hlen17 hck ⊢
  clear hys
  have Hck := veil hck; clear hck
  have H17 := veil hlen17; clear hlen17
  unfold maxLen at hxl
  go_enter Try.func8, Try.ntmps8
  go_wp2_with (first
    | (refine wpList_load_mid rfl 25 (.tmp 2) rfl w.heap.size 0 rfl ys _ Hr.out Try.underlying25 rfl (by rw [H17.out]; exact info_tab) ?_)
    | fail)
  refine (Hck.out _ (hs.alloc hG _) (by simp; omega)).mono ?_
  rintro e w1 ⟨v, rfl, hok, hbad, hb1⟩
  have hbel1 : Below w.heap.size w w1 := (below1 _ _).trans (hb1.mono (by simp))
  have hz1 := hb1.size
  simp at hz1
  clear Hr hb1
  by_cases h0 : checkErr cs syms = 0
  · rw [h0]
    by_cases hbig : 20000 < xs.length
    · have he : encErr cs syms xs = 2 := by unfold encErr; rw [if_pos h0, if_pos hbig]
      have He := veil he; clear he h0
      have hbig' : (20000 : Int) < (xs.length : Int) := by omega
      go_wp2
      go_ret2
      exact ⟨_, [], ret_two rfl (by rw [He.out]; rfl), World.ownsRow_nil _ _ _ _, encd_err (by rw [He.out]; decide), hbel1⟩
    · have hbig' : ¬ (20000 : Int) < (xs.length : Int) := by omega
      obtain ⟨b, rfl, hbb, HM⟩ := hok h0
      have hbel2 := hbel1
      have hz2 : w1.heap.size ≤ w1.heap.size := Nat.le_refl _
      have hbl := HM.lt
      have H0 := veil h0
      clear h0 hok hbad
      obtain ⟨cur, hmk, hcur⟩ := run_make_fields xs.length (by omega) w1
      have Hcur := veil hcur; clear hcur
      obtain ⟨ws, hws⟩ : ∃ ws, ws = outWords cs syms := ⟨_, rfl⟩
      rw [← hws] at HM
      have Hws := veil hws
      clear Hck hws
      go_wp2_with fail
      go_loopg [8, 10, 11, 12, 29] xs.length (fun gk v s0 f0 k0 i wr => ∃ k : Nat, gk = xs.length - k ∧ k ≤ xs.length ∧ i = .int .i64 k ∧ Hid (AllIn ws (xs.take k)) ∧ wr.ownsRow w1.heap.size 48 2 v (fieldsOf ws (xs.take k)).length (pairCells (fieldsOf ws (xs.take k))) ∧ Below w1.heap.size w1 wr)
      case atStart =>
        refine ⟨0, rfl, Nat.zero_le _, rfl, veil (by intro x hx; simp at hx), ?_, below1 _ _⟩
        exact World.ownsRow_made _ _ _ (Nat.le_refl _) (by unfold maxLen; omega) Hcur.out
      case round =>
        obtain ⟨k, rfl, hk, rfl, HA, hown, hbel⟩ := hrel
        have hz := hbel.size
        have HMr := HM.below hbel hbl
        by_cases hlt : k < xs.length
        · obtain ⟨g, o, x, rfl, hg, hxx, h1⟩ := hx.int hlt
          rw [← hbel2.cell (by simp; omega), ← hbel.cell (by simp; omega)] at h1
          have hwx : WF x := wf_of (hxb x (List.mem_of_getElem? hxx))
          have Hwx := veil hwx; have Hxx := veil hxx
          clear hwx hxx
          cases hq : symF ws x with
          | none =>
            have he : encErr cs syms xs = 5 := by
              unfold encErr
              rw [if_pos H0.out, if_neg hbig, if_neg]
              intro h
              have := h x (List.mem_of_getElem? Hxx.out)
              rw [← Hws.out, hq] at this
              cases this
            have He := veil he; clear he
            go_wp2_with (first
              | (at_lookup; refine wpList_lookF _ rfl (.tmp 34) (.tmp 35) rfl b syms.length (symF ws) (symS ws) rfl HMr x rfl Hwx.out (0, 0) false (by rw [hq]; rfl) (by rw [hq]; rfl) ?_)
              | fail)
            go_ret2
            exact ⟨_, [], ret_two rfl (by rw [He.out]; rfl), World.ownsRow_nil _ _ _ _, encd_err (by rw [He.out]; decide), (hbel2.trans (hbel.mono hbel2.size)).trans ((below1 _ _).mono (by omega))⟩
          | some p =>
            obtain ⟨p1, p2⟩ := p
            have hfl : (fieldsOf ws (xs.take k)).length = k := by simp [fieldsOf]; omega
            have hsn := fieldsOf_snoc (ws := ws) Hxx.out
            rw [hq] at hsn
            have Hsn := veil hsn; have Hfl := veil hfl
            clear hsn hfl
            have Hq := veil hq
            go_wp2_with (first
              | (at_lookup; refine wpList_lookF _ rfl (.tmp 34) (.tmp 35) rfl b syms.length (symF ws) (symS ws) rfl HMr x rfl Hwx.out (p1, p2) true (by rw [Hq.out]; rfl) (by rw [Hq.out]; rfl) ?_)
              | (at_builtin; go_loud (refine wpList_app2 (wr.alloc (.cells #[.int .i64 p1, .int .i64 p2] 48)) rfl (.tmp 41) (.tmp 43) _ rfl w1.heap.size 48 Try.underlying46 info_field u8 (fieldsOf ws (xs.take k)) p1 p2 rfl (hown.alloc _) (by rw [World.size_alloc']; rfl) (by rw [Hfl.out]; omega) (by rw [World.size_alloc']; omega) ?_); intro v' w' hown' hbel' hsz'))
            go_roundg (xs.length - (k + 1))
            case rel => exact ⟨k + 1, rfl, by omega, by go_num, veil (mem_snoc Hxx.out HA.out (by rw [Hq.out]; rfl)), by rw [Hsn.out]; exact hown', (hbel.trans ((below1 _ _).mono hz)).trans hbel'⟩
            case measure => omega
        · obtain rfl : k = xs.length := by omega
          rw [List.take_length] at hown
          have hal : AllIn ws xs := by have := HA.out; rw [List.take_length] at this; exact this
          have he : encErr cs syms xs = 0 := by
            unfold encErr
            rw [if_pos H0.out, if_neg hbig, if_pos]
            rw [← Hws.out]; exact hal
          have hwe := fields_ok Hcs.out he
          rw [← Hws.out] at hwe
          have hfl : (fieldsOf ws xs).length = xs.length := by simp [fieldsOf]
          obtain ⟨A9, c9, e9, hs9, _, _⟩ := own_form' hown
          subst e9
          have hwr := write_any A9 c9 wr.heap.size (fieldsOf ws xs) wr hs9 (Nat.le_refl _) (by rw [hfl]; unfold maxLen; omega)
          rw [hwe] at hwr
          have Hwr := veil hwr; have He := veil he; have Hwe := veil hwe
          clear hwr he hwe hal hfl hown hs9
          go_wp2_with fail
          refine Hwr.out.mono ?_
          rintro e w3 ⟨v3, out, rfl, hown3, hW, hb3⟩
          have hE : Encd cs syms xs out := ⟨fun h => absurd He.out h, fun _ => by rw [← Hws.out]; exact hW.2 Hwe.out⟩
          have hbel3 := (hbel2.trans (hbel.mono hbel2.size)).trans (hb3.mono (Nat.le_trans hbel2.size hz))
          have hdn := Nat.le_trans hbel2.size hz
          clear hW
          go_wp2
          go_ret2
          exact ⟨v3, out, ret_two rfl (by rw [He.out]; rfl), own_base hown3 hdn, hE, hbel3⟩
  · have he : encErr cs syms xs = checkErr cs syms := by unfold encErr; rw [if_neg h0]
    have hne : (checkErr cs syms != 0) = true := by simpa using h0
    have H0 := veil h0
    clear h0 Hck hok hbad
    obtain ⟨E, hE⟩ : ∃ E, E = checkErr cs syms := ⟨_, rfl⟩
    rw [← hE] at hne he ⊢
    have HE := veil hE; have He := veil he; clear hE he
    go_wp2
    go_ret2
    exact ⟨_, [], ret_two rfl (by rw [He.out]; rfl), World.ownsRow_nil _ _ _ _, encd_err (by rw [He.out, HE.out]; exact H0.out), hbel1⟩
end Go.Proofs.Ytjphfbapekdjmaa
