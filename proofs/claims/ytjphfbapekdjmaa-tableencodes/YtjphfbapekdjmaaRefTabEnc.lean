/- The reference's TableEncode: the same contract as Encode's. -/
import Derived.Test.YtjphfbapekdjmaaRefWordOf
import Derived.Test.YtjphfbapekdjmaaTabEnc
import Derived.Test.YtjphfbapekdjmaaRefBytes
namespace Go.Proofs.Ytjphfbapekdjmaa
open Go.RowKit
set_option linter.unusedVariables false
set_option linter.unusedSimpArgs false
set_option maxRecDepth 100000

theorem fieldsOf_bits {ws : List (Int × Nat × Nat)} {xs : List Int} {k : Nat} {x : Int} (h : xs[k]? = some x) : fieldBits (fieldsOf ws (xs.take (k + 1))) = fieldBits (fieldsOf ws (xs.take k)) ++ symBits ws x := by
  rw [fieldsOf_snoc h, fieldBits_snoc]; rfl

set_option maxRecDepth 100000 in
set_option maxHeartbeats 2000000 in
theorem refEncode_any (cs syms xs : List Int) (A A2 : Option Addr) (c c2 G : Nat) (w : World) (hcs : cs.length = 16) (hn : syms.length ≤ maxLen) (hcap : syms.length ≤ c) (hb : ∀ x ∈ cs, -9223372036854775808 ≤ x ∧ x ≤ 9223372036854775807) (hs : Seen w G A (ints .i64 syms)) (hG : G ≤ w.heap.size)
    (hx : Seen w G A2 (ints .i64 xs)) (hxl : xs.length ≤ maxLen) :
    Calls Try.prog 9 #[tabV cs A syms.length c, .slice A2 xs.length c2] w fun e w' => ∃ v out, e = .returned (.tuple #[v, .int .i64 (encErr cs syms xs)]) ∧ w'.ownsRow w.heap.size 5 1 v out.length (ints .u8 out) ∧ Encd cs syms xs out ∧ Below w.heap.size w w' := by
  have hlen17 : (tabCells cs A syms.length c).length = 17 := tabCells_length hcs
  have hck := fun w1 h1 hG1 => refCheck_any cs syms A c G w1 hcs hn hcap hb h1 hG1
  have hwo := fun l hf x w1 h1 hG1 => wordOf_any cs syms l A c G x w1 hcs hf h1 hG1
  have Hcs := veil hcs
  clear hcs hb hn
  obtain ⟨ys, hys⟩ : ∃ ys, ys = tabCells cs A syms.length c := ⟨_, rfl⟩
  have Hr := veil (range_new w ys 25)
  unfold tabV at hck hwo ⊢
  rw [← hys] at hlen17 hck hwo ⊢
  clear hys
  have Hck := veil hck; have Hwo := veil hwo; clear hck hwo
  have H17 := veil hlen17; clear hlen17
  unfold maxLen at hxl
  go_enter Try.func9, Try.ntmps9
  go_wp2_with (first
    | (refine wpList_load_mid rfl 25 (.tmp 2) rfl w.heap.size 0 rfl ys _ Hr.out Try.underlying25 rfl (by rw [H17.out]; exact info_tab) ?_)
    | fail)
  refine (Hck.out _ (hs.alloc hG _) (by simp; omega)).mono ?_
  rintro e w1 ⟨rfl, hb1⟩
  have hbel1 : Below w.heap.size w w1 := (below1 _ _).trans (hb1.mono (by simp))
  have hr1 : w1.rangeAt w.heap.size 0 ys := range_below Hr.out hb1 (by simp)
  have Hr1 := veil hr1
  have hz1 := hb1.size
  simp at hz1
  clear Hr hb1 hr1 Hck
  by_cases h0 : checkErr cs syms = 0
  · rw [h0]
    by_cases hbig : 20000 < xs.length
    · have he : encErr cs syms xs = 2 := by unfold encErr; rw [if_pos h0, if_pos hbig]
      have He := veil he; clear he h0
      have hbig' : (20000 : Int) < (xs.length : Int) := by omega
      go_wp2
      go_ret2
      exact ⟨_, [], ret_two rfl (by rw [He.out]; rfl), World.ownsRow_nil _ _ _ _, encd_err (by rw [He.out]; decide), hbel1⟩
    · have hbig' : ¬ (20000 : Int) < (xs.length : Int) := by omega
      obtain ⟨l, hf, how, hll⟩ := fine_of h0
      have hwo := Hwo.out l hf
      have H0 := veil h0
      have hsm : ∀ x, (symBits (mkWords syms l) x).length ≤ 16 := by
        intro x
        unfold symBits
        rw [bitsN_length]
        cases hq : symF (mkWords syms l) x with
        | none => simp
        | some p =>
          obtain ⟨t, ht, _, rfl⟩ := symF_mem hq
          have := (hf.word Hcs.out ht).2.1.2
          simpa [fi] using this
      have Hsm := veil hsm
      rw [← how] at hwo Hsm
      have Hw := veil hwo
      clear hwo Hwo hll how h0 hsm hf
      obtain ⟨ws, hws⟩ : ∃ ws, ws = outWords cs syms := ⟨_, rfl⟩
      rw [← hws] at Hw Hsm
      have Hws := veil hws
      clear hws
      have hem : (⟨#[]⟩ : ByteArray) = txt (fieldBits (fieldsOf ws (xs.take 0))) := rfl
      go_wp2_with fail
      go_loopg [7, 9, 10, 11, 22] xs.length (fun gk s s0 w0 k0 i wr => ∃ (k : Nat) (bl : List Bool), gk = xs.length - k ∧ k ≤ xs.length ∧ i = .int .i64 k ∧ s = .string (txt bl) ∧ Hid (bl = fieldBits (fieldsOf ws (xs.take k))) ∧ bl.length ≤ 16 * k ∧ Hid (AllIn ws (xs.take k)) ∧ Below w1.heap.size w1 wr)
      case atStart => exact ⟨0, [], rfl, Nat.zero_le _, rfl, rfl, veil rfl, by simp, veil (by intro x hx; simp at hx), Below.refl _ _⟩
      case round =>
        clear hem
        obtain ⟨k, bl, rfl, hk, rfl, rfl, HB, hbl, HA, hbel⟩ := hrel
        have hz := hbel.size
        by_cases hlt : k < xs.length
        · obtain ⟨g, o, x, rfl, hg, hxx, h1⟩ := hx.int hlt
          rw [← hbel1.cell (by simp; omega), ← hbel.cell (by simp; omega)] at h1
          have Hxx := veil hxx; clear hxx
          have hrr : wr.rangeAt w.heap.size 0 ys := range_below Hr1.out hbel (by omega)
          have Hrr := veil hrr; clear hrr
          have hw := Hw.out x wr ((hs.below hbel1 hG).below hbel (by omega)) (by omega)
          cases hq : symF ws x with
          | none =>
            have he : encErr cs syms xs = 5 := by
              unfold encErr
              rw [if_pos H0.out, if_neg hbig, if_neg]
              intro h
              have := h x (List.mem_of_getElem? Hxx.out)
              rw [← Hws.out, hq] at this
              cases this
            rw [hq] at hw
            have He := veil he; have HW := veil hw
            clear he hw hq
            go_wp2_with (first
              | (refine wpList_load_mid rfl 25 (.tmp 2) rfl w.heap.size 0 rfl ys _ Hrr.out Try.underlying25 rfl (by rw [H17.out]; exact info_tab) ?_)
              | fail)
            refine HW.out.mono ?_
            rintro e w2 ⟨rfl, hb2⟩
            simp only [Option.isSome_none]
            go_wp2
            go_ret2
            exact ⟨_, [], ret_two rfl (by rw [He.out]; rfl), World.ownsRow_nil _ _ _ _, encd_err (by rw [He.out]; decide), (hbel1.trans (hbel.mono hbel1.size)).trans (hb2.mono (by omega))⟩
          | some p =>
            have hsb := fieldsOf_bits (ws := ws) Hxx.out
            rw [← HB.out] at hsb
            have hs16 := Hsm.out x
            rw [hq] at hw
            have HW := veil hw; have Hsb := veil hsb; have Hq := veil hq
            clear hw hsb hq
            generalize symBits ws x = sb at *
            have hadd := txt_append bl sb
            have hsz1 : (txt bl).size = bl.length := txt_size bl
            have hsz2 : (txt sb).size = sb.length := txt_size sb
            go_wp2_with (first
              | (refine wpList_load_mid rfl 25 (.tmp 2) rfl w.heap.size 0 rfl ys _ Hrr.out Try.underlying25 rfl (by rw [H17.out]; exact info_tab) ?_)
              | fail)
            refine HW.out.mono ?_
            rintro e w2 ⟨rfl, hb2⟩
            simp only [Option.isSome_some]
            go_wp2
            go_roundg (xs.length - (k + 1))
            case rel => exact ⟨k + 1, bl ++ sb, rfl, by omega, by go_num, rfl, veil Hsb.out.symm, by simp; omega, veil (mem_snoc Hxx.out HA.out (by rw [Hq.out]; rfl)), hbel.trans (hb2.mono hz)⟩
            case measure => omega
        · obtain rfl : k = xs.length := by omega
          have hal : AllIn ws xs := by have := HA.out; rw [List.take_length] at this; exact this
          have hbb : bl = fieldBits (fieldsOf ws xs) := by have := HB.out; rw [List.take_length] at this; exact this
          have he : encErr cs syms xs = 0 := by
            unfold encErr
            rw [if_pos H0.out, if_neg hbig, if_pos]
            rw [← Hws.out]; exact hal
          have He := veil he; have Hbb := veil hbb
          have hby := bytesOf_any bl wr (by omega)
          have Hby := veil hby
          clear he hal hbb hby
          go_wp2_with fail
          refine Hby.out.mono ?_
          rintro e w2 ⟨v, out, rfl, hown, hW, hb2⟩
          have hE : Encd cs syms xs out := ⟨fun h => absurd He.out h, fun _ => by rw [← Hws.out, ← Hbb.out]; exact hW⟩
          have hdn : w.heap.size ≤ wr.heap.size := by omega
          clear hW
          go_wp2
          go_ret2
          exact ⟨v, out, ret_two rfl (by rw [He.out]; rfl), own_base hown hdn, hE, (hbel1.trans (hbel.mono hbel1.size)).trans (hb2.mono hdn)⟩
  · have he : encErr cs syms xs = checkErr cs syms := by unfold encErr; rw [if_neg h0]
    have hne : (checkErr cs syms != 0) = true := by simpa using h0
    have H0 := veil h0
    clear h0
    obtain ⟨E, hE⟩ : ∃ E, E = checkErr cs syms := ⟨_, rfl⟩
    rw [← hE] at hne he ⊢
    have HE := veil hE; have He := veil he; clear hE he
    go_wp2
    go_ret2
    exact ⟨_, [], ret_two rfl (by rw [He.out]; rfl), World.ownsRow_nil _ _ _ _, encd_err (by rw [He.out, HE.out]; exact H0.out), hbel1⟩
end Go.Proofs.Ytjphfbapekdjmaa
