/- BitsReads: its walk. -/
import Derived.Test.YtgongeblinomcaaRefRead
import Derived.Test.YtgongeblinomcaaEqInt
import Derived.OpenShut
namespace Go.Proofs.Ytgongeblinomcaa
open Go.RowKit
set_option linter.unusedVariables false
set_option linter.unusedSimpArgs false

theorem readOut_len (bs ws : List Int) : (readOut bs ws).length ≤ 20000 := by
  by_cases h : readErr bs ws = 0
  · rw [readOut_ok h, readB_length]
    unfold readErr at h
    by_cases h1 : 20000 < ws.length
    · rw [if_pos h1] at h; cases h
    · omega
  · rw [readOut_err h]; exact Nat.zero_le _

set_option maxHeartbeats 1000000 in
theorem bitsReads_walk (A : Option Addr) (c : Nat) (bs : List Int) (A2 : Option Addr) (c2 : Nat) (ws : List Int) (w : World) (hb : Seen w w.heap.size A (ints .u8 bs)) (hbw : ∀ x ∈ bs, (Lit.int .u8 x).wf = true) (hbl : bs.length ≤ maxLen) (hbl' : bs.length ≤ 1048576)
    (hw : Seen w w.heap.size A2 (ints .i64 ws)) (hww : ∀ x ∈ ws, (Lit.int .i64 x).wf = true) (hwl : ws.length ≤ maxLen) (hwl' : ws.length ≤ 1048576) :
    Calls Try.prog 5 #[.slice A bs.length c, .slice A2 ws.length c2] w fun e w' => e = .returned (.bool true) ∧ Below w.heap.size w w' := by
  have hby : Bytes bs := fun x hx => bounds_u8 (hbw x hx)
  have hw64 : ∀ x ∈ ws, -9223372036854775808 ≤ x ∧ x ≤ 9223372036854775807 := fun x hx => bounds_i64 (hww x hx)
  have Hw := veil hw64
  clear hbw hww hbl hw64
  go_enter Try.func5, Try.ntmps5
  go_wp2_with fail
  refine (read_any A A2 c c2 _ bs ws _ hb hby hw (Nat.le_refl _) (by omega) hwl Hw.out).mono ?_
  rintro e w1 ⟨v, rfl, hown, hb1⟩
  obtain ⟨A3, c3, rfl, hs⟩ := own_form hown
  go_wp2_with fail
  refine (refRead_any A A2 c c2 _ bs ws _ (hb.below hb1 (Nat.le_refl _)) hby (hw.below hb1 (Nat.le_refl _)) hb1.size hbl' hwl Hw.out).mono ?_
  rintro e w2 ⟨v2, rfl, hown2, hb2⟩
  obtain ⟨A4, c4, rfl, hs4⟩ := own_form hown2
  have hla := readOut_len bs ws
  have hbw := hb1.trans (hb2.mono hb1.size)
  have hs2 := hs.below hb2 (Nat.le_refl _)
  have hz2 := hb2.size
  clear hown hown2 hs hb hw Hw
  generalize readErr bs ws = E at *
  generalize readSum bs ws = S at *
  generalize readOut bs ws = out at *
  have he : readErr [] [1] = 3 := by decide
  have hss : readSum [] [1] = 0 := by decide
  have hoo : readOut [] [1] = [] := by decide
  have He := veil he; have Hs := veil hss; have Ho := veil hoo
  clear he hss hoo
  go_wp2_with fail
  have s1 : Seen (w2.alloc (Obj.cells #[.int .i64 1] 3)) (w2.heap.size + 1) (some ⟨w2.heap.size, 0, none⟩) (ints .i64 [1]) := Seen.new w2 (ints .i64 [1]) _ _ (by omega)
  refine (read_any none _ 0 1 _ [] [1] _ (.inl rfl) (by simp [Bytes]) s1 (by simp) (by simp) (by decide) (by simp)).mono ?_
  rintro e w4 ⟨v4, rfl, hown4, hb4⟩
  obtain ⟨A5, c5, rfl, hs5⟩ := own_form hown4
  rw [He.out, Hs.out]
  have hb24 : Below w2.heap.size w2 w4 := (below1 _ _).trans (hb4.mono (by simp))
  have hq1 := ((hs2.below hb24 hz2).up hz2)
  have hq2 := hs4.below hb24 (Nat.le_refl _)
  have hee : (E == E) = true := by simp
  have hess : (S == S) = true := by simp
  have hlm : out.length ≤ maxLen := by unfold maxLen; omega
  go_wp2_with (go_at_call 11; refine (eqInt A3 A4 c3 c4 w2.heap.size out out _ hq1 hq2 hlm hlm).mono ?_; rintro e w5 ⟨rfl, rfl⟩)
  go_ret
  exact ⟨ret_bool (by simp), hbw.trans (hb24.mono hbw.size)⟩
end Go.Proofs.Ytgongeblinomcaa
