/- The law on Encode, walked. -/
import Derived.Test.YtbboakdfnjjddaaBd14
namespace Go.Proofs.Ytbboakdfnjjddaa
open Go.RowKit
set_option linter.unusedVariables false
set_option linter.unusedSimpArgs false
set_option maxRecDepth 100000

theorem SegOut.same {cs syms cs2 syms2 : List Int} {L : List (List Int)} {a b : List Int} (ha : SegOut cs syms cs2 syms2 L a) (hb : SegOut cs syms cs2 syms2 L b) : a = b := by
  by_cases h : eEnc cs syms cs2 syms2 L = 0
  · obtain ⟨ra, rfl, ba, p, hp, ea⟩ := ha.2 h
    obtain ⟨rb, rfl, bb, q, hq, eb⟩ := hb.2 h
    have h1 := congrArg List.length ea
    have h2 := congrArg List.length eb
    simp [unpack_length] at h1 h2
    have : p = q := by omega
    subst this
    rw [unpack_inj ba bb (ea.trans eb.symm)]
  · rw [ha.1 h, hb.1 h]
theorem bad_tab (A : Option Addr) : tabV cs0 A 1 1 = .agg #[.int .i64 0, .int .i64 0, .int .i64 0, .int .i64 0, .int .i64 0, .int .i64 0, .int .i64 0, .int .i64 0, .int .i64 0, .int .i64 0, .int .i64 0, .int .i64 0, .int .i64 0, .int .i64 0, .int .i64 0, .int .i64 0, .slice A 1 1] := rfl
theorem bad_tabs (A : Option Addr) : tabsV cs0 A 1 1 cs0 none 0 0 = .agg #[.int .i64 0, .int .i64 0, .int .i64 0, .int .i64 0, .int .i64 0, .int .i64 0, .int .i64 0, .int .i64 0, .int .i64 0, .int .i64 0, .int .i64 0, .int .i64 0, .int .i64 0, .int .i64 0, .int .i64 0, .int .i64 0, .slice A 1 1, .int .i64 0, .int .i64 0, .int .i64 0, .int .i64 0, .int .i64 0, .int .i64 0, .int .i64 0, .int .i64 0, .int .i64 0, .int .i64 0, .int .i64 0, .int .i64 0, .int .i64 0, .int .i64 0, .int .i64 0, .int .i64 0, .slice none 0 0] := rfl
/-- Encode under tables that may not be. -/
theorem bad_enc : eEnc cs0 [1] cs0 [] [] = 4 := by rw [eEnc_one (by rw [check0]; decide)]; exact check0
set_option maxRecDepth 100000 in
theorem badEnc_any (A : Option Addr) (w : World) (hs : Seen w w.heap.size A (ints .i64 [1])) :
    Calls Try.prog 13 #[tabsV cs0 A 1 1 cs0 none 0 0, .slice none 0 0] w fun e w' => ∃ A2 n2 c2, e = .returned (.tuple #[.slice A2 n2 c2, .int .i64 4]) ∧ Below w.heap.size w w' := by
  refine (segEncode_any cs0 [1] A 1 cs0 [] none 0 w.heap.size [] none 0 w rfl (by unfold maxLen; decide) cs0_b hs rfl (by unfold maxLen; decide) cs0_b (.inl rfl) (by intro r hr; cases hr) (by unfold maxLen; decide) (.inl rfl) (Nat.le_refl _)).mono ?_
  rintro e w' ⟨v, out, rfl, HO, _, hb⟩
  obtain ⟨A2, c2, hv, _⟩ := HO.seen (List.mem_cons_self ..)
  rw [bad_enc]
  exact ⟨A2, _, c2, by rw [show v = _ from hv], hb⟩

end Go.Proofs.Ytbboakdfnjjddaa
