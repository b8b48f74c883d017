/- run.readFirst and run.readRest over a list of tokens: their contracts. -/
import Derived.Test.YtemckjkdlbipcaaRunNext
import Derived.Test.YtemckjkdlbipcaaRunDec
import Derived.Handy
namespace Go.Proofs.Ytemckjkdlbipcaa
open Go.RowKit
set_option linter.unusedVariables false
set_option linter.unusedSimpArgs false
set_option maxRecDepth 100000

abbrev srcV (g : Nat) : Value := .iface 46 (.pointer (some ⟨g, 0, none⟩))
set_option maxHeartbeats 1000000 in
theorem first_none (b : Int) (G g c : Nat) (A : Option Addr) (l : List (Int × Int × Int)) (w : World) (hs : PSrc G g A c l w l.length) (hl : l.length ≤ maxLen) :
    Calls Try.prog 33 #[.int .i64 b, srcV g] w fun e w' => e = .returned (.tuple #[.int .i64 0, .int .i64 3]) ∧ w.grownBy w' (some g) := by
  have HN := veil (pnext_none G g c A l w hs hl)
  clear hs
  unfold tokV at HN
  go_enter Try.func33, Try.ntmps33
  go_wp2_with fail
  refine HN.out.mono ?_
  rintro e w1 ⟨rfl, hb1⟩
  go_wp2
  go_ret2
  exact ⟨rfl, grown_below (grown_below (World.grownBy.refl _ _) hb1 (Nat.le_refl _)) (below1 _ _) hb1.size⟩
/-- A token of the source, and a box for it. -/
theorem boxed_tok {G g c u : Nat} {A : Option Addr} {l : List (Int × Int × Int)} {w w1 : World} (hg1 : w.grownBy w1 (some g)) (hs1 : PSrc G g A c l w1 u) (hG : G ≤ g) (hgw : g < w.heap.size) (xs : List Value) (t : TypeId) :
    w.grownBy (w1.alloc (.cells xs.toArray t)) (some g) ∧ PSrc G g A c l (w1.alloc (.cells xs.toArray t)) u := by
  have h := hg1.size
  exact ⟨grown_below hg1 (below1 w1 _) h, hs1.below (below1 w1 _) (by omega) (by omega)⟩
set_option maxHeartbeats 2000000 in
theorem first_bad (b : Int) (G g c u : Nat) (A : Option Addr) (l : List (Int × Int × Int)) (t : Int × Int × Int) (w : World) (hb : -2047 ≤ b ∧ b ≤ 2047) (hs : PSrc G g A c l w u) (hG : G ≤ g) (hl : l.length ≤ maxLen) (ht : l[u]? = some t) (hf : ¬ firstT b t) :
    Calls Try.prog 33 #[.int .i64 b, srcV g] w fun e w' => e = .returned (.tuple #[.int .i64 0, .int .i64 4]) ∧ w.grownBy w' (some g) := by
  have HN := veil (pnext_some G g c u A l t w hs hG hl ht)
  have hgw := hs.1.lt
  obtain ⟨p0, p1, p2⟩ := t
  have HBk := veil (fun W => back_any p1 p2 W)
  clear hs ht
  unfold tokV at HN
  by_cases h1 : p1 = p0
  · subst h1
    by_cases h2 : 12 < p1
    · go_enter Try.func33, Try.ntmps33
      go_wp2_with fail
      refine HN.out.mono ?_
      rintro e w1 ⟨rfl, hg1, hs1⟩
      obtain ⟨hg2, hs2⟩ := boxed_tok hg1 hs1 hG hgw [.int .i64 p1, .int .i64 p1, .int .i64 p2] 30
      go_wp2
      go_ret2
      exact ⟨rfl, hg2⟩
    · by_cases h3 : 0 ≤ p1 ∧ p1 ≤ 12 ∧ 0 ≤ p2 ∧ p2 < pw p1.toNat
      · have hq : ¬ (-2047 ≤ b + numT (p1, p1, p2) ∧ b + numT (p1, p1, p2) ≤ 2047) := fun h => hf ⟨by unfold fitT; exact decide_eq_true h3, rfl, h⟩
        have e1 : eB p1 p2 = 0 := if_pos h3
        have e2 : oB p1 p2 = numT (p1, p1, p2) := if_pos h3
        have hn : -4095 ≤ numT (p1, p1, p2) ∧ numT (p1, p1, p2) ≤ 4095 := by
          have h7 := bk_in h3.2.2.1 h3.2.2.2
          have h8 := pw_mono (a := p1.toNat) (b := 12) (by omega)
          have h9 : pw 12 = 4096 := by decide
          unfold numT; simp only []; omega
        rw [e1, e2] at HBk
        generalize numT (p1, p1, p2) = n at *
        have HC := veil (fun W => coef_no (b + n) (by omega) W)
        clear hf h3 e1 e2
        go_enter Try.func33, Try.ntmps33
        go_wp2_with fail
        refine HN.out.mono ?_
        rintro e w1 ⟨rfl, hg1, hs1⟩
        obtain ⟨hg2, hs2⟩ := boxed_tok hg1 hs1 hG hgw [.int .i64 p1, .int .i64 p1, .int .i64 p2] 30
        go_wp2_with fail
        refine (HBk.out _).mono ?_
        rintro e w2 ⟨rfl, rfl⟩
        go_wp2_with fail
        refine (HC.out _).mono ?_
        rintro e w2 ⟨rfl, rfl⟩
        go_wp2
        go_ret2
        exact ⟨rfl, hg2⟩
      · rw [eB_bad h3, oB_bad h3] at HBk
        clear hf h3
        go_enter Try.func33, Try.ntmps33
        go_wp2_with fail
        refine HN.out.mono ?_
        rintro e w1 ⟨rfl, hg1, hs1⟩
        obtain ⟨hg2, hs2⟩ := boxed_tok hg1 hs1 hG hgw [.int .i64 p1, .int .i64 p1, .int .i64 p2] 30
        go_wp2_with fail
        refine (HBk.out _).mono ?_
        rintro e w2 ⟨rfl, rfl⟩
        go_wp2
        go_ret2
        exact ⟨rfl, hg2⟩
  · have hne : (p1 != p0) = true := by simpa using h1
    go_enter Try.func33, Try.ntmps33
    go_wp2_with fail
    refine HN.out.mono ?_
    rintro e w1 ⟨rfl, hg1, hs1⟩
    obtain ⟨hg2, hs2⟩ := boxed_tok hg1 hs1 hG hgw [.int .i64 p0, .int .i64 p1, .int .i64 p2] 30
    go_wp2
    go_ret2
    exact ⟨rfl, hg2⟩
set_option maxHeartbeats 2000000 in
theorem first_ok (b : Int) (G g c u : Nat) (A : Option Addr) (l : List (Int × Int × Int)) (t : Int × Int × Int) (w : World) (hb : -2047 ≤ b ∧ b ≤ 2047) (hs : PSrc G g A c l w u) (hG : G ≤ g) (hl : l.length ≤ maxLen) (ht : l[u]? = some t) (hf : firstT b t) :
    Calls Try.prog 33 #[.int .i64 b, srcV g] w fun e w' => e = .returned (.tuple #[.int .i64 (b + numT t), .int .i64 0]) ∧ w.grownBy w' (some g) ∧ PSrc G g A c l w' (u + 1) := by
  have HN := veil (pnext_some G g c u A l t w hs hG hl ht)
  have hgw := hs.1.lt
  obtain ⟨p0, p1, p2⟩ := t
  have HBk := veil (fun W => back_any p1 p2 W)
  clear hs ht
  unfold tokV at HN
  obtain ⟨h3, h1, hq⟩ := hf
  have h1 : p0 = p1 := h1
  subst h1
  unfold fitT at h3
  have h3 := of_decide_eq_true h3
  simp only [] at h3
  have e1 : eB p0 p2 = 0 := if_pos h3
  have e2 : oB p0 p2 = numT (p0, p0, p2) := if_pos h3
  have hn : -4095 ≤ numT (p0, p0, p2) ∧ numT (p0, p0, p2) ≤ 4095 := by
    have h7 := bk_in h3.2.2.1 h3.2.2.2
    have h8 := pw_mono (a := p0.toNat) (b := 12) (by omega)
    have h9 : pw 12 = 4096 := by decide
    unfold numT; simp only []; omega
  rw [e1, e2] at HBk
  generalize numT (p0, p0, p2) = n at *
  have HC := veil (fun W => coef_yes (b + n) hq W)
  have h2 : ¬ 12 < p0 := by omega
  clear h3 e1 e2
  go_enter Try.func33, Try.ntmps33
  go_wp2_with fail
  refine HN.out.mono ?_
  rintro e w1 ⟨rfl, hg1, hs1⟩
  obtain ⟨hg2, hs2⟩ := boxed_tok hg1 hs1 hG hgw [.int .i64 p0, .int .i64 p0, .int .i64 p2] 30
  go_wp2_with fail
  refine (HBk.out _).mono ?_
  rintro e w2 ⟨rfl, rfl⟩
  go_wp2_with fail
  refine (HC.out _).mono ?_
  rintro e w2 ⟨rfl, rfl⟩
  go_wp2
  go_ret2
  exact ⟨rfl, hg2, hs2⟩
set_option maxHeartbeats 1000000 in
theorem rest_none (G g c : Nat) (A : Option Addr) (l : List (Int × Int × Int)) (w : World) (hs : PSrc G g A c l w l.length) (hl : l.length ≤ maxLen) :
    Calls Try.prog 34 #[srcV g] w fun e w' => e = .returned (.tuple #[.int .i64 0, .int .i64 0, .int .i64 3]) ∧ w.grownBy w' (some g) := by
  have HN := veil (pnext_none G g c A l w hs hl)
  clear hs
  unfold tokV at HN
  go_enter Try.func34, Try.ntmps34
  go_wp2_with fail
  refine HN.out.mono ?_
  rintro e w1 ⟨rfl, hb1⟩
  go_wp2
  go_ret3
  exact ⟨rfl, grown_below (grown_below (World.grownBy.refl _ _) hb1 (Nat.le_refl _)) (below1 _ _) hb1.size⟩
end Go.Proofs.Ytemckjkdlbipcaa
