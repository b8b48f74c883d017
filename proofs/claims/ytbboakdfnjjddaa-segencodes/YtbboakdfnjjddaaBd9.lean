/- Texts shared by the claims of this seat, in one. -/
import Derived.Test.YtbboakdfnjjddaaBd8
import Derived.Test.YtbboakdfnjjddaaBd7
import Derived.Deep.Cut
import Derived.Test.YtbboakdfnjjddaaBd4
import Derived.Test.YtbboakdfnjjddaaBd1
import Derived.Test.YtbboakdfnjjddaaBd3
/- run.readRest over a list of tokens: its contract. -/
namespace Go.Proofs.Ytbboakdfnjjddaa
open Go.RowKit
set_option linter.unusedVariables false
set_option linter.unusedSimpArgs false
set_option maxRecDepth 100000

theorem drewN_g {w w1 : World} {g : Nat} (h : w.grownBy w1 (some g)) (n : Nat) : w.grownBy (w1.drewN n) (some g) := ⟨h.os, h.tape, h.output, h.size, h.block⟩
set_option maxHeartbeats 2000000 in
theorem rest_bad1 (G g c u : Nat) (A : Option Addr) (l : List (Int × Int × Int)) (p0 p1 p2 : Int) (w : World) (hs : PSrc G g A c l w u) (hG : G ≤ g) (hl : l.length ≤ maxLen) (ht : l[u]? = some (p0, p1, p2)) (h : p0 < 0) :
    Calls Try.prog 102 #[srcV g] w fun e w' => e = .returned (.tuple #[.int .i64 0, .int .i64 0, .int .i64 4]) ∧ w.grownBy w' (some g) := by
  have HN := veil (pnext_some G g c u A l _ w hs hG hl ht)
  have hgw := hs.1.lt
  clear hs ht
  unfold tokV at HN
  skip
  go_enter Try.func102, Try.ntmps102
  go_wp2_with fail
  refine HN.out.mono ?_
  rintro e w1 ⟨rfl, hg1, hs1⟩
  obtain ⟨hg2, hs2⟩ := boxed_tok hg1 hs1 hG hgw [.int .i64 p0, .int .i64 p1, .int .i64 p2] 56
  have HBt := Blk.new w1 [.int .i64 p0, .int .i64 p1, .int .i64 p2] 56
  have k0 := HBt.cell (i := 0) (v := .int .i64 p0) rfl
  have k1 := HBt.cell (i := 1) (v := .int .i64 p1) rfl
  have k2 := HBt.cell (i := 2) (v := .int .i64 p2) rfl
  clear HBt
  go_wp2_with fail
  obtain ⟨W2, hW2⟩ : ∃ W2, W2 = w1.alloc (.cells #[.int .i64 p0, .int .i64 p1, .int .i64 p2] 56) := ⟨_, rfl⟩
  rw [← hW2] at hg2 hs2 k0 k1 k2 ⊢
  clear hW2
  go_quiet (fail)
  go_wp2
  go_ret3
  exact ⟨rfl, drewN_g hg2 _⟩
set_option maxHeartbeats 2000000 in
theorem rest_bad2 (G g c u : Nat) (A : Option Addr) (l : List (Int × Int × Int)) (p0 p1 p2 : Int) (w : World) (hs : PSrc G g A c l w u) (hG : G ≤ g) (hl : l.length ≤ maxLen) (ht : l[u]? = some (p0, p1, p2)) (h0 : 0 ≤ p0) (h : p1 ≠ p0 % 16) :
    Calls Try.prog 102 #[srcV g] w fun e w' => e = .returned (.tuple #[.int .i64 0, .int .i64 0, .int .i64 4]) ∧ w.grownBy w' (some g) := by
  have HN := veil (pnext_some G g c u A l _ w hs hG hl ht)
  have hgw := hs.1.lt
  clear hs ht
  unfold tokV at HN
  have hne : (p1 != p0 % 16) = true := by simpa using h
  have hn0 : ¬ p0 < 0 := by omega
  go_enter Try.func102, Try.ntmps102
  go_wp2_with fail
  refine HN.out.mono ?_
  rintro e w1 ⟨rfl, hg1, hs1⟩
  obtain ⟨hg2, hs2⟩ := boxed_tok hg1 hs1 hG hgw [.int .i64 p0, .int .i64 p1, .int .i64 p2] 56
  have HBt := Blk.new w1 [.int .i64 p0, .int .i64 p1, .int .i64 p2] 56
  have k0 := HBt.cell (i := 0) (v := .int .i64 p0) rfl
  have k1 := HBt.cell (i := 1) (v := .int .i64 p1) rfl
  have k2 := HBt.cell (i := 2) (v := .int .i64 p2) rfl
  clear HBt
  go_wp2_with fail
  obtain ⟨W2, hW2⟩ : ∃ W2, W2 = w1.alloc (.cells #[.int .i64 p0, .int .i64 p1, .int .i64 p2] 56) := ⟨_, rfl⟩
  rw [← hW2] at hg2 hs2 k0 k1 k2 ⊢
  clear hW2
  go_quiet (fail)
  go_wp2
  go_ret3
  exact ⟨rfl, drewN_g hg2 _⟩
set_option maxHeartbeats 2000000 in
theorem rest_bad3 (G g c u : Nat) (A : Option Addr) (l : List (Int × Int × Int)) (p0 p1 p2 : Int) (w : World) (hs : PSrc G g A c l w u) (hG : G ≤ g) (hl : l.length ≤ maxLen) (ht : l[u]? = some (p0, p1, p2)) (h0 : 0 ≤ p0) (h : p0 % 16 = p1) (h2 : 11 < p1) :
    Calls Try.prog 102 #[srcV g] w fun e w' => e = .returned (.tuple #[.int .i64 0, .int .i64 0, .int .i64 4]) ∧ w.grownBy w' (some g) := by
  have HN := veil (pnext_some G g c u A l _ w hs hG hl ht)
  have hgw := hs.1.lt
  clear hs ht
  unfold tokV at HN
  have hn0 : ¬ p0 < 0 := by omega
  go_enter Try.func102, Try.ntmps102
  go_wp2_with fail
  refine HN.out.mono ?_
  rintro e w1 ⟨rfl, hg1, hs1⟩
  obtain ⟨hg2, hs2⟩ := boxed_tok hg1 hs1 hG hgw [.int .i64 p0, .int .i64 p1, .int .i64 p2] 56
  have HBt := Blk.new w1 [.int .i64 p0, .int .i64 p1, .int .i64 p2] 56
  have k0 := HBt.cell (i := 0) (v := .int .i64 p0) rfl
  have k1 := HBt.cell (i := 1) (v := .int .i64 p1) rfl
  have k2 := HBt.cell (i := 2) (v := .int .i64 p2) rfl
  clear HBt
  go_wp2_with fail
  obtain ⟨W2, hW2⟩ : ∃ W2, W2 = w1.alloc (.cells #[.int .i64 p0, .int .i64 p1, .int .i64 p2] 56) := ⟨_, rfl⟩
  rw [← hW2] at hg2 hs2 k0 k1 k2 ⊢
  clear hW2
  go_quiet (fail)
  go_wp2
  go_ret3
  exact ⟨rfl, drewN_g hg2 _⟩
set_option maxHeartbeats 2000000 in
theorem rest_bad4 (G g c u : Nat) (A : Option Addr) (l : List (Int × Int × Int)) (p0 p1 p2 : Int) (w : World) (hs : PSrc G g A c l w u) (hG : G ≤ g) (hl : l.length ≤ maxLen) (ht : l[u]? = some (p0, p1, p2)) (h0 : 0 ≤ p0) (h : p0 % 16 = p1) (h2 : p1 = 0) (h3 : p0 ≠ 0) (h4 : p0 ≠ 240) :
    Calls Try.prog 102 #[srcV g] w fun e w' => e = .returned (.tuple #[.int .i64 0, .int .i64 0, .int .i64 4]) ∧ w.grownBy w' (some g) := by
  have HN := veil (pnext_some G g c u A l _ w hs hG hl ht)
  have hgw := hs.1.lt
  clear hs ht
  unfold tokV at HN
  subst h2
  have hn0 : ¬ p0 < 0 := by omega
  have h5 : (p0 != 0) = true := by simpa using h3
  have h6 : (p0 != 240) = true := by simpa using h4
  go_enter Try.func102, Try.ntmps102
  go_wp2_with fail
  refine HN.out.mono ?_
  rintro e w1 ⟨rfl, hg1, hs1⟩
  obtain ⟨hg2, hs2⟩ := boxed_tok hg1 hs1 hG hgw [.int .i64 p0, .int .i64 0, .int .i64 p2] 56
  have HBt := Blk.new w1 [.int .i64 p0, .int .i64 0, .int .i64 p2] 56
  have k0 := HBt.cell (i := 0) (v := .int .i64 p0) rfl
  have k1 := HBt.cell (i := 1) (v := .int .i64 0) rfl
  have k2 := HBt.cell (i := 2) (v := .int .i64 p2) rfl
  clear HBt
  go_wp2_with fail
  obtain ⟨W2, hW2⟩ : ∃ W2, W2 = w1.alloc (.cells #[.int .i64 p0, .int .i64 0, .int .i64 p2] 56) := ⟨_, rfl⟩
  rw [← hW2] at hg2 hs2 k0 k1 k2 ⊢
  clear hW2
  go_quiet (fail)
  go_wp2
  go_ret3
  exact ⟨rfl, drewN_g hg2 _⟩
set_option maxHeartbeats 2000000 in
theorem rest_bad5A (G g c u : Nat) (A : Option Addr) (l : List (Int × Int × Int)) (p0 p1 p2 : Int) (w : World) (hs : PSrc G g A c l w u) (hG : G ≤ g) (hl : l.length ≤ maxLen) (ht : l[u]? = some (p0, p1, p2)) (h0 : 0 ≤ p0) (h : p0 % 16 = p1) (h1 : p1 ≤ 11) (h2 : p1 ≠ 0) (h9 : ¬ (0 ≤ p1 ∧ p1 ≤ 12 ∧ 0 ≤ p2 ∧ p2 < pw p1.toNat)) :
    Calls Try.prog 102 #[srcV g] w fun e w' => e = .returned (.tuple #[.int .i64 0, .int .i64 0, .int .i64 4]) ∧ w.grownBy w' (some g) := by
  have HN := veil (pnext_some G g c u A l _ w hs hG hl ht)
  have hgw := hs.1.lt
  clear hs ht
  unfold tokV at HN
  have HBk := veil (fun W => back_any p1 p2 W)
  rw [eB_bad h9, oB_bad h9] at HBk
  clear h9
  have hn0 : ¬ p0 < 0 := by omega
  have hn1 : ¬ 11 < p1 := by omega
  have h5 : (p1 == 0) = false := by simpa using h2
  go_enter Try.func102, Try.ntmps102
  go_wp2_with fail
  refine HN.out.mono ?_
  rintro e w1 ⟨rfl, hg1, hs1⟩
  obtain ⟨hg2, hs2⟩ := boxed_tok hg1 hs1 hG hgw [.int .i64 p0, .int .i64 p1, .int .i64 p2] 56
  have HBt := Blk.new w1 [.int .i64 p0, .int .i64 p1, .int .i64 p2] 56
  have k0 := HBt.cell (i := 0) (v := .int .i64 p0) rfl
  have k1 := HBt.cell (i := 1) (v := .int .i64 p1) rfl
  have k2 := HBt.cell (i := 2) (v := .int .i64 p2) rfl
  clear HBt
  go_wp2_with fail
  obtain ⟨W2, hW2⟩ : ∃ W2, W2 = w1.alloc (.cells #[.int .i64 p0, .int .i64 p1, .int .i64 p2] 56) := ⟨_, rfl⟩
  rw [← hW2] at hg2 hs2 k0 k1 k2 ⊢
  clear hW2
  go_quiet (fail)
  go_wp2_with fail
  refine (HBk.out _).mono ?_
  rintro e w3 ⟨rfl, rfl⟩
  go_wp2
  go_ret3
  exact ⟨rfl, drewN_g hg2 _⟩
set_option maxHeartbeats 2000000 in
theorem rest_okA (G g c u : Nat) (A : Option Addr) (l : List (Int × Int × Int)) (p0 p1 p2 : Int) (w : World) (hs : PSrc G g A c l w u) (hG : G ≤ g) (hl : l.length ≤ maxLen) (ht : l[u]? = some (p0, p1, p2)) (h0 : 0 ≤ p0) (h : p0 % 16 = p1) (h1 : p1 ≤ 11) (h2 : p1 ≠ 0) (hp : p0 ≤ 9223372036854775807) (h9 : 0 ≤ p1 ∧ p1 ≤ 12 ∧ 0 ≤ p2 ∧ p2 < pw p1.toNat) :
    Calls Try.prog 102 #[srcV g] w fun e w' => e = .returned (.tuple #[.int .i64 (p0 / 16), .int .i64 (numT (p0, p1, p2)), .int .i64 0]) ∧ w.grownBy w' (some g) ∧ PSrc G g A c l w' (u + 1) := by
  have HN := veil (pnext_some G g c u A l _ w hs hG hl ht)
  have hgw := hs.1.lt
  clear hs ht
  unfold tokV at HN
  have HBk := veil (fun W => back_any p1 p2 W)
  rw [show eB p1 p2 = 0 from if_pos h9, show oB p1 p2 = numT (p0, p1, p2) from if_pos h9] at HBk
  clear h9
  generalize numT (p0, p1, p2) = n at *
  have hn0 : ¬ p0 < 0 := by omega
  have hn1 : ¬ 11 < p1 := by omega
  have h5 : (p1 == 0) = false := by simpa using h2
  go_enter Try.func102, Try.ntmps102
  go_wp2_with fail
  refine HN.out.mono ?_
  rintro e w1 ⟨rfl, hg1, hs1⟩
  obtain ⟨hg2, hs2⟩ := boxed_tok hg1 hs1 hG hgw [.int .i64 p0, .int .i64 p1, .int .i64 p2] 56
  have HBt := Blk.new w1 [.int .i64 p0, .int .i64 p1, .int .i64 p2] 56
  have k0 := HBt.cell (i := 0) (v := .int .i64 p0) rfl
  have k1 := HBt.cell (i := 1) (v := .int .i64 p1) rfl
  have k2 := HBt.cell (i := 2) (v := .int .i64 p2) rfl
  clear HBt
  go_wp2_with fail
  obtain ⟨W2, hW2⟩ : ∃ W2, W2 = w1.alloc (.cells #[.int .i64 p0, .int .i64 p1, .int .i64 p2] 56) := ⟨_, rfl⟩
  rw [← hW2] at hg2 hs2 k0 k1 k2 ⊢
  clear hW2
  go_quiet (fail)
  go_wp2_with fail
  refine (HBk.out _).mono ?_
  rintro e w3 ⟨rfl, rfl⟩
  go_wp2
  go_ret3
  exact ⟨rfl, drewN_g hg2 _, hs2⟩
set_option maxHeartbeats 2000000 in
theorem rest_bad5B (G g c u : Nat) (A : Option Addr) (l : List (Int × Int × Int)) (p0 p1 p2 : Int) (w : World) (hs : PSrc G g A c l w u) (hG : G ≤ g) (hl : l.length ≤ maxLen) (ht : l[u]? = some (p0, p1, p2)) (h0 : 0 ≤ p0) (h : p0 % 16 = p1) (h1 : p1 ≤ 11) (h2 : p1 = 0) (h3 : p0 = 0) (h9 : ¬ (0 ≤ p1 ∧ p1 ≤ 12 ∧ 0 ≤ p2 ∧ p2 < pw p1.toNat)) :
    Calls Try.prog 102 #[srcV g] w fun e w' => e = .returned (.tuple #[.int .i64 0, .int .i64 0, .int .i64 4]) ∧ w.grownBy w' (some g) := by
  have HN := veil (pnext_some G g c u A l _ w hs hG hl ht)
  have hgw := hs.1.lt
  clear hs ht
  unfold tokV at HN
  have HBk := veil (fun W => back_any p1 p2 W)
  rw [eB_bad h9, oB_bad h9] at HBk
  clear h9
  have hn0 : ¬ p0 < 0 := by omega
  have hn1 : ¬ 11 < p1 := by omega
  subst h2 h3
  go_enter Try.func102, Try.ntmps102
  go_wp2_with fail
  refine HN.out.mono ?_
  rintro e w1 ⟨rfl, hg1, hs1⟩
  obtain ⟨hg2, hs2⟩ := boxed_tok hg1 hs1 hG hgw [.int .i64 0, .int .i64 0, .int .i64 p2] 56
  have HBt := Blk.new w1 [.int .i64 0, .int .i64 0, .int .i64 p2] 56
  have k0 := HBt.cell (i := 0) (v := .int .i64 0) rfl
  have k1 := HBt.cell (i := 1) (v := .int .i64 0) rfl
  have k2 := HBt.cell (i := 2) (v := .int .i64 p2) rfl
  clear HBt
  go_wp2_with fail
  obtain ⟨W2, hW2⟩ : ∃ W2, W2 = w1.alloc (.cells #[.int .i64 0, .int .i64 0, .int .i64 p2] 56) := ⟨_, rfl⟩
  rw [← hW2] at hg2 hs2 k0 k1 k2 ⊢
  clear hW2
  go_quiet (fail)
  go_wp2_with fail
  refine (HBk.out _).mono ?_
  rintro e w3 ⟨rfl, rfl⟩
  go_wp2
  go_ret3
  exact ⟨rfl, drewN_g hg2 _⟩
set_option maxHeartbeats 2000000 in
theorem rest_okB (G g c u : Nat) (A : Option Addr) (l : List (Int × Int × Int)) (p0 p1 p2 : Int) (w : World) (hs : PSrc G g A c l w u) (hG : G ≤ g) (hl : l.length ≤ maxLen) (ht : l[u]? = some (p0, p1, p2)) (h0 : 0 ≤ p0) (h : p0 % 16 = p1) (h1 : p1 ≤ 11) (h2 : p1 = 0) (h3 : p0 = 0) (h9 : 0 ≤ p1 ∧ p1 ≤ 12 ∧ 0 ≤ p2 ∧ p2 < pw p1.toNat) :
    Calls Try.prog 102 #[srcV g] w fun e w' => e = .returned (.tuple #[.int .i64 (p0 / 16), .int .i64 (numT (p0, p1, p2)), .int .i64 0]) ∧ w.grownBy w' (some g) ∧ PSrc G g A c l w' (u + 1) := by
  have HN := veil (pnext_some G g c u A l _ w hs hG hl ht)
  have hgw := hs.1.lt
  clear hs ht
  unfold tokV at HN
  have HBk := veil (fun W => back_any p1 p2 W)
  rw [show eB p1 p2 = 0 from if_pos h9, show oB p1 p2 = numT (p0, p1, p2) from if_pos h9] at HBk
  clear h9
  generalize numT (p0, p1, p2) = n at *
  have hn0 : ¬ p0 < 0 := by omega
  have hn1 : ¬ 11 < p1 := by omega
  subst h2 h3
  go_enter Try.func102, Try.ntmps102
  go_wp2_with fail
  refine HN.out.mono ?_
  rintro e w1 ⟨rfl, hg1, hs1⟩
  obtain ⟨hg2, hs2⟩ := boxed_tok hg1 hs1 hG hgw [.int .i64 0, .int .i64 0, .int .i64 p2] 56
  have HBt := Blk.new w1 [.int .i64 0, .int .i64 0, .int .i64 p2] 56
  have k0 := HBt.cell (i := 0) (v := .int .i64 0) rfl
  have k1 := HBt.cell (i := 1) (v := .int .i64 0) rfl
  have k2 := HBt.cell (i := 2) (v := .int .i64 p2) rfl
  clear HBt
  go_wp2_with fail
  obtain ⟨W2, hW2⟩ : ∃ W2, W2 = w1.alloc (.cells #[.int .i64 0, .int .i64 0, .int .i64 p2] 56) := ⟨_, rfl⟩
  rw [← hW2] at hg2 hs2 k0 k1 k2 ⊢
  clear hW2
  go_quiet (fail)
  go_wp2_with fail
  refine (HBk.out _).mono ?_
  rintro e w3 ⟨rfl, rfl⟩
  go_wp2
  go_ret3
  exact ⟨rfl, drewN_g hg2 _, hs2⟩
set_option maxHeartbeats 2000000 in
theorem rest_bad5C (G g c u : Nat) (A : Option Addr) (l : List (Int × Int × Int)) (p0 p1 p2 : Int) (w : World) (hs : PSrc G g A c l w u) (hG : G ≤ g) (hl : l.length ≤ maxLen) (ht : l[u]? = some (p0, p1, p2)) (h0 : 0 ≤ p0) (h : p0 % 16 = p1) (h1 : p1 ≤ 11) (h2 : p1 = 0) (h3 : p0 = 240) (h9 : ¬ (0 ≤ p1 ∧ p1 ≤ 12 ∧ 0 ≤ p2 ∧ p2 < pw p1.toNat)) :
    Calls Try.prog 102 #[srcV g] w fun e w' => e = .returned (.tuple #[.int .i64 0, .int .i64 0, .int .i64 4]) ∧ w.grownBy w' (some g) := by
  have HN := veil (pnext_some G g c u A l _ w hs hG hl ht)
  have hgw := hs.1.lt
  clear hs ht
  unfold tokV at HN
  have HBk := veil (fun W => back_any p1 p2 W)
  rw [eB_bad h9, oB_bad h9] at HBk
  clear h9
  have hn0 : ¬ p0 < 0 := by omega
  have hn1 : ¬ 11 < p1 := by omega
  subst h2 h3
  go_enter Try.func102, Try.ntmps102
  go_wp2_with fail
  refine HN.out.mono ?_
  rintro e w1 ⟨rfl, hg1, hs1⟩
  obtain ⟨hg2, hs2⟩ := boxed_tok hg1 hs1 hG hgw [.int .i64 240, .int .i64 0, .int .i64 p2] 56
  have HBt := Blk.new w1 [.int .i64 240, .int .i64 0, .int .i64 p2] 56
  have k0 := HBt.cell (i := 0) (v := .int .i64 240) rfl
  have k1 := HBt.cell (i := 1) (v := .int .i64 0) rfl
  have k2 := HBt.cell (i := 2) (v := .int .i64 p2) rfl
  clear HBt
  go_wp2_with fail
  obtain ⟨W2, hW2⟩ : ∃ W2, W2 = w1.alloc (.cells #[.int .i64 240, .int .i64 0, .int .i64 p2] 56) := ⟨_, rfl⟩
  rw [← hW2] at hg2 hs2 k0 k1 k2 ⊢
  clear hW2
  go_quiet (fail)
  go_wp2_with fail
  refine (HBk.out _).mono ?_
  rintro e w3 ⟨rfl, rfl⟩
  go_wp2
  go_ret3
  exact ⟨rfl, drewN_g hg2 _⟩
set_option maxHeartbeats 2000000 in
theorem rest_okC (G g c u : Nat) (A : Option Addr) (l : List (Int × Int × Int)) (p0 p1 p2 : Int) (w : World) (hs : PSrc G g A c l w u) (hG : G ≤ g) (hl : l.length ≤ maxLen) (ht : l[u]? = some (p0, p1, p2)) (h0 : 0 ≤ p0) (h : p0 % 16 = p1) (h1 : p1 ≤ 11) (h2 : p1 = 0) (h3 : p0 = 240) (h9 : 0 ≤ p1 ∧ p1 ≤ 12 ∧ 0 ≤ p2 ∧ p2 < pw p1.toNat) :
    Calls Try.prog 102 #[srcV g] w fun e w' => e = .returned (.tuple #[.int .i64 (p0 / 16), .int .i64 (numT (p0, p1, p2)), .int .i64 0]) ∧ w.grownBy w' (some g) ∧ PSrc G g A c l w' (u + 1) := by
  have HN := veil (pnext_some G g c u A l _ w hs hG hl ht)
  have hgw := hs.1.lt
  clear hs ht
  unfold tokV at HN
  have HBk := veil (fun W => back_any p1 p2 W)
  rw [show eB p1 p2 = 0 from if_pos h9, show oB p1 p2 = numT (p0, p1, p2) from if_pos h9] at HBk
  clear h9
  generalize numT (p0, p1, p2) = n at *
  have hn0 : ¬ p0 < 0 := by omega
  have hn1 : ¬ 11 < p1 := by omega
  subst h2 h3
  go_enter Try.func102, Try.ntmps102
  go_wp2_with fail
  refine HN.out.mono ?_
  rintro e w1 ⟨rfl, hg1, hs1⟩
  obtain ⟨hg2, hs2⟩ := boxed_tok hg1 hs1 hG hgw [.int .i64 240, .int .i64 0, .int .i64 p2] 56
  have HBt := Blk.new w1 [.int .i64 240, .int .i64 0, .int .i64 p2] 56
  have k0 := HBt.cell (i := 0) (v := .int .i64 240) rfl
  have k1 := HBt.cell (i := 1) (v := .int .i64 0) rfl
  have k2 := HBt.cell (i := 2) (v := .int .i64 p2) rfl
  clear HBt
  go_wp2_with fail
  obtain ⟨W2, hW2⟩ : ∃ W2, W2 = w1.alloc (.cells #[.int .i64 240, .int .i64 0, .int .i64 p2] 56) := ⟨_, rfl⟩
  rw [← hW2] at hg2 hs2 k0 k1 k2 ⊢
  clear hW2
  go_quiet (fail)
  go_wp2_with fail
  refine (HBk.out _).mono ?_
  rintro e w3 ⟨rfl, rfl⟩
  go_wp2
  go_ret3
  exact ⟨rfl, drewN_g hg2 _, hs2⟩
theorem rest_bad (G g c u : Nat) (A : Option Addr) (l : List (Int × Int × Int)) (t : Int × Int × Int) (w : World) (hs : PSrc G g A c l w u) (hG : G ≤ g) (hl : l.length ≤ maxLen) (ht : l[u]? = some t) (h : okQ t = false) :
    Calls Try.prog 102 #[srcV g] w fun e w' => e = .returned (.tuple #[.int .i64 0, .int .i64 0, .int .i64 4]) ∧ w.grownBy w' (some g) := by
  obtain ⟨p0, p1, p2⟩ := t
  have hn : ¬ ((0 ≤ p1 ∧ p1 ≤ 12 ∧ 0 ≤ p2 ∧ p2 < pw p1.toNat) ∧ 0 ≤ p0 ∧ p0 % 16 = p1 ∧ p1 ≤ 11 ∧ (p1 = 0 → p0 = 0 ∨ p0 = 240)) := fun q => by
    have : okQ (p0, p1, p2) = true := by
      unfold okQ fitT
      rw [Bool.and_eq_true]
      exact ⟨decide_eq_true q.1, decide_eq_true q.2⟩
    rw [this] at h; cases h
  by_cases h0 : 0 ≤ p0
  · by_cases h1 : p0 % 16 = p1
    · by_cases h2 : 11 < p1
      · exact rest_bad3 G g c u A l p0 p1 p2 w hs hG hl ht h0 h1 h2
      · by_cases h3 : p1 = 0
        · by_cases h4 : p0 = 0
          · exact rest_bad5B G g c u A l p0 p1 p2 w hs hG hl ht h0 h1 (by omega) h3 h4 (fun q => hn ⟨q, h0, h1, by omega, fun _ => .inl h4⟩)
          · by_cases h5 : p0 = 240
            · exact rest_bad5C G g c u A l p0 p1 p2 w hs hG hl ht h0 h1 (by omega) h3 h5 (fun q => hn ⟨q, h0, h1, by omega, fun _ => .inr h5⟩)
            · exact rest_bad4 G g c u A l p0 p1 p2 w hs hG hl ht h0 h1 h3 h4 h5
        · exact rest_bad5A G g c u A l p0 p1 p2 w hs hG hl ht h0 h1 (by omega) h3 (fun q => hn ⟨q, h0, h1, by omega, fun e => absurd e h3⟩)
    · exact rest_bad2 G g c u A l p0 p1 p2 w hs hG hl ht h0 (fun e => h1 e.symm)
  · exact rest_bad1 G g c u A l p0 p1 p2 w hs hG hl ht (by omega)
theorem rest_ok (G g c u : Nat) (A : Option Addr) (l : List (Int × Int × Int)) (t : Int × Int × Int) (w : World) (hs : PSrc G g A c l w u) (hG : G ≤ g) (hl : l.length ≤ maxLen) (ht : l[u]? = some t) (hp : t.1 ≤ 9223372036854775807) (h : okQ t = true) :
    Calls Try.prog 102 #[srcV g] w fun e w' => e = .returned (.tuple #[.int .i64 (t.1 / 16), .int .i64 (numT t), .int .i64 0]) ∧ w.grownBy w' (some g) ∧ PSrc G g A c l w' (u + 1) := by
  obtain ⟨p0, p1, p2⟩ := t
  obtain ⟨h9, h0, h1, h2, h3⟩ := okQ_fit h
  simp only [] at h9 h0 h1 h2 h3 hp
  by_cases h4 : p1 = 0
  · rcases h3 h4 with h5 | h5
    · exact rest_okB G g c u A l p0 p1 p2 w hs hG hl ht h0 h1 h2 h4 h5 h9
    · exact rest_okC G g c u A l p0 p1 p2 w hs hG hl ht h0 h1 h2 h4 h5 h9
  · exact rest_okA G g c u A l p0 p1 p2 w hs hG hl ht h0 h1 h2 h4 hp h9
end Go.Proofs.Ytbboakdfnjjddaa

/- run.read over a list of tokens: its contract. -/
namespace Go.Proofs.Ytbboakdfnjjddaa
open Go.RowKit
set_option linter.unusedVariables false
set_option linter.unusedSimpArgs false
set_option maxRecDepth 100000

/-- A block's numbers out of tokens, whether they are its tokens or not. -/
def decF (b : Int) (l : List (Int × Int × Int)) : Int × List Int × Nat :=
  match l with
  | [] => (3, [], 0)
  | t :: l => if firstT b t then joinQ [b + numT t] 1 (decQ 63 l) else (4, [], 0)
def outP (D : Int × List Int × Nat) : List Int := if D.1 = 0 then fromL D.2.1 else zero64
theorem outP_length (D : Int × List Int × Nat) : (outP D).length = 64 := by
  unfold outP; split
  · exact fromL_length _
  · exact zero64_length
/-- What the loop keeps. -/
structure RLoop (G g : Nat) (A : Option Addr) (c : Nat) (l : List (Int × Int × Int)) (w : World) (D : Int × List Int × Nat) (k n : Nat) (pre : List Int) (wr : World) : Prop where
  pos : 1 ≤ k
  le : k ≤ 64
  len : pre.length = k
  size : w.heap.size + 2 ≤ wr.heap.size
  res : Blk wr w.heap.size zeroB 47
  num : Blk wr (w.heap.size + 1) (ints .i64 (pre ++ List.replicate (64 - k) 0)) 47
  src : PSrc G g A c l wr n
  kept : w.grownBy wr (some g)
  told : D = joinQ pre n (decQ (64 - k) (l.drop n))
theorem pbox2_is (w : World) : Below w.heap.size w ((w.alloc (.cells zeroB.toArray 47)).alloc (.cells zeroB.toArray 47)) ∧ Blk ((w.alloc (.cells zeroB.toArray 47)).alloc (.cells zeroB.toArray 47)) w.heap.size zeroB 47 ∧ Blk ((w.alloc (.cells zeroB.toArray 47)).alloc (.cells zeroB.toArray 47)) (w.heap.size + 1) zeroB 47 ∧ ((w.alloc (.cells zeroB.toArray 47)).alloc (.cells zeroB.toArray 47)).heap.size = w.heap.size + 2 := by
  have h2 := Blk.new (w.alloc (.cells zeroB.toArray 47)) zeroB 47
  rw [World.size_alloc] at h2
  exact ⟨below2 _ _ _, (Blk.new w zeroB 47).below (below1 _ _) (by simp), h2, by simp⟩
/-- The way out. -/
theorem read_out {G g c : Nat} {A : Option Addr} {l : List (Int × Int × Int)} {w w5 : World} {D : Int × List Int × Nat} {er : Int} {os : List Int} {a : Act} (he : D.1 = er) (ho : outP D = os)
    (h4 : a.tmps.getD 4 undef = .pointer (some ⟨w.heap.size, 0, none⟩)) (h5 : a.tmps.getD 5 undef = .int .i64 er) (hdf : a.defers = [])
    (HB : Blk w5 w.heap.size (ints .i64 os) 47) (hk : w.grownBy w5 (some g)) (hs : D.1 = 0 → PSrc G g A c l w5 D.2.2) :
    bodyPost Try.prog Try.f87 (fun e w' => e = .returned (.tuple #[blkV (outP D), .int .i64 D.1]) ∧ w.grownBy w' (some g) ∧ (D.1 = 0 → PSrc G g A c l w' D.2.2)) .ret a w5 := by
  have hl : (ints .i64 os).length = 64 := by rw [ints_length, ← ho]; exact outP_length _
  rw [ho]
  rw [he] at hs ⊢
  exact bodyPost_ret (results_row_tmp rfl _ _ w.heap.size 47 (ints .i64 os).toArray (0, 0) _ (.int .i64 er) h4 h5 HB Try.underlying47 rfl (by simp only [List.size_toArray]; exact info_blkn hl)) hdf ⟨rfl, hk, fun h => hs h⟩
theorem read_err {G g c : Nat} {A : Option Addr} {l : List (Int × Int × Int)} {w w5 : World} {D : Int × List Int × Nat} {er : Int} {a : Act} (hd : D = (er, [], 0)) (hne : er ≠ 0)
    (h4 : a.tmps.getD 4 undef = .pointer (some ⟨w.heap.size, 0, none⟩)) (h5 : a.tmps.getD 5 undef = .int .i64 er) (hdf : a.defers = [])
    (HB : Blk w5 w.heap.size zeroB 47) (hk : w.grownBy w5 (some g)) :
    bodyPost Try.prog Try.f87 (fun e w' => e = .returned (.tuple #[blkV (outP D), .int .i64 D.1]) ∧ w.grownBy w' (some g) ∧ (D.1 = 0 → PSrc G g A c l w' D.2.2)) .ret a w5 :=
  read_out (er := er) (os := zero64) (by rw [hd]) (by rw [hd]; exact if_neg hne) h4 h5 hdf HB hk (by rw [hd]; exact fun h => absurd h hne)
theorem set_pre {k q : Nat} {pre : List Int} {N : Int} (hlen : pre.length = k) (hk : k + q < 64) : (ints .i64 (pre ++ List.replicate (64 - k) 0)).set (k + q) (.int .i64 N) = ints .i64 ((pre ++ (List.replicate q 0 ++ [N])) ++ List.replicate (64 - (k + q + 1)) 0) := by
  rw [show (ints .i64 (pre ++ List.replicate (64 - k) 0)).set (k + q) (.int .i64 N) = ints .i64 ((pre ++ List.replicate (64 - k) 0).set (k + q) N) by simp [ints, List.map_set]]
  congr 1
  rw [← hlen] at hk ⊢
  rw [List.set_append_right _ _ (by omega), Nat.add_sub_cancel_left, List.append_assoc]
  congr 1
  rw [show 64 - pre.length = q + (1 + (64 - (pre.length + q + 1))) by omega, ← List.replicate_append_replicate, List.set_append_right _ _ (by simp), List.length_replicate, Nat.sub_self, Nat.add_comm 1, List.replicate_succ, List.set_cons_zero, List.append_assoc]
  rfl
/-- One more token. -/
theorem drop_of {l : List (Int × Int × Int)} {n : Nat} {x : Int × Int × Int} (h : l[n]? = some x) : l.drop n = x :: l.drop (n + 1) := by
  obtain ⟨hi, e⟩ := List.getElem?_eq_some_iff.1 h
  rw [List.drop_eq_getElem_cons hi, e]
theorem numT_end {t : Int × Int × Int} (hok : okQ t = true) (h0 : t.1 = 0) : numT t = 0 := by
  obtain ⟨h1, h2, h3, h4, h5⟩ := okQ_fit hok
  obtain ⟨p0, p1, p2⟩ := t
  simp only [] at h0 h1 h2 h3 h4 h5
  subst h0
  have e1 : p1 = 0 := by omega
  subst e1
  have : p2 < 1 := h1.2.2.2
  have e2 : p2 = 0 := by omega
  subst e2
  decide
theorem numT_not {t : Int × Int × Int} (hok : okQ t = true) (h0 : t.1 ≠ 0) (hq : t.1 / 16 = 0) : numT t ≠ 0 := by
  obtain ⟨h1, h2, h3, h4, h5⟩ := okQ_fit hok
  obtain ⟨p0, p1, p2⟩ := t
  simp only [] at h0 h1 h2 h3 h4 h5 hq
  intro e
  have h6 := sz_bk (w := p1.toNat) h1.2.2.1 h1.2.2.2
  unfold numT at e
  simp only [] at e
  rw [e] at h6
  have h7 : szZ 0 = 0 := by decide
  omega
set_option maxHeartbeats 8000000 in
set_option maxRecDepth 100000 in
theorem read_go (b : Int) (G g c : Nat) (A : Option Addr) (L : List (Int × Int × Int)) (t : Int × Int × Int) (D : Int × List Int × Nat) (w : World) (hb : -2047 ≤ b ∧ b ≤ 2047) (hs : PSrc G g A c L w 0) (hG : G ≤ g) (hl : L.length ≤ maxLen) (hbd : ∀ t ∈ L, t.1 ≤ 9223372036854775807)
    (ht0 : L[0]? = some t) (hf : firstT b t) (hD : D = joinQ [b + numT t] 1 (decQ 63 (L.drop 1))) :
    Calls Try.prog 87 #[.int .i64 b, srcV g] w fun e w' => e = .returned (.tuple #[blkV (outP D), .int .i64 D.1]) ∧ w.grownBy w' (some g) ∧ (D.1 = 0 → PSrc G g A c L w' D.2.2) := by
  have hgw := hs.1.lt
  obtain ⟨hb0, HB0, HB1, hz0⟩ := pbox2_is w
  have hs0 := hs.below hb0 hgw (by omega)
  have hk0 : w.grownBy ((w.alloc (.cells zeroB.toArray 47)).alloc (.cells zeroB.toArray 47)) (some g) := grown_below (World.grownBy.refl _ _) hb0 (Nat.le_refl _)
  have hzl := veil zeroB_length
  have hzone := ints_one (k := .i64) (l := List.replicate 64 0)
  have HF := veil (first_ok b G g c 0 A L t ((w.alloc (.cells zeroB.toArray 47)).alloc (.cells zeroB.toArray 47)) hb hs0 hG hl ht0 hf)
  have HD0 := veil hD
  have Hbd := veil hbd
  have Hlm := veil hl
  clear hs hb0 hf hs0 hD ht0 hbd hl
  generalize b + numT t = N0 at *
  clear t
  go_enter Try.func87, Try.ntmps87
  go_wp2_with fail
  refine HF.out.mono ?_
  rintro e w0 ⟨rfl, hg0, hs0⟩
  have hzz := hg0.size
  rw [hz0] at hzz
  have HB0a := HB0.kept hg0 (by simp; omega)
  have HB1a := HB1.kept hg0 (by simp; omega)
  have hkwa := hk0.trans hg0
  have hcz := HB1a.cell (i := 0) (v := .int .i64 0) rfl
  have hfz := HB1a.frozen 0
  have HB1n : Blk (w0.setCell ⟨w.heap.size + 1, 0, none⟩ (.int .i64 N0)) (w.heap.size + 1) (ints .i64 ([N0] ++ List.replicate (64 - 1) 0)) 47 := HB1a.set 0 (.int .i64 N0)
  have hgs := grown_setCell w0 (w.heap.size + 1) 0 (.int .i64 N0)
  have HL0 : Hid (RLoop G g A c L w D 1 1 [N0] (w0.setCell ⟨w.heap.size + 1, 0, none⟩ (.int .i64 N0))) :=
    ⟨by omega, by omega, rfl, by have := hgs.size; omega, HB0a.kept hgs (by simp), HB1n, hs0.kept hgs (by omega) (by omega) (by omega), grown_grown hkwa hgs (by omega), HD0.out⟩
  clear HF HB0 HB1 hz0 hk0 hg0 hs0 HB0a HB1a hkwa HB1n hgs HD0 hzz
  go_wp2_with fail
  go_loopg [9] 63 (fun gk iv wr => ∃ (k n : Nat) (pre : List Int), gk = 64 - k ∧ iv = .int .i64 (k : Int) ∧ Hid (RLoop G g A c L w D k n pre wr))
  case atStart => exact ⟨1, 1, [N0], rfl, rfl, HL0⟩
  case round =>
    clear HL0 hcz hfz
    obtain ⟨k, n, pre, rfl, rfl, HL⟩ := hrel
    have hsz : w.heap.size + 2 ≤ wr.heap.size := HL.out.size
    have hk64 := HL.out.le
    have hk1 := HL.out.pos
    by_cases hlt : k < 64
    · have hltz : (k : Int) ≤ 63 := by omega
      have hsrc := HL.out.src
      by_cases hn : n < L.length
      · obtain ⟨t1, ht1⟩ := some_at (xs := L) (j := n) hn
        have HDt : Hid (D = joinQ pre n (decQ (64 - k) (t1 :: L.drop (n + 1)))) := by show _ = _; rw [HL.out.told, drop_of ht1]
        cases hok : okQ t1 with
        | false =>
          have HR := veil (rest_bad G g c n A L t1 wr hsrc hG Hlm.out ht1 hok)
          have HDe : Hid (D = (4, [], 0)) := by show _ = _; rw [HDt.out, joinQ_bad _ _ (by omega) hok]
          clear HDt hok ht1 hsrc
          go_wp2_with fail
          refine HR.out.mono ?_
          rintro e w1 ⟨rfl, hg1⟩
          have HB6 := veil (HL.out.res.kept hg1 (by simp; omega))
          have HK6 := veil (HL.out.kept.trans hg1)
          clear HL hg1
          go_wp2_with (first
            | (refine wpList_store_blk w1 rfl 47 (.tmp 4) (.tmp 37) rfl w.heap.size zeroB zeroB 47 HB6.out rfl rfl (info_blkn hzl.out) rfl hzone ?_; intro w5 HB7 hg7)
            | fail)
          exact read_err HDe.out (by decide) rfl rfl rfl HB7 (grown_grown HK6.out hg7 (Nat.le_refl _))
        | true =>
          have HR := veil (rest_ok G g c n A L t1 wr hsrc hG Hlm.out ht1 (Hbd.out _ (List.mem_of_getElem? ht1)) hok)
          have hbt := Hbd.out _ (List.mem_of_getElem? ht1)
          clear ht1 hsrc
          by_cases h0 : t1.1 = 0
          · have hN0 := numT_end hok h0
            rw [h0, hN0] at HR
            have HD : Hid (D = (0, pre ++ List.replicate (64 - k) 0, n + 1)) := by show _ = _; rw [HDt.out, joinQ_end _ _ (by omega) hok h0]
            have HZl : Hid ((pre ++ List.replicate (64 - k) 0).length = 64) := by show _ = _; rw [List.length_append, List.length_replicate, HL.out.len]; omega
            clear hok h0 hN0 HDt
            go_wp2_with fail
            refine HR.out.mono ?_
            rintro e w1 ⟨rfl, hg1, hs1⟩
            have hz1 := hg1.size
            have HBr := HL.out.res.kept hg1 (by simp; omega)
            have HBn := HL.out.num.kept hg1 (by simp; omega)
            have hkw := HL.out.kept.trans hg1
            have hsr := hs1
            have hlen := HL.out.len
            have hszz := HL.out.size
            clear HL hg1 hlen hs1
            generalize pre ++ List.replicate (64 - k) 0 = ZS at *
            generalize n + 1 = n1 at *
            have HFr := veil (fun W' => from_any ZS W' HZl.out)
            have HlY : Hid ((ints .i64 (fromL ZS)).length = 64) := by show _ = _; rw [ints_length, fromL_length]
            have HlX : Hid ((ints .i64 ZS).length = 64) := by show _ = _; rw [ints_length, HZl.out]
            have honeY := ints_one (k := .i64) (l := fromL ZS)
            have hrZ := HBn.range
            have HDo : Hid (outP D = fromL ZS) := by show _ = _; rw [HD.out]; exact if_pos rfl
            unfold blkV at HFr
            obtain ⟨xs, hxs⟩ : ∃ xs, xs = ints .i64 ZS := ⟨_, rfl⟩
            rw [← hxs] at HFr HlX hrZ
            obtain ⟨ys, hys⟩ : ∃ ys, ys = ints .i64 (fromL ZS) := ⟨_, rfl⟩
            rw [← hys] at HFr HlY honeY
            have HYe := veil hys
            clear hxs hys HBn
            go_wp2_with (first
              | (refine wpList_load_mid rfl 47 (.tmp 6) rfl (w.heap.size + 1) 0 rfl xs _ hrZ Try.underlying47 rfl (info_blkn HlX.out) ?_)
              | fail)
            refine (HFr.out _).mono ?_
            rintro e w5 ⟨rfl, hb5⟩
            have hz5 := hb5.size
            have HB5 := veil (HBr.below hb5 (by omega))
            have hkw5 := veil (grown_below hkw hb5 (by have := hkw.size; omega))
            have hs5 := veil (hsr.below hb5 (by omega) (by omega))
            clear hrZ HBr hkw hsr hb5
            go_wp2_with (first
              | (refine wpList_store_blk w5 rfl 47 (.tmp 4) (.tmp 55) rfl w.heap.size zeroB ys 47 HB5.out rfl rfl (info_blkn HlY.out) (by rw [HlY.out, hzl.out]) honeY ?_; intro w9 HB9 hg9)
              | fail)
            exact read_out (er := 0) (os := fromL ZS) (by rw [HD.out]) HDo.out rfl rfl rfl (by rw [← HYe.out]; exact HB9) (grown_grown hkw5.out hg9 (Nat.le_refl _)) (fun _ => by rw [HD.out]; exact hs5.out.kept hg9 (by omega) (by omega) (by omega))
          · obtain ⟨q, hq⟩ : ∃ q : Nat, t1.1 / 16 = (q : Int) := ⟨(t1.1 / 16).toNat, by have := (okQ_fit hok).2.1; omega⟩
            have hfar : farT t1 = q + 1 := by unfold farT; rw [hq]; rfl
            have hqb : (q : Int) ≤ 576460752303423487 := by omega
            by_cases hq0 : q = 0
            · have hNn := numT_not hok h0 (by rw [hq, hq0]; rfl)
              have hqn : ((q : Int) == 0) = true := by rw [hq0]; rfl
              have hNb : (numT t1 == 0) = false := by simpa using hNn
              rw [hq] at HR
              obtain ⟨N, hN⟩ : ∃ N, N = numT t1 := ⟨_, rfl⟩
              rw [← hN] at HR hNb
              have HNe : Hid (numT t1 = N) := hN.symm
              clear hN hNn hq hq0 hbt
              by_cases hfar64 : 64 < k + (q + 1)
              · have hgt : (63 : Int) < (k : Int) + (q : Int) := by omega
                have HDe : Hid (D = (4, [], 0)) := by
                  show _ = _
                  rw [HDt.out, joinQ_far _ _ (by omega) hok h0 (by rw [hfar]; omega)]
                clear hok hfar h0 HDt
                go_wp2_with fail
                refine HR.out.mono ?_
                rintro e w1 ⟨rfl, hg1, hs1⟩
                have hz1 := hg1.size
                have HBr := HL.out.res.kept hg1 (by simp; omega)
                have HBn := HL.out.num.kept hg1 (by simp; omega)
                have hkw := HL.out.kept.trans hg1
                have hsr := hs1
                have hlen := HL.out.len
                have hszz := HL.out.size
                have HB6 := veil HBr
                have HK6 := veil hkw
                clear HL HBn hs1 hsr HBr hkw hg1
                go_wp2_with (first
                  | (refine wpList_store_blk w1 rfl 47 (.tmp 4) (.tmp 50) rfl w.heap.size zeroB zeroB 47 HB6.out rfl rfl (info_blkn hzl.out) rfl hzone ?_; intro w5 HB7 hg7)
                  | fail)
                exact read_err HDe.out (by decide) rfl rfl rfl HB7 (grown_grown HK6.out hg7 (Nat.le_refl _))
              · obtain ⟨m, hm⟩ : ∃ m : Nat, m = k + q := ⟨_, rfl⟩
                have hmz : (k : Int) + (q : Int) = (m : Int) := by omega
                have hle : ¬ (63 : Int) < (m : Int) := by omega
                have hml : (m : Int) < 64 := by omega
                have hmn : m ≤ 63 := by omega
                have HD1 : Hid (D = joinQ (pre ++ (List.replicate q 0 ++ [N])) (n + 1) (decQ (64 - (m + 1)) (L.drop (n + 1)))) := by
                  show _ = _
                  rw [HDt.out, joinQ_next _ _ hok h0 (by rw [hfar]; omega), hfar, HNe.out, show 64 - k - (q + 1) = 64 - (m + 1) by omega, Nat.add_sub_cancel]
                clear hok hfar h0 HDt
                go_wp2_with fail
                refine HR.out.mono ?_
                rintro e w1 ⟨rfl, hg1, hs1⟩
                have hz1 := hg1.size
                have HBr := HL.out.res.kept hg1 (by simp; omega)
                have HBn := HL.out.num.kept hg1 (by simp; omega)
                have hkw := HL.out.kept.trans hg1
                have hsr := hs1
                have hlen := HL.out.len
                have hszz := HL.out.size
                obtain ⟨y, hy⟩ := some_at (xs := pre ++ List.replicate (64 - k) 0) (j := m) (by rw [List.length_append, List.length_replicate]; omega)
                have hcz := HBn.cell (ints_at hy)
                have hfz := HBn.frozen m
                have HB1n := HBn.set m (.int .i64 N)
                rw [show (ints .i64 (pre ++ List.replicate (64 - k) 0)).set m (.int .i64 N) = ints .i64 ((pre ++ (List.replicate q 0 ++ [N])) ++ List.replicate (64 - (m + 1)) 0) by rw [hm]; exact set_pre hlen (by omega)] at HB1n
                have hgs := grown_setCell w1 (w.heap.size + 1) m (.int .i64 N)
                have HLn : Hid (RLoop G g A c L w D (m + 1) (n + 1) (pre ++ (List.replicate q 0 ++ [N])) (w1.setCell ⟨w.heap.size + 1, m, none⟩ (.int .i64 N))) :=
                  ⟨by omega, by omega, by simp [hlen]; omega, by have := hgs.size; omega, HBr.kept hgs (by simp), HB1n, hsr.kept hgs (by omega) (by omega) (by omega), grown_grown hkw hgs (by omega), HD1.out⟩
                have hms : 64 - (m + 1) < 64 - k := by omega
                clear HL HBn hs1 hsr HBr hkw hg1 HD1 hlen hy HB1n hgs hm hfar64
                go_wp2_with fail
                go_roundg (64 - (m + 1))
                case rel => exact ⟨m + 1, n + 1, pre ++ (List.replicate q 0 ++ [N]), rfl, by go_num, HLn⟩
                case measure => omega
            · have hqn : ((q : Int) == 0) = false := by simpa using hq0
              rw [hq] at HR
              obtain ⟨N, hN⟩ : ∃ N, N = numT t1 := ⟨_, rfl⟩
              rw [← hN] at HR
              have HNe : Hid (numT t1 = N) := hN.symm
              clear hN hq hbt
              by_cases hfar64 : 64 < k + (q + 1)
              · have hgt : (63 : Int) < (k : Int) + (q : Int) := by omega
                have HDe : Hid (D = (4, [], 0)) := by
                  show _ = _
                  rw [HDt.out, joinQ_far _ _ (by omega) hok h0 (by rw [hfar]; omega)]
                clear hok hfar h0 HDt
                go_wp2_with fail
                refine HR.out.mono ?_
                rintro e w1 ⟨rfl, hg1, hs1⟩
                have hz1 := hg1.size
                have HBr := HL.out.res.kept hg1 (by simp; omega)
                have HBn := HL.out.num.kept hg1 (by simp; omega)
                have hkw := HL.out.kept.trans hg1
                have hsr := hs1
                have hlen := HL.out.len
                have hszz := HL.out.size
                have HB6 := veil HBr
                have HK6 := veil hkw
                clear HL HBn hs1 hsr HBr hkw hg1
                go_wp2_with (first
                  | (refine wpList_store_blk w1 rfl 47 (.tmp 4) (.tmp 50) rfl w.heap.size zeroB zeroB 47 HB6.out rfl rfl (info_blkn hzl.out) rfl hzone ?_; intro w5 HB7 hg7)
                  | fail)
                exact read_err HDe.out (by decide) rfl rfl rfl HB7 (grown_grown HK6.out hg7 (Nat.le_refl _))
              · obtain ⟨m, hm⟩ : ∃ m : Nat, m = k + q := ⟨_, rfl⟩
                have hmz : (k : Int) + (q : Int) = (m : Int) := by omega
                have hle : ¬ (63 : Int) < (m : Int) := by omega
                have hml : (m : Int) < 64 := by omega
                have hmn : m ≤ 63 := by omega
                have HD1 : Hid (D = joinQ (pre ++ (List.replicate q 0 ++ [N])) (n + 1) (decQ (64 - (m + 1)) (L.drop (n + 1)))) := by
                  show _ = _
                  rw [HDt.out, joinQ_next _ _ hok h0 (by rw [hfar]; omega), hfar, HNe.out, show 64 - k - (q + 1) = 64 - (m + 1) by omega, Nat.add_sub_cancel]
                clear hok hfar h0 HDt
                go_wp2_with fail
                refine HR.out.mono ?_
                rintro e w1 ⟨rfl, hg1, hs1⟩
                have hz1 := hg1.size
                have HBr := HL.out.res.kept hg1 (by simp; omega)
                have HBn := HL.out.num.kept hg1 (by simp; omega)
                have hkw := HL.out.kept.trans hg1
                have hsr := hs1
                have hlen := HL.out.len
                have hszz := HL.out.size
                obtain ⟨y, hy⟩ := some_at (xs := pre ++ List.replicate (64 - k) 0) (j := m) (by rw [List.length_append, List.length_replicate]; omega)
                have hcz := HBn.cell (ints_at hy)
                have hfz := HBn.frozen m
                have HB1n := HBn.set m (.int .i64 N)
                rw [show (ints .i64 (pre ++ List.replicate (64 - k) 0)).set m (.int .i64 N) = ints .i64 ((pre ++ (List.replicate q 0 ++ [N])) ++ List.replicate (64 - (m + 1)) 0) by rw [hm]; exact set_pre hlen (by omega)] at HB1n
                have hgs := grown_setCell w1 (w.heap.size + 1) m (.int .i64 N)
                have HLn : Hid (RLoop G g A c L w D (m + 1) (n + 1) (pre ++ (List.replicate q 0 ++ [N])) (w1.setCell ⟨w.heap.size + 1, m, none⟩ (.int .i64 N))) :=
                  ⟨by omega, by omega, by simp [hlen]; omega, by have := hgs.size; omega, HBr.kept hgs (by simp), HB1n, hsr.kept hgs (by omega) (by omega) (by omega), grown_grown hkw hgs (by omega), HD1.out⟩
                have hms : 64 - (m + 1) < 64 - k := by omega
                clear HL HBn hs1 hsr HBr hkw hg1 HD1 hlen hy HB1n hgs hm hfar64
                go_wp2_with fail
                go_roundg (64 - (m + 1))
                case rel => exact ⟨m + 1, n + 1, pre ++ (List.replicate q 0 ++ [N]), rfl, by go_num, HLn⟩
                case measure => omega
      · have hnL : n = L.length := by have := hsrc.2.2; omega
        subst hnL
        have HR := veil (rest_none G g c A L wr hsrc Hlm.out)
        have HDe : Hid (D = (3, [], 0)) := by show _ = _; rw [HL.out.told, List.drop_length, joinQ_none _ _ (by omega)]
        clear hsrc
        go_wp2_with fail
        refine HR.out.mono ?_
        rintro e w1 ⟨rfl, hg1⟩
        have HB6 := veil (HL.out.res.kept hg1 (by simp; omega))
        have HK6 := veil (HL.out.kept.trans hg1)
        clear HL hg1
        go_wp2_with (first
          | (refine wpList_store_blk w1 rfl 47 (.tmp 4) (.tmp 37) rfl w.heap.size zeroB zeroB 47 HB6.out rfl rfl (info_blkn hzl.out) rfl hzone ?_; intro w5 HB7 hg7)
          | fail)
        exact read_err HDe.out (by decide) rfl rfl rfl HB7 (grown_grown HK6.out hg7 (Nat.le_refl _))
    · obtain rfl : k = 64 := by omega
      have HD : Hid (D = (0, pre, n)) := by show _ = _; rw [HL.out.told, show 64 - 64 = 0 from rfl, joinQ_all]
      have HZl : Hid (pre.length = 64) := HL.out.len
      have HBr := HL.out.res
      have HBn := HL.out.num
      have hkw := HL.out.kept
      have hsr := HL.out.src
      have hszz := HL.out.size
      rw [show 64 - 64 = 0 from rfl, List.replicate_zero, List.append_nil] at HBn
      clear HL
      generalize pre = ZS at *
      have HFr := veil (fun W' => from_any ZS W' HZl.out)
      have HlY : Hid ((ints .i64 (fromL ZS)).length = 64) := by show _ = _; rw [ints_length, fromL_length]
      have HlX : Hid ((ints .i64 ZS).length = 64) := by show _ = _; rw [ints_length, HZl.out]
      have honeY := ints_one (k := .i64) (l := fromL ZS)
      have hrZ := HBn.range
      have HDo : Hid (outP D = fromL ZS) := by show _ = _; rw [HD.out]; exact if_pos rfl
      unfold blkV at HFr
      obtain ⟨xs, hxs⟩ : ∃ xs, xs = ints .i64 ZS := ⟨_, rfl⟩
      rw [← hxs] at HFr HlX hrZ
      obtain ⟨ys, hys⟩ : ∃ ys, ys = ints .i64 (fromL ZS) := ⟨_, rfl⟩
      rw [← hys] at HFr HlY honeY
      have HYe := veil hys
      clear hxs hys HBn
      go_wp2_with (first
        | (refine wpList_load_mid rfl 47 (.tmp 6) rfl (w.heap.size + 1) 0 rfl xs _ hrZ Try.underlying47 rfl (info_blkn HlX.out) ?_)
        | fail)
      refine (HFr.out _).mono ?_
      rintro e w5 ⟨rfl, hb5⟩
      have hz5 := hb5.size
      have HB5 := veil (HBr.below hb5 (by omega))
      have hkw5 := veil (grown_below hkw hb5 (by have := hkw.size; omega))
      have hs5 := veil (hsr.below hb5 (by omega) (by omega))
      clear hrZ HBr hkw hsr hb5
      go_wp2_with (first
        | (refine wpList_store_blk w5 rfl 47 (.tmp 4) (.tmp 55) rfl w.heap.size zeroB ys 47 HB5.out rfl rfl (info_blkn HlY.out) (by rw [HlY.out, hzl.out]) honeY ?_; intro w9 HB9 hg9)
        | fail)
      exact read_out (er := 0) (os := fromL ZS) (by rw [HD.out]) HDo.out rfl rfl rfl (by rw [← HYe.out]; exact HB9) (grown_grown hkw5.out hg9 (Nat.le_refl _)) (fun _ => by rw [HD.out]; exact hs5.out.kept hg9 (by omega) (by omega) (by omega))
set_option maxHeartbeats 8000000 in
set_option maxRecDepth 100000 in
theorem runRead_any (b : Int) (G g c : Nat) (A : Option Addr) (l : List (Int × Int × Int)) (w : World) (hb : -2047 ≤ b ∧ b ≤ 2047) (hs : PSrc G g A c l w 0) (hG : G ≤ g) (hl : l.length ≤ maxLen) (hbd : ∀ t ∈ l, t.1 ≤ 9223372036854775807) :
    Calls Try.prog 87 #[.int .i64 b, srcV g] w fun e w' => e = .returned (.tuple #[blkV (outP (decF b l)), .int .i64 (decF b l).1]) ∧ w.grownBy w' (some g) ∧ ((decF b l).1 = 0 → PSrc G g A c l w' (decF b l).2.2) := by
  obtain ⟨D, hD⟩ : ∃ D, D = decF b l := ⟨_, rfl⟩
  rw [← hD]
  have hgw := hs.1.lt
  obtain ⟨hb0, HB0, HB1, hz0⟩ := pbox2_is w
  have hs0 := hs.below hb0 hgw (by omega)
  have hk0 : w.grownBy ((w.alloc (.cells zeroB.toArray 47)).alloc (.cells zeroB.toArray 47)) (some g) := grown_below (World.grownBy.refl _ _) hb0 (Nat.le_refl _)
  have hzl := veil zeroB_length
  have hzone := ints_one (k := .i64) (l := List.replicate 64 0)
  clear hb0
  cases l with
  | nil =>
    have HF := veil (first_none b G g c A [] ((w.alloc (.cells zeroB.toArray 47)).alloc (.cells zeroB.toArray 47)) hs0 hl)
    have HD4 : Hid (D = (3, [], 0)) := hD
    clear hD
    go_enter Try.func87, Try.ntmps87
    go_wp2_with fail
    refine HF.out.mono ?_
    rintro e w1 ⟨rfl, hg1⟩
    have HB6 := veil (HB0.kept hg1 (by simp; omega))
    have HK6 := veil (hk0.trans hg1)
    clear HB0 HB1 hk0 hs0 hg1
    go_wp2_with (first
      | (refine wpList_store_blk w1 rfl 47 (.tmp 4) (.tmp 21) rfl w.heap.size zeroB zeroB 47 HB6.out rfl rfl (info_blkn hzl.out) rfl hzone ?_; intro w5 HB7 hg7)
      | fail)
    exact read_err HD4.out (by decide) rfl rfl rfl HB7 (grown_grown HK6.out hg7 (Nat.le_refl _))
  | cons t l' =>
    have ht0 : (t :: l')[0]? = some t := rfl
    by_cases hf : firstT b t
    · exact read_go b G g c A (t :: l') t D w hb hs hG hl hbd ht0 hf (by rw [hD]; exact if_pos hf)
    · have HF := veil (first_bad b G g c 0 A (t :: l') t ((w.alloc (.cells zeroB.toArray 47)).alloc (.cells zeroB.toArray 47)) hb hs0 hG hl ht0 hf)
      have HD4 : Hid (D = (4, [], 0)) := by show _ = _; rw [hD]; exact if_neg hf
      clear hD hf
      go_enter Try.func87, Try.ntmps87
      go_wp2_with fail
      refine HF.out.mono ?_
      rintro e w1 ⟨rfl, hg1⟩
      have HB6 := veil (HB0.kept hg1 (by simp; omega))
      have HK6 := veil (hk0.trans hg1)
      clear HB0 HB1 hk0 hs0 hg1
      go_wp2_with (first
        | (refine wpList_store_blk w1 rfl 47 (.tmp 4) (.tmp 21) rfl w.heap.size zeroB zeroB 47 HB6.out rfl rfl (info_blkn hzl.out) rfl hzone ?_; intro w5 HB7 hg7)
        | fail)
      exact read_err HD4.out (by decide) rfl rfl rfl HB7 (grown_grown HK6.out hg7 (Nat.le_refl _))
end Go.Proofs.Ytbboakdfnjjddaa

/- slices.Equal over two lists of tokens tells whether they are equal. -/
namespace Go.Proofs.Ytbboakdfnjjddaa
open Go.RowKit
set_option linter.unusedVariables false
set_option linter.unusedSimpArgs false
set_option maxRecDepth 100000

set_option maxRecDepth 100000 in
set_option maxHeartbeats 1000000 in
theorem seqTok (A B : Option Addr) (c d G : Nat) (xs ys : List (Int × Int × Int)) (w : World) (hx : Seen w G A (tokCells xs)) (hy : Seen w G B (tokCells ys)) (hG : G ≤ w.heap.size) (hlx : xs.length ≤ 1099511627776) (hly : ys.length ≤ maxLen) :
    Calls Try.prog 88 #[.slice A xs.length c, .slice B ys.length d] w fun e w' => e = .returned (.bool (decide (xs = ys))) ∧ Below w.heap.size w w' := by
  by_cases hl : xs.length = ys.length
  · have hne : ((xs.length : Int) != (ys.length : Int)) = false := by simp [hl]
    have Hl := veil hl
    clear hl
    go_enter Try.func88, Try.ntmps88
    go_wp2_with fail
    go_loopg [13] xs.length (fun gk i wr => ∃ k : Nat, gk = xs.length - k ∧ k ≤ xs.length ∧ i = .int .i64 k ∧ Hid (xs.take k = ys.take k) ∧ Below w.heap.size w wr)
    case atStart => exact ⟨0, rfl, Nat.zero_le _, rfl, veil rfl, Below.refl _ _⟩
    case round =>
      obtain ⟨k, rfl, hk, rfl, He, hbel⟩ := hrel
      have hz := hbel.size
      by_cases hlt : k < xs.length
      · have hky : (k : Int) < (ys.length : Int) := by have := Hl.out; omega
        obtain ⟨g, o, s, n, m, rfl, hg, hxk, h1, h2, h3⟩ := hx.tok hlt
        obtain ⟨g', o', s', n', m', rfl, hg', hyk, h4, h5, h6⟩ := hy.tok (k := k) (by omega)
        rw [← hbel.cell (by simp; omega)] at h1 h2 h3 h4 h5 h6
        have Hx := veil hxk; have Hy := veil hyk
        clear hxk hyk hx hy
        have hgd : Try.prog.eqGuardType Try.prog.depth 56 = false := by kernel_rfl
        have hneq := fun w => neq_tok s n m s' n' m' w
        by_cases hq : (s, n, m) = (s', n', m')
        · have hb : (!(s == s' && (n == n' && m == m'))) = false := by
            simp only [Prod.mk.injEq] at hq
            obtain ⟨rfl, rfl, rfl⟩ := hq
            simp
          rw [hb] at hneq
          have Hq := veil hq
          clear hb hq
          go_wp2_with fail
          go_quiet (fail)
          go_wp2
          go_roundg (xs.length - (k + 1))
          case rel => exact ⟨k + 1, rfl, by omega, by go_num, veil (by rw [take_snoc Hx.out, take_snoc Hy.out, He.out, Hq.out]), hbel.drewN _⟩
          case measure => omega
        · have hb : (!(s == s' && (n == n' && m == m'))) = true := by
            simp only [Bool.not_eq_true', Bool.and_eq_false_iff, beq_eq_false_iff_ne]
            refine Classical.byContradiction fun h => hq ?_
            have h1 : s = s' := Classical.byContradiction fun e => h (.inl e)
            have h2 : n = n' := Classical.byContradiction fun e => h (.inr (.inl e))
            have h3 : m = m' := Classical.byContradiction fun e => h (.inr (.inr e))
            rw [h1, h2, h3]
          rw [hb] at hneq
          have Hq := veil hq
          clear hb hq
          go_wp2_with fail
          go_quiet (fail)
          go_wp2
          go_ret
          refine ⟨ret_bool ?_, hbel.drewN _⟩
          symm
          simp only [decide_eq_false_iff_not]
          intro e
          have h3 := Hx.out
          rw [e, Hy.out] at h3
          exact Hq.out (by injection h3 with h3; exact h3.symm)
      · go_wp2
        go_ret
        refine ⟨ret_bool ?_, hbel⟩
        symm
        have h3 := He.out
        rw [List.take_of_length_le (by omega), List.take_of_length_le (by have := Hl.out; omega)] at h3
        simpa using h3
  · have hne : ((xs.length : Int) != (ys.length : Int)) = true := by simp; omega
    have hd : decide (xs = ys) = false := by simp; intro e; exact hl (by rw [e])
    have Hd := veil hd
    clear hd hl
    go_enter Try.func88, Try.ntmps88
    go_wp2
    go_ret
    exact ⟨ret_bool Hd.out.symm, Below.refl _ _⟩
end Go.Proofs.Ytbboakdfnjjddaa

/- Rows of tokens, their slices written out; tokens of blocks that are zero but for number 0. -/
namespace Go.Proofs.Ytbboakdfnjjddaa
open Go.RowKit
set_option linter.unusedVariables false
set_option linter.unusedSimpArgs false
set_option maxRecDepth 100000

theorem tok_form {w : World} {B : Nat} {v : Value} {T : List (Int × Int × Int)} {rs : List Row} (h : Owns B (tokRow v T :: rs) w) : ∃ A c, v = .slice A T.length c ∧ Seen w w.heap.size A (tokCells T) ∧ T.length ≤ c ∧ c ≤ maxLen := by
  obtain ⟨A, c, e, h1, h2, h3⟩ := h.seen (List.mem_cons_self ..)
  exact ⟨A, c, e, h1, h2, h3⟩
theorem big_eT (cs : List Int) : eT 2048 cs = 1 := eT_bad (by omega)
theorem zz_pos : ∀ i : Fin 64, i.1 ≠ 0 → (zz.getD i.1 0).toNat ≠ 0 ∧ (zz.getD i.1 0).toNat < 64 := by decide +kernel
theorem toL_one (n : Int) : toL (n :: List.replicate 63 0) = n :: List.replicate 63 0 := by
  apply List.ext_getElem?
  intro i
  by_cases hi : i < 64
  · simp only [toL, toK, List.getElem?_map, List.getElem?_range hi, Option.map_some, if_pos hi]
    by_cases h0 : i = 0
    · subst h0; rfl
    · obtain ⟨h1, h2⟩ := zz_pos ⟨i, hi⟩ h0
      simp only at h1 h2
      obtain ⟨j, hj⟩ : ∃ j, (zz.getD i 0).toNat = j + 1 := ⟨(zz.getD i 0).toNat - 1, by omega⟩
      obtain ⟨k, rfl⟩ : ∃ k, i = k + 1 := ⟨i - 1, by omega⟩
      rw [hj, List.getElem?_cons_succ, List.getD_cons_succ, List.getElem?_replicate, if_pos (by omega), List.getD_eq_getElem?_getD, List.getElem?_replicate, if_pos (by omega)]; rfl
  · rw [List.getElem?_eq_none (by rw [toL_length]; omega), List.getElem?_eq_none (by simp; omega)]
theorem one_eT {b n : Int} (hb : -2047 ≤ b ∧ b ≤ 2047) (h : -2047 ≤ n ∧ n ≤ 2047) : eT b (n :: List.replicate 63 0) = 0 := by
  refine eT_ok hb.1 hb.2 (inB_mem.2 fun z hz => ?_)
  rcases List.mem_cons.1 hz with rfl | hz
  · exact h
  · rw [(List.mem_replicate.1 hz).2]; omega
theorem one_oT {n : Int} (h : -2047 ≤ n ∧ n ≤ 2047) : oT n (n :: List.replicate 63 0) = [(0, 0, 0), (0, 0, 0)] := by
  rw [oT_ok (one_eT h h), toL_one, zero_all]; rfl
end Go.Proofs.Ytbboakdfnjjddaa

/- A whole value stored into a block that is known, in a region driven by hand. No program is named here. -/
namespace Go.Proofs.Ytbboakdfnjjddaa
open Go.RowKit
set_option linter.unusedVariables false
set_option linter.unusedSimpArgs false
set_option maxRecDepth 100000

theorem step_store_blk {P : Program} {ops : Array Oper} {o : Oper} {a : Act} {K : Act → World → Prop} {Q : Exit → Act → World → Prop} {F : Prop} (w : World) (hgd : o.guard = none) (t : TypeId) (x y : Operand) (ho : o.op = .store t x y) (b : Nat) (xs ys : List Value) (e : TypeId) (hB : Blk w b xs e)
    (hx : a.eval x = .pointer (some ⟨b, 0, none⟩)) (hy : a.eval y = .agg ys.toArray) (hi : (P.info? t).map (·.size) = some ys.length) (hl : ys.length = xs.length) (h1 : ∀ u ∈ ys, u.oneCell' = true)
    (h : ∀ w', Blk w' b ys e → w.grownBy w' (some b) → K (a.put o.dst undef) w') : if Region.wanted o (yielded ops a.tmps) = true then Oper.wp P o a w K Q else F := by
  have hw : Region.wanted o (yielded ops a.tmps) = true := by simp [Region.wanted, hgd]
  rw [if_pos hw]
  obtain ⟨h2, h3⟩ := setCells_blk ys xs [] w hl hB
  refine wp_store_mid t x y ho b 0 ys.toArray hx hy (fun j hj => ⟨?_, by rw [Nat.zero_add]; exact hB.frozen j⟩) (by simpa using hi) (all_oneCell_toArray h1) (h _ h2 h3)
  obtain ⟨u, hu⟩ := some_at (xs := xs) (j := j) (by simp at hj; omega)
  rw [Nat.zero_add, hB.cell hu]; rfl
end Go.Proofs.Ytbboakdfnjjddaa
