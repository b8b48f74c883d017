/- run.readRest over a list of tokens: its contract. -/
import Derived.Test.YtemckjkdlbipcaaRunRead
namespace Go.Proofs.Ytemckjkdlbipcaa
open Go.RowKit
set_option linter.unusedVariables false
set_option linter.unusedSimpArgs false
set_option maxRecDepth 100000

theorem drewN_g {w w1 : World} {g : Nat} (h : w.grownBy w1 (some g)) (n : Nat) : w.grownBy (w1.drewN n) (some g) := ⟨h.os, h.tape, h.output, h.size, h.block⟩
set_option maxHeartbeats 2000000 in
theorem rest_bad1 (G g c u : Nat) (A : Option Addr) (l : List (Int × Int × Int)) (p0 p1 p2 : Int) (w : World) (hs : PSrc G g A c l w u) (hG : G ≤ g) (hl : l.length ≤ maxLen) (ht : l[u]? = some (p0, p1, p2)) (h : p0 < 0) :
    Calls Try.prog 34 #[srcV g] w fun e w' => e = .returned (.tuple #[.int .i64 0, .int .i64 0, .int .i64 4]) ∧ w.grownBy w' (some g) := by
  have HN := veil (pnext_some G g c u A l _ w hs hG hl ht)
  have hgw := hs.1.lt
  clear hs ht
  unfold tokV at HN
  skip
  go_enter Try.func34, Try.ntmps34
  go_wp2_with fail
  refine HN.out.mono ?_
  rintro e w1 ⟨rfl, hg1, hs1⟩
  obtain ⟨hg2, hs2⟩ := boxed_tok hg1 hs1 hG hgw [.int .i64 p0, .int .i64 p1, .int .i64 p2] 30
  have HBt := Blk.new w1 [.int .i64 p0, .int .i64 p1, .int .i64 p2] 30
  have k0 := HBt.cell (i := 0) (v := .int .i64 p0) rfl
  have k1 := HBt.cell (i := 1) (v := .int .i64 p1) rfl
  have k2 := HBt.cell (i := 2) (v := .int .i64 p2) rfl
  clear HBt
  go_wp2_with fail
  obtain ⟨W2, hW2⟩ : ∃ W2, W2 = w1.alloc (.cells #[.int .i64 p0, .int .i64 p1, .int .i64 p2] 30) := ⟨_, rfl⟩
  rw [← hW2] at hg2 hs2 k0 k1 k2 ⊢
  clear hW2
  go_quiet (fail)
  go_wp2
  go_ret3
  exact ⟨rfl, drewN_g hg2 _⟩
set_option maxHeartbeats 2000000 in
theorem rest_bad2 (G g c u : Nat) (A : Option Addr) (l : List (Int × Int × Int)) (p0 p1 p2 : Int) (w : World) (hs : PSrc G g A c l w u) (hG : G ≤ g) (hl : l.length ≤ maxLen) (ht : l[u]? = some (p0, p1, p2)) (h0 : 0 ≤ p0) (h : p1 ≠ p0 % 16) :
    Calls Try.prog 34 #[srcV g] w fun e w' => e = .returned (.tuple #[.int .i64 0, .int .i64 0, .int .i64 4]) ∧ w.grownBy w' (some g) := by
  have HN := veil (pnext_some G g c u A l _ w hs hG hl ht)
  have hgw := hs.1.lt
  clear hs ht
  unfold tokV at HN
  have hne : (p1 != p0 % 16) = true := by simpa using h
  have hn0 : ¬ p0 < 0 := by omega
  go_enter Try.func34, Try.ntmps34
  go_wp2_with fail
  refine HN.out.mono ?_
  rintro e w1 ⟨rfl, hg1, hs1⟩
  obtain ⟨hg2, hs2⟩ := boxed_tok hg1 hs1 hG hgw [.int .i64 p0, .int .i64 p1, .int .i64 p2] 30
  have HBt := Blk.new w1 [.int .i64 p0, .int .i64 p1, .int .i64 p2] 30
  have k0 := HBt.cell (i := 0) (v := .int .i64 p0) rfl
  have k1 := HBt.cell (i := 1) (v := .int .i64 p1) rfl
  have k2 := HBt.cell (i := 2) (v := .int .i64 p2) rfl
  clear HBt
  go_wp2_with fail
  obtain ⟨W2, hW2⟩ : ∃ W2, W2 = w1.alloc (.cells #[.int .i64 p0, .int .i64 p1, .int .i64 p2] 30) := ⟨_, rfl⟩
  rw [← hW2] at hg2 hs2 k0 k1 k2 ⊢
  clear hW2
  go_quiet (fail)
  go_wp2
  go_ret3
  exact ⟨rfl, drewN_g hg2 _⟩
set_option maxHeartbeats 2000000 in
theorem rest_bad3 (G g c u : Nat) (A : Option Addr) (l : List (Int × Int × Int)) (p0 p1 p2 : Int) (w : World) (hs : PSrc G g A c l w u) (hG : G ≤ g) (hl : l.length ≤ maxLen) (ht : l[u]? = some (p0, p1, p2)) (h0 : 0 ≤ p0) (h : p0 % 16 = p1) (h2 : 11 < p1) :
    Calls Try.prog 34 #[srcV g] w fun e w' => e = .returned (.tuple #[.int .i64 0, .int .i64 0, .int .i64 4]) ∧ w.grownBy w' (some g) := by
  have HN := veil (pnext_some G g c u A l _ w hs hG hl ht)
  have hgw := hs.1.lt
  clear hs ht
  unfold tokV at HN
  have hn0 : ¬ p0 < 0 := by omega
  go_enter Try.func34, Try.ntmps34
  go_wp2_with fail
  refine HN.out.mono ?_
  rintro e w1 ⟨rfl, hg1, hs1⟩
  obtain ⟨hg2, hs2⟩ := boxed_tok hg1 hs1 hG hgw [.int .i64 p0, .int .i64 p1, .int .i64 p2] 30
  have HBt := Blk.new w1 [.int .i64 p0, .int .i64 p1, .int .i64 p2] 30
  have k0 := HBt.cell (i := 0) (v := .int .i64 p0) rfl
  have k1 := HBt.cell (i := 1) (v := .int .i64 p1) rfl
  have k2 := HBt.cell (i := 2) (v := .int .i64 p2) rfl
  clear HBt
  go_wp2_with fail
  obtain ⟨W2, hW2⟩ : ∃ W2, W2 = w1.alloc (.cells #[.int .i64 p0, .int .i64 p1, .int .i64 p2] 30) := ⟨_, rfl⟩
  rw [← hW2] at hg2 hs2 k0 k1 k2 ⊢
  clear hW2
  go_quiet (fail)
  go_wp2
  go_ret3
  exact ⟨rfl, drewN_g hg2 _⟩
set_option maxHeartbeats 2000000 in
theorem rest_bad4 (G g c u : Nat) (A : Option Addr) (l : List (Int × Int × Int)) (p0 p1 p2 : Int) (w : World) (hs : PSrc G g A c l w u) (hG : G ≤ g) (hl : l.length ≤ maxLen) (ht : l[u]? = some (p0, p1, p2)) (h0 : 0 ≤ p0) (h : p0 % 16 = p1) (h2 : p1 = 0) (h3 : p0 ≠ 0) (h4 : p0 ≠ 240) :
    Calls Try.prog 34 #[srcV g] w fun e w' => e = .returned (.tuple #[.int .i64 0, .int .i64 0, .int .i64 4]) ∧ w.grownBy w' (some g) := by
  have HN := veil (pnext_some G g c u A l _ w hs hG hl ht)
  have hgw := hs.1.lt
  clear hs ht
  unfold tokV at HN
  subst h2
  have hn0 : ¬ p0 < 0 := by omega
  have h5 : (p0 != 0) = true := by simpa using h3
  have h6 : (p0 != 240) = true := by simpa using h4
  go_enter Try.func34, Try.ntmps34
  go_wp2_with fail
  refine HN.out.mono ?_
  rintro e w1 ⟨rfl, hg1, hs1⟩
  obtain ⟨hg2, hs2⟩ := boxed_tok hg1 hs1 hG hgw [.int .i64 p0, .int .i64 0, .int .i64 p2] 30
  have HBt := Blk.new w1 [.int .i64 p0, .int .i64 0, .int .i64 p2] 30
  have k0 := HBt.cell (i := 0) (v := .int .i64 p0) rfl
  have k1 := HBt.cell (i := 1) (v := .int .i64 0) rfl
  have k2 := HBt.cell (i := 2) (v := .int .i64 p2) rfl
  clear HBt
  go_wp2_with fail
  obtain ⟨W2, hW2⟩ : ∃ W2, W2 = w1.alloc (.cells #[.int .i64 p0, .int .i64 0, .int .i64 p2] 30) := ⟨_, rfl⟩
  rw [← hW2] at hg2 hs2 k0 k1 k2 ⊢
  clear hW2
  go_quiet (fail)
  go_wp2
  go_ret3
  exact ⟨rfl, drewN_g hg2 _⟩
set_option maxHeartbeats 2000000 in
theorem rest_bad5A (G g c u : Nat) (A : Option Addr) (l : List (Int × Int × Int)) (p0 p1 p2 : Int) (w : World) (hs : PSrc G g A c l w u) (hG : G ≤ g) (hl : l.length ≤ maxLen) (ht : l[u]? = some (p0, p1, p2)) (h0 : 0 ≤ p0) (h : p0 % 16 = p1) (h1 : p1 ≤ 11) (h2 : p1 ≠ 0) (h9 : ¬ (0 ≤ p1 ∧ p1 ≤ 12 ∧ 0 ≤ p2 ∧ p2 < pw p1.toNat)) :
    Calls Try.prog 34 #[srcV g] w fun e w' => e = .returned (.tuple #[.int .i64 0, .int .i64 0, .int .i64 4]) ∧ w.grownBy w' (some g) := by
  have HN := veil (pnext_some G g c u A l _ w hs hG hl ht)
  have hgw := hs.1.lt
  clear hs ht
  unfold tokV at HN
  have HBk := veil (fun W => back_any p1 p2 W)
  rw [eB_bad h9, oB_bad h9] at HBk
  clear h9
  have hn0 : ¬ p0 < 0 := by omega
  have hn1 : ¬ 11 < p1 := by omega
  have h5 : (p1 == 0) = false := by simpa using h2
  go_enter Try.func34, Try.ntmps34
  go_wp2_with fail
  refine HN.out.mono ?_
  rintro e w1 ⟨rfl, hg1, hs1⟩
  obtain ⟨hg2, hs2⟩ := boxed_tok hg1 hs1 hG hgw [.int .i64 p0, .int .i64 p1, .int .i64 p2] 30
  have HBt := Blk.new w1 [.int .i64 p0, .int .i64 p1, .int .i64 p2] 30
  have k0 := HBt.cell (i := 0) (v := .int .i64 p0) rfl
  have k1 := HBt.cell (i := 1) (v := .int .i64 p1) rfl
  have k2 := HBt.cell (i := 2) (v := .int .i64 p2) rfl
  clear HBt
  go_wp2_with fail
  obtain ⟨W2, hW2⟩ : ∃ W2, W2 = w1.alloc (.cells #[.int .i64 p0, .int .i64 p1, .int .i64 p2] 30) := ⟨_, rfl⟩
  rw [← hW2] at hg2 hs2 k0 k1 k2 ⊢
  clear hW2
  go_quiet (fail)
  go_wp2_with fail
  refine (HBk.out _).mono ?_
  rintro e w3 ⟨rfl, rfl⟩
  go_wp2
  go_ret3
  exact ⟨rfl, drewN_g hg2 _⟩
set_option maxHeartbeats 2000000 in
theorem rest_okA (G g c u : Nat) (A : Option Addr) (l : List (Int × Int × Int)) (p0 p1 p2 : Int) (w : World) (hs : PSrc G g A c l w u) (hG : G ≤ g) (hl : l.length ≤ maxLen) (ht : l[u]? = some (p0, p1, p2)) (h0 : 0 ≤ p0) (h : p0 % 16 = p1) (h1 : p1 ≤ 11) (h2 : p1 ≠ 0) (hp : p0 ≤ 9223372036854775807) (h9 : 0 ≤ p1 ∧ p1 ≤ 12 ∧ 0 ≤ p2 ∧ p2 < pw p1.toNat) :
    Calls Try.prog 34 #[srcV g] w fun e w' => e = .returned (.tuple #[.int .i64 (p0 / 16), .int .i64 (numT (p0, p1, p2)), .int .i64 0]) ∧ w.grownBy w' (some g) ∧ PSrc G g A c l w' (u + 1) := by
  have HN := veil (pnext_some G g c u A l _ w hs hG hl ht)
  have hgw := hs.1.lt
  clear hs ht
  unfold tokV at HN
  have HBk := veil (fun W => back_any p1 p2 W)
  rw [show eB p1 p2 = 0 from if_pos h9, show oB p1 p2 = numT (p0, p1, p2) from if_pos h9] at HBk
  clear h9
  generalize numT (p0, p1, p2) = n at *
  have hn0 : ¬ p0 < 0 := by omega
  have hn1 : ¬ 11 < p1 := by omega
  have h5 : (p1 == 0) = false := by simpa using h2
  go_enter Try.func34, Try.ntmps34
  go_wp2_with fail
  refine HN.out.mono ?_
  rintro e w1 ⟨rfl, hg1, hs1⟩
  obtain ⟨hg2, hs2⟩ := boxed_tok hg1 hs1 hG hgw [.int .i64 p0, .int .i64 p1, .int .i64 p2] 30
  have HBt := Blk.new w1 [.int .i64 p0, .int .i64 p1, .int .i64 p2] 30
  have k0 := HBt.cell (i := 0) (v := .int .i64 p0) rfl
  have k1 := HBt.cell (i := 1) (v := .int .i64 p1) rfl
  have k2 := HBt.cell (i := 2) (v := .int .i64 p2) rfl
  clear HBt
  go_wp2_with fail
  obtain ⟨W2, hW2⟩ : ∃ W2, W2 = w1.alloc (.cells #[.int .i64 p0, .int .i64 p1, .int .i64 p2] 30) := ⟨_, rfl⟩
  rw [← hW2] at hg2 hs2 k0 k1 k2 ⊢
  clear hW2
  go_quiet (fail)
  go_wp2_with fail
  refine (HBk.out _).mono ?_
  rintro e w3 ⟨rfl, rfl⟩
  go_wp2
  go_ret3
  exact ⟨rfl, drewN_g hg2 _, hs2⟩
set_option maxHeartbeats 2000000 in
theorem rest_bad5B (G g c u : Nat) (A : Option Addr) (l : List (Int × Int × Int)) (p0 p1 p2 : Int) (w : World) (hs : PSrc G g A c l w u) (hG : G ≤ g) (hl : l.length ≤ maxLen) (ht : l[u]? = some (p0, p1, p2)) (h0 : 0 ≤ p0) (h : p0 % 16 = p1) (h1 : p1 ≤ 11) (h2 : p1 = 0) (h3 : p0 = 0) (h9 : ¬ (0 ≤ p1 ∧ p1 ≤ 12 ∧ 0 ≤ p2 ∧ p2 < pw p1.toNat)) :
    Calls Try.prog 34 #[srcV g] w fun e w' => e = .returned (.tuple #[.int .i64 0, .int .i64 0, .int .i64 4]) ∧ w.grownBy w' (some g) := by
  have HN := veil (pnext_some G g c u A l _ w hs hG hl ht)
  have hgw := hs.1.lt
  clear hs ht
  unfold tokV at HN
  have HBk := veil (fun W => back_any p1 p2 W)
  rw [eB_bad h9, oB_bad h9] at HBk
  clear h9
  have hn0 : ¬ p0 < 0 := by omega
  have hn1 : ¬ 11 < p1 := by omega
  subst h2 h3
  go_enter Try.func34, Try.ntmps34
  go_wp2_with fail
  refine HN.out.mono ?_
  rintro e w1 ⟨rfl, hg1, hs1⟩
  obtain ⟨hg2, hs2⟩ := boxed_tok hg1 hs1 hG hgw [.int .i64 0, .int .i64 0, .int .i64 p2] 30
  have HBt := Blk.new w1 [.int .i64 0, .int .i64 0, .int .i64 p2] 30
  have k0 := HBt.cell (i := 0) (v := .int .i64 0) rfl
  have k1 := HBt.cell (i := 1) (v := .int .i64 0) rfl
  have k2 := HBt.cell (i := 2) (v := .int .i64 p2) rfl
  clear HBt
  go_wp2_with fail
  obtain ⟨W2, hW2⟩ : ∃ W2, W2 = w1.alloc (.cells #[.int .i64 0, .int .i64 0, .int .i64 p2] 30) := ⟨_, rfl⟩
  rw [← hW2] at hg2 hs2 k0 k1 k2 ⊢
  clear hW2
  go_quiet (fail)
  go_wp2_with fail
  refine (HBk.out _).mono ?_
  rintro e w3 ⟨rfl, rfl⟩
  go_wp2
  go_ret3
  exact ⟨rfl, drewN_g hg2 _⟩
set_option maxHeartbeats 2000000 in
theorem rest_okB (G g c u : Nat) (A : Option Addr) (l : List (Int × Int × Int)) (p0 p1 p2 : Int) (w : World) (hs : PSrc G g A c l w u) (hG : G ≤ g) (hl : l.length ≤ maxLen) (ht : l[u]? = some (p0, p1, p2)) (h0 : 0 ≤ p0) (h : p0 % 16 = p1) (h1 : p1 ≤ 11) (h2 : p1 = 0) (h3 : p0 = 0) (h9 : 0 ≤ p1 ∧ p1 ≤ 12 ∧ 0 ≤ p2 ∧ p2 < pw p1.toNat) :
    Calls Try.prog 34 #[srcV g] w fun e w' => e = .returned (.tuple #[.int .i64 (p0 / 16), .int .i64 (numT (p0, p1, p2)), .int .i64 0]) ∧ w.grownBy w' (some g) ∧ PSrc G g A c l w' (u + 1) := by
  have HN := veil (pnext_some G g c u A l _ w hs hG hl ht)
  have hgw := hs.1.lt
  clear hs ht
  unfold tokV at HN
  have HBk := veil (fun W => back_any p1 p2 W)
  rw [show eB p1 p2 = 0 from if_pos h9, show oB p1 p2 = numT (p0, p1, p2) from if_pos h9] at HBk
  clear h9
  generalize numT (p0, p1, p2) = n at *
  have hn0 : ¬ p0 < 0 := by omega
  have hn1 : ¬ 11 < p1 := by omega
  subst h2 h3
  go_enter Try.func34, Try.ntmps34
  go_wp2_with fail
  refine HN.out.mono ?_
  rintro e w1 ⟨rfl, hg1, hs1⟩
  obtain ⟨hg2, hs2⟩ := boxed_tok hg1 hs1 hG hgw [.int .i64 0, .int .i64 0, .int .i64 p2] 30
  have HBt := Blk.new w1 [.int .i64 0, .int .i64 0, .int .i64 p2] 30
  have k0 := HBt.cell (i := 0) (v := .int .i64 0) rfl
  have k1 := HBt.cell (i := 1) (v := .int .i64 0) rfl
  have k2 := HBt.cell (i := 2) (v := .int .i64 p2) rfl
  clear HBt
  go_wp2_with fail
  obtain ⟨W2, hW2⟩ : ∃ W2, W2 = w1.alloc (.cells #[.int .i64 0, .int .i64 0, .int .i64 p2] 30) := ⟨_, rfl⟩
  rw [← hW2] at hg2 hs2 k0 k1 k2 ⊢
  clear hW2
  go_quiet (fail)
  go_wp2_with fail
  refine (HBk.out _).mono ?_
  rintro e w3 ⟨rfl, rfl⟩
  go_wp2
  go_ret3
  exact ⟨rfl, drewN_g hg2 _, hs2⟩
set_option maxHeartbeats 2000000 in
theorem rest_bad5C (G g c u : Nat) (A : Option Addr) (l : List (Int × Int × Int)) (p0 p1 p2 : Int) (w : World) (hs : PSrc G g A c l w u) (hG : G ≤ g) (hl : l.length ≤ maxLen) (ht : l[u]? = some (p0, p1, p2)) (h0 : 0 ≤ p0) (h : p0 % 16 = p1) (h1 : p1 ≤ 11) (h2 : p1 = 0) (h3 : p0 = 240) (h9 : ¬ (0 ≤ p1 ∧ p1 ≤ 12 ∧ 0 ≤ p2 ∧ p2 < pw p1.toNat)) :
    Calls Try.prog 34 #[srcV g] w fun e w' => e = .returned (.tuple #[.int .i64 0, .int .i64 0, .int .i64 4]) ∧ w.grownBy w' (some g) := by
  have HN := veil (pnext_some G g c u A l _ w hs hG hl ht)
  have hgw := hs.1.lt
  clear hs ht
  unfold tokV at HN
  have HBk := veil (fun W => back_any p1 p2 W)
  rw [eB_bad h9, oB_bad h9] at HBk
  clear h9
  have hn0 : ¬ p0 < 0 := by omega
  have hn1 : ¬ 11 < p1 := by omega
  subst h2 h3
  go_enter Try.func34, Try.ntmps34
  go_wp2_with fail
  refine HN.out.mono ?_
  rintro e w1 ⟨rfl, hg1, hs1⟩
  obtain ⟨hg2, hs2⟩ := boxed_tok hg1 hs1 hG hgw [.int .i64 240, .int .i64 0, .int .i64 p2] 30
  have HBt := Blk.new w1 [.int .i64 240, .int .i64 0, .int .i64 p2] 30
  have k0 := HBt.cell (i := 0) (v := .int .i64 240) rfl
  have k1 := HBt.cell (i := 1) (v := .int .i64 0) rfl
  have k2 := HBt.cell (i := 2) (v := .int .i64 p2) rfl
  clear HBt
  go_wp2_with fail
  obtain ⟨W2, hW2⟩ : ∃ W2, W2 = w1.alloc (.cells #[.int .i64 240, .int .i64 0, .int .i64 p2] 30) := ⟨_, rfl⟩
  rw [← hW2] at hg2 hs2 k0 k1 k2 ⊢
  clear hW2
  go_quiet (fail)
  go_wp2_with fail
  refine (HBk.out _).mono ?_
  rintro e w3 ⟨rfl, rfl⟩
  go_wp2
  go_ret3
  exact ⟨rfl, drewN_g hg2 _⟩
set_option maxHeartbeats 2000000 in
theorem rest_okC (G g c u : Nat) (A : Option Addr) (l : List (Int × Int × Int)) (p0 p1 p2 : Int) (w : World) (hs : PSrc G g A c l w u) (hG : G ≤ g) (hl : l.length ≤ maxLen) (ht : l[u]? = some (p0, p1, p2)) (h0 : 0 ≤ p0) (h : p0 % 16 = p1) (h1 : p1 ≤ 11) (h2 : p1 = 0) (h3 : p0 = 240) (h9 : 0 ≤ p1 ∧ p1 ≤ 12 ∧ 0 ≤ p2 ∧ p2 < pw p1.toNat) :
    Calls Try.prog 34 #[srcV g] w fun e w' => e = .returned (.tuple #[.int .i64 (p0 / 16), .int .i64 (numT (p0, p1, p2)), .int .i64 0]) ∧ w.grownBy w' (some g) ∧ PSrc G g A c l w' (u + 1) := by
  have HN := veil (pnext_some G g c u A l _ w hs hG hl ht)
  have hgw := hs.1.lt
  clear hs ht
  unfold tokV at HN
  have HBk := veil (fun W => back_any p1 p2 W)
  rw [show eB p1 p2 = 0 from if_pos h9, show oB p1 p2 = numT (p0, p1, p2) from if_pos h9] at HBk
  clear h9
  generalize numT (p0, p1, p2) = n at *
  have hn0 : ¬ p0 < 0 := by omega
  have hn1 : ¬ 11 < p1 := by omega
  subst h2 h3
  go_enter Try.func34, Try.ntmps34
  go_wp2_with fail
  refine HN.out.mono ?_
  rintro e w1 ⟨rfl, hg1, hs1⟩
  obtain ⟨hg2, hs2⟩ := boxed_tok hg1 hs1 hG hgw [.int .i64 240, .int .i64 0, .int .i64 p2] 30
  have HBt := Blk.new w1 [.int .i64 240, .int .i64 0, .int .i64 p2] 30
  have k0 := HBt.cell (i := 0) (v := .int .i64 240) rfl
  have k1 := HBt.cell (i := 1) (v := .int .i64 0) rfl
  have k2 := HBt.cell (i := 2) (v := .int .i64 p2) rfl
  clear HBt
  go_wp2_with fail
  obtain ⟨W2, hW2⟩ : ∃ W2, W2 = w1.alloc (.cells #[.int .i64 240, .int .i64 0, .int .i64 p2] 30) := ⟨_, rfl⟩
  rw [← hW2] at hg2 hs2 k0 k1 k2 ⊢
  clear hW2
  go_quiet (fail)
  go_wp2_with fail
  refine (HBk.out _).mono ?_
  rintro e w3 ⟨rfl, rfl⟩
  go_wp2
  go_ret3
  exact ⟨rfl, drewN_g hg2 _, hs2⟩
theorem rest_bad (G g c u : Nat) (A : Option Addr) (l : List (Int × Int × Int)) (t : Int × Int × Int) (w : World) (hs : PSrc G g A c l w u) (hG : G ≤ g) (hl : l.length ≤ maxLen) (ht : l[u]? = some t) (h : okQ t = false) :
    Calls Try.prog 34 #[srcV g] w fun e w' => e = .returned (.tuple #[.int .i64 0, .int .i64 0, .int .i64 4]) ∧ w.grownBy w' (some g) := by
  obtain ⟨p0, p1, p2⟩ := t
  have hn : ¬ ((0 ≤ p1 ∧ p1 ≤ 12 ∧ 0 ≤ p2 ∧ p2 < pw p1.toNat) ∧ 0 ≤ p0 ∧ p0 % 16 = p1 ∧ p1 ≤ 11 ∧ (p1 = 0 → p0 = 0 ∨ p0 = 240)) := fun q => by
    have : okQ (p0, p1, p2) = true := by
      unfold okQ fitT
      rw [Bool.and_eq_true]
      exact ⟨decide_eq_true q.1, decide_eq_true q.2⟩
    rw [this] at h; cases h
  by_cases h0 : 0 ≤ p0
  · by_cases h1 : p0 % 16 = p1
    · by_cases h2 : 11 < p1
      · exact rest_bad3 G g c u A l p0 p1 p2 w hs hG hl ht h0 h1 h2
      · by_cases h3 : p1 = 0
        · by_cases h4 : p0 = 0
          · exact rest_bad5B G g c u A l p0 p1 p2 w hs hG hl ht h0 h1 (by omega) h3 h4 (fun q => hn ⟨q, h0, h1, by omega, fun _ => .inl h4⟩)
          · by_cases h5 : p0 = 240
            · exact rest_bad5C G g c u A l p0 p1 p2 w hs hG hl ht h0 h1 (by omega) h3 h5 (fun q => hn ⟨q, h0, h1, by omega, fun _ => .inr h5⟩)
            · exact rest_bad4 G g c u A l p0 p1 p2 w hs hG hl ht h0 h1 h3 h4 h5
        · exact rest_bad5A G g c u A l p0 p1 p2 w hs hG hl ht h0 h1 (by omega) h3 (fun q => hn ⟨q, h0, h1, by omega, fun e => absurd e h3⟩)
    · exact rest_bad2 G g c u A l p0 p1 p2 w hs hG hl ht h0 (fun e => h1 e.symm)
  · exact rest_bad1 G g c u A l p0 p1 p2 w hs hG hl ht (by omega)
theorem rest_ok (G g c u : Nat) (A : Option Addr) (l : List (Int × Int × Int)) (t : Int × Int × Int) (w : World) (hs : PSrc G g A c l w u) (hG : G ≤ g) (hl : l.length ≤ maxLen) (ht : l[u]? = some t) (hp : t.1 ≤ 9223372036854775807) (h : okQ t = true) :
    Calls Try.prog 34 #[srcV g] w fun e w' => e = .returned (.tuple #[.int .i64 (t.1 / 16), .int .i64 (numT t), .int .i64 0]) ∧ w.grownBy w' (some g) ∧ PSrc G g A c l w' (u + 1) := by
  obtain ⟨p0, p1, p2⟩ := t
  obtain ⟨h9, h0, h1, h2, h3⟩ := okQ_fit h
  simp only [] at h9 h0 h1 h2 h3 hp
  by_cases h4 : p1 = 0
  · rcases h3 h4 with h5 | h5
    · exact rest_okB G g c u A l p0 p1 p2 w hs hG hl ht h0 h1 h2 h4 h5 h9
    · exact rest_okC G g c u A l p0 p1 p2 w hs hG hl ht h0 h1 h2 h4 h5 h9
  · exact rest_okA G g c u A l p0 p1 p2 w hs hG hl ht h0 h1 h2 h4 hp h9
end Go.Proofs.Ytemckjkdlbipcaa
