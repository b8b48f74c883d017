/- Texts shared by the claims of this seat, in one. -/
import Derived.Test.YtddkhkpdbjjboaaGreatBd7
import Derived.Test.YtddkhkpdbjjboaaGreatBd6
import Derived.Deep.Cut
import Derived.Test.YtddkhkpdbjjboaaGreatBd2
import Derived.Test.YtddkhkpdbjjboaaGreatBd1
import Derived.Test.YtddkhkpdbjjboaaGreatBd5
/- run.readRest over a list of tokens: its contract. -/
namespace Go.Proofs.YtddkhkpdbjjboaaGreat
open Go.RowKit
set_option linter.unusedVariables false
set_option linter.unusedSimpArgs false
set_option maxRecDepth 100000

theorem drewN_g {w w1 : World} {g : Nat} (h : w.grownBy w1 (some g)) (n : Nat) : w.grownBy (w1.drewN n) (some g) := ⟨h.os, h.tape, h.output, h.size, h.block⟩
set_option maxHeartbeats 2000000 in
theorem rest_bad1 (G g c u : Nat) (A : Option Addr) (l : List (Int × Int × Int)) (p0 p1 p2 : Int) (w : World) (hs : PSrc G g A c l w u) (hG : G ≤ g) (hl : l.length ≤ maxLen) (ht : l[u]? = some (p0, p1, p2)) (h : p0 < 0) :
    Calls Tryz.prog 90 #[srcV g] w fun e w' => e = .returned (.tuple #[.int .i64 0, .int .i64 0, .int .i64 4]) ∧ w.grownBy w' (some g) := by
  have HN := veil (pnext_some G g c u A l _ w hs hG hl ht)
  have hgw := hs.1.lt
  clear hs ht
  unfold tokV at HN
  skip
  go_enter Tryz.func90, Tryz.ntmps90
  go_wp2_with fail
  refine HN.out.mono ?_
  rintro e w1 ⟨rfl, hg1, hs1⟩
  obtain ⟨hg2, hs2⟩ := boxed_tok hg1 hs1 hG hgw [.int .i64 p0, .int .i64 p1, .int .i64 p2] 73
  have HBt := Blk.new w1 [.int .i64 p0, .int .i64 p1, .int .i64 p2] 73
  have k0 := HBt.cell (i := 0) (v := .int .i64 p0) rfl
  have k1 := HBt.cell (i := 1) (v := .int .i64 p1) rfl
  have k2 := HBt.cell (i := 2) (v := .int .i64 p2) rfl
  clear HBt
  go_wp2_with fail
  obtain ⟨W2, hW2⟩ : ∃ W2, W2 = w1.alloc (.cells #[.int .i64 p0, .int .i64 p1, .int .i64 p2] 73) := ⟨_, rfl⟩
  rw [← hW2] at hg2 hs2 k0 k1 k2 ⊢
  clear hW2
  go_quiet (fail)
  go_wp2
  go_ret3
  exact ⟨rfl, drewN_g hg2 _⟩
set_option maxHeartbeats 2000000 in
theorem rest_bad2 (G g c u : Nat) (A : Option Addr) (l : List (Int × Int × Int)) (p0 p1 p2 : Int) (w : World) (hs : PSrc G g A c l w u) (hG : G ≤ g) (hl : l.length ≤ maxLen) (ht : l[u]? = some (p0, p1, p2)) (h0 : 0 ≤ p0) (h : p1 ≠ p0 % 16) :
    Calls Tryz.prog 90 #[srcV g] w fun e w' => e = .returned (.tuple #[.int .i64 0, .int .i64 0, .int .i64 4]) ∧ w.grownBy w' (some g) := by
  have HN := veil (pnext_some G g c u A l _ w hs hG hl ht)
  have hgw := hs.1.lt
  clear hs ht
  unfold tokV at HN
  have hne : (p1 != p0 % 16) = true := by simpa using h
  have hn0 : ¬ p0 < 0 := by omega
  go_enter Tryz.func90, Tryz.ntmps90
  go_wp2_with fail
  refine HN.out.mono ?_
  rintro e w1 ⟨rfl, hg1, hs1⟩
  obtain ⟨hg2, hs2⟩ := boxed_tok hg1 hs1 hG hgw [.int .i64 p0, .int .i64 p1, .int .i64 p2] 73
  have HBt := Blk.new w1 [.int .i64 p0, .int .i64 p1, .int .i64 p2] 73
  have k0 := HBt.cell (i := 0) (v := .int .i64 p0) rfl
  have k1 := HBt.cell (i := 1) (v := .int .i64 p1) rfl
  have k2 := HBt.cell (i := 2) (v := .int .i64 p2) rfl
  clear HBt
  go_wp2_with fail
  obtain ⟨W2, hW2⟩ : ∃ W2, W2 = w1.alloc (.cells #[.int .i64 p0, .int .i64 p1, .int .i64 p2] 73) := ⟨_, rfl⟩
  rw [← hW2] at hg2 hs2 k0 k1 k2 ⊢
  clear hW2
  go_quiet (fail)
  go_wp2
  go_ret3
  exact ⟨rfl, drewN_g hg2 _⟩
set_option maxHeartbeats 2000000 in
theorem rest_bad3 (G g c u : Nat) (A : Option Addr) (l : List (Int × Int × Int)) (p0 p1 p2 : Int) (w : World) (hs : PSrc G g A c l w u) (hG : G ≤ g) (hl : l.length ≤ maxLen) (ht : l[u]? = some (p0, p1, p2)) (h0 : 0 ≤ p0) (h : p0 % 16 = p1) (h2 : 11 < p1) :
    Calls Tryz.prog 90 #[srcV g] w fun e w' => e = .returned (.tuple #[.int .i64 0, .int .i64 0, .int .i64 4]) ∧ w.grownBy w' (some g) := by
  have HN := veil (pnext_some G g c u A l _ w hs hG hl ht)
  have hgw := hs.1.lt
  clear hs ht
  unfold tokV at HN
  have hn0 : ¬ p0 < 0 := by omega
  go_enter Tryz.func90, Tryz.ntmps90
  go_wp2_with fail
  refine HN.out.mono ?_
  rintro e w1 ⟨rfl, hg1, hs1⟩
  obtain ⟨hg2, hs2⟩ := boxed_tok hg1 hs1 hG hgw [.int .i64 p0, .int .i64 p1, .int .i64 p2] 73
  have HBt := Blk.new w1 [.int .i64 p0, .int .i64 p1, .int .i64 p2] 73
  have k0 := HBt.cell (i := 0) (v := .int .i64 p0) rfl
  have k1 := HBt.cell (i := 1) (v := .int .i64 p1) rfl
  have k2 := HBt.cell (i := 2) (v := .int .i64 p2) rfl
  clear HBt
  go_wp2_with fail
  obtain ⟨W2, hW2⟩ : ∃ W2, W2 = w1.alloc (.cells #[.int .i64 p0, .int .i64 p1, .int .i64 p2] 73) := ⟨_, rfl⟩
  rw [← hW2] at hg2 hs2 k0 k1 k2 ⊢
  clear hW2
  go_quiet (fail)
  go_wp2
  go_ret3
  exact ⟨rfl, drewN_g hg2 _⟩
set_option maxHeartbeats 2000000 in
theorem rest_bad4 (G g c u : Nat) (A : Option Addr) (l : List (Int × Int × Int)) (p0 p1 p2 : Int) (w : World) (hs : PSrc G g A c l w u) (hG : G ≤ g) (hl : l.length ≤ maxLen) (ht : l[u]? = some (p0, p1, p2)) (h0 : 0 ≤ p0) (h : p0 % 16 = p1) (h2 : p1 = 0) (h3 : p0 ≠ 0) (h4 : p0 ≠ 240) :
    Calls Tryz.prog 90 #[srcV g] w fun e w' => e = .returned (.tuple #[.int .i64 0, .int .i64 0, .int .i64 4]) ∧ w.grownBy w' (some g) := by
  have HN := veil (pnext_some G g c u A l _ w hs hG hl ht)
  have hgw := hs.1.lt
  clear hs ht
  unfold tokV at HN
  subst h2
  have hn0 : ¬ p0 < 0 := by omega
  have h5 : (p0 != 0) = true := by simpa using h3
  have h6 : (p0 != 240) = true := by simpa using h4
  go_enter Tryz.func90, Tryz.ntmps90
  go_wp2_with fail
  refine HN.out.mono ?_
  rintro e w1 ⟨rfl, hg1, hs1⟩
  obtain ⟨hg2, hs2⟩ := boxed_tok hg1 hs1 hG hgw [.int .i64 p0, .int .i64 0, .int .i64 p2] 73
  have HBt := Blk.new w1 [.int .i64 p0, .int .i64 0, .int .i64 p2] 73
  have k0 := HBt.cell (i := 0) (v := .int .i64 p0) rfl
  have k1 := HBt.cell (i := 1) (v := .int .i64 0) rfl
  have k2 := HBt.cell (i := 2) (v := .int .i64 p2) rfl
  clear HBt
  go_wp2_with fail
  obtain ⟨W2, hW2⟩ : ∃ W2, W2 = w1.alloc (.cells #[.int .i64 p0, .int .i64 0, .int .i64 p2] 73) := ⟨_, rfl⟩
  rw [← hW2] at hg2 hs2 k0 k1 k2 ⊢
  clear hW2
  go_quiet (fail)
  go_wp2
  go_ret3
  exact ⟨rfl, drewN_g hg2 _⟩
set_option maxHeartbeats 2000000 in
theorem rest_bad5A (G g c u : Nat) (A : Option Addr) (l : List (Int × Int × Int)) (p0 p1 p2 : Int) (w : World) (hs : PSrc G g A c l w u) (hG : G ≤ g) (hl : l.length ≤ maxLen) (ht : l[u]? = some (p0, p1, p2)) (h0 : 0 ≤ p0) (h : p0 % 16 = p1) (h1 : p1 ≤ 11) (h2 : p1 ≠ 0) (h9 : ¬ (0 ≤ p1 ∧ p1 ≤ 12 ∧ 0 ≤ p2 ∧ p2 < pw p1.toNat)) :
    Calls Tryz.prog 90 #[srcV g] w fun e w' => e = .returned (.tuple #[.int .i64 0, .int .i64 0, .int .i64 4]) ∧ w.grownBy w' (some g) := by
  have HN := veil (pnext_some G g c u A l _ w hs hG hl ht)
  have hgw := hs.1.lt
  clear hs ht
  unfold tokV at HN
  have HBk := veil (fun W => back_any p1 p2 W)
  rw [eB_bad h9, oB_bad h9] at HBk
  clear h9
  have hn0 : ¬ p0 < 0 := by omega
  have hn1 : ¬ 11 < p1 := by omega
  have h5 : (p1 == 0) = false := by simpa using h2
  go_enter Tryz.func90, Tryz.ntmps90
  go_wp2_with fail
  refine HN.out.mono ?_
  rintro e w1 ⟨rfl, hg1, hs1⟩
  obtain ⟨hg2, hs2⟩ := boxed_tok hg1 hs1 hG hgw [.int .i64 p0, .int .i64 p1, .int .i64 p2] 73
  have HBt := Blk.new w1 [.int .i64 p0, .int .i64 p1, .int .i64 p2] 73
  have k0 := HBt.cell (i := 0) (v := .int .i64 p0) rfl
  have k1 := HBt.cell (i := 1) (v := .int .i64 p1) rfl
  have k2 := HBt.cell (i := 2) (v := .int .i64 p2) rfl
  clear HBt
  go_wp2_with fail
  obtain ⟨W2, hW2⟩ : ∃ W2, W2 = w1.alloc (.cells #[.int .i64 p0, .int .i64 p1, .int .i64 p2] 73) := ⟨_, rfl⟩
  rw [← hW2] at hg2 hs2 k0 k1 k2 ⊢
  clear hW2
  go_quiet (fail)
  go_wp2_with fail
  refine (HBk.out _).mono ?_
  rintro e w3 ⟨rfl, rfl⟩
  go_wp2
  go_ret3
  exact ⟨rfl, drewN_g hg2 _⟩
set_option maxHeartbeats 2000000 in
theorem rest_okA (G g c u : Nat) (A : Option Addr) (l : List (Int × Int × Int)) (p0 p1 p2 : Int) (w : World) (hs : PSrc G g A c l w u) (hG : G ≤ g) (hl : l.length ≤ maxLen) (ht : l[u]? = some (p0, p1, p2)) (h0 : 0 ≤ p0) (h : p0 % 16 = p1) (h1 : p1 ≤ 11) (h2 : p1 ≠ 0) (hp : p0 ≤ 9223372036854775807) (h9 : 0 ≤ p1 ∧ p1 ≤ 12 ∧ 0 ≤ p2 ∧ p2 < pw p1.toNat) :
    Calls Tryz.prog 90 #[srcV g] w fun e w' => e = .returned (.tuple #[.int .i64 (p0 / 16), .int .i64 (numT (p0, p1, p2)), .int .i64 0]) ∧ w.grownBy w' (some g) ∧ PSrc G g A c l w' (u + 1) := by
  have HN := veil (pnext_some G g c u A l _ w hs hG hl ht)
  have hgw := hs.1.lt
  clear hs ht
  unfold tokV at HN
  have HBk := veil (fun W => back_any p1 p2 W)
  rw [show eB p1 p2 = 0 from if_pos h9, show oB p1 p2 = numT (p0, p1, p2) from if_pos h9] at HBk
  clear h9
  generalize numT (p0, p1, p2) = n at *
  have hn0 : ¬ p0 < 0 := by omega
  have hn1 : ¬ 11 < p1 := by omega
  have h5 : (p1 == 0) = false := by simpa using h2
  go_enter Tryz.func90, Tryz.ntmps90
  go_wp2_with fail
  refine HN.out.mono ?_
  rintro e w1 ⟨rfl, hg1, hs1⟩
  obtain ⟨hg2, hs2⟩ := boxed_tok hg1 hs1 hG hgw [.int .i64 p0, .int .i64 p1, .int .i64 p2] 73
  have HBt := Blk.new w1 [.int .i64 p0, .int .i64 p1, .int .i64 p2] 73
  have k0 := HBt.cell (i := 0) (v := .int .i64 p0) rfl
  have k1 := HBt.cell (i := 1) (v := .int .i64 p1) rfl
  have k2 := HBt.cell (i := 2) (v := .int .i64 p2) rfl
  clear HBt
  go_wp2_with fail
  obtain ⟨W2, hW2⟩ : ∃ W2, W2 = w1.alloc (.cells #[.int .i64 p0, .int .i64 p1, .int .i64 p2] 73) := ⟨_, rfl⟩
  rw [← hW2] at hg2 hs2 k0 k1 k2 ⊢
  clear hW2
  go_quiet (fail)
  go_wp2_with fail
  refine (HBk.out _).mono ?_
  rintro e w3 ⟨rfl, rfl⟩
  go_wp2
  go_ret3
  exact ⟨rfl, drewN_g hg2 _, hs2⟩
set_option maxHeartbeats 2000000 in
theorem rest_bad5B (G g c u : Nat) (A : Option Addr) (l : List (Int × Int × Int)) (p0 p1 p2 : Int) (w : World) (hs : PSrc G g A c l w u) (hG : G ≤ g) (hl : l.length ≤ maxLen) (ht : l[u]? = some (p0, p1, p2)) (h0 : 0 ≤ p0) (h : p0 % 16 = p1) (h1 : p1 ≤ 11) (h2 : p1 = 0) (h3 : p0 = 0) (h9 : ¬ (0 ≤ p1 ∧ p1 ≤ 12 ∧ 0 ≤ p2 ∧ p2 < pw p1.toNat)) :
    Calls Tryz.prog 90 #[srcV g] w fun e w' => e = .returned (.tuple #[.int .i64 0, .int .i64 0, .int .i64 4]) ∧ w.grownBy w' (some g) := by
  have HN := veil (pnext_some G g c u A l _ w hs hG hl ht)
  have hgw := hs.1.lt
  clear hs ht
  unfold tokV at HN
  have HBk := veil (fun W => back_any p1 p2 W)
  rw [eB_bad h9, oB_bad h9] at HBk
  clear h9
  have hn0 : ¬ p0 < 0 := by omega
  have hn1 : ¬ 11 < p1 := by omega
  subst h2 h3
  go_enter Tryz.func90, Tryz.ntmps90
  go_wp2_with fail
  refine HN.out.mono ?_
  rintro e w1 ⟨rfl, hg1, hs1⟩
  obtain ⟨hg2, hs2⟩ := boxed_tok hg1 hs1 hG hgw [.int .i64 0, .int .i64 0, .int .i64 p2] 73
  have HBt := Blk.new w1 [.int .i64 0, .int .i64 0, .int .i64 p2] 73
  have k0 := HBt.cell (i := 0) (v := .int .i64 0) rfl
  have k1 := HBt.cell (i := 1) (v := .int .i64 0) rfl
  have k2 := HBt.cell (i := 2) (v := .int .i64 p2) rfl
  clear HBt
  go_wp2_with fail
  obtain ⟨W2, hW2⟩ : ∃ W2, W2 = w1.alloc (.cells #[.int .i64 0, .int .i64 0, .int .i64 p2] 73) := ⟨_, rfl⟩
  rw [← hW2] at hg2 hs2 k0 k1 k2 ⊢
  clear hW2
  go_quiet (fail)
  go_wp2_with fail
  refine (HBk.out _).mono ?_
  rintro e w3 ⟨rfl, rfl⟩
  go_wp2
  go_ret3
  exact ⟨rfl, drewN_g hg2 _⟩
set_option maxHeartbeats 2000000 in
theorem rest_okB (G g c u : Nat) (A : Option Addr) (l : List (Int × Int × Int)) (p0 p1 p2 : Int) (w : World) (hs : PSrc G g A c l w u) (hG : G ≤ g) (hl : l.length ≤ maxLen) (ht : l[u]? = some (p0, p1, p2)) (h0 : 0 ≤ p0) (h : p0 % 16 = p1) (h1 : p1 ≤ 11) (h2 : p1 = 0) (h3 : p0 = 0) (h9 : 0 ≤ p1 ∧ p1 ≤ 12 ∧ 0 ≤ p2 ∧ p2 < pw p1.toNat) :
    Calls Tryz.prog 90 #[srcV g] w fun e w' => e = .returned (.tuple #[.int .i64 (p0 / 16), .int .i64 (numT (p0, p1, p2)), .int .i64 0]) ∧ w.grownBy w' (some g) ∧ PSrc G g A c l w' (u + 1) := by
  have HN := veil (pnext_some G g c u A l _ w hs hG hl ht)
  have hgw := hs.1.lt
  clear hs ht
  unfold tokV at HN
  have HBk := veil (fun W => back_any p1 p2 W)
  rw [show eB p1 p2 = 0 from if_pos h9, show oB p1 p2 = numT (p0, p1, p2) from if_pos h9] at HBk
  clear h9
  generalize numT (p0, p1, p2) = n at *
  have hn0 : ¬ p0 < 0 := by omega
  have hn1 : ¬ 11 < p1 := by omega
  subst h2 h3
  go_enter Tryz.func90, Tryz.ntmps90
  go_wp2_with fail
  refine HN.out.mono ?_
  rintro e w1 ⟨rfl, hg1, hs1⟩
  obtain ⟨hg2, hs2⟩ := boxed_tok hg1 hs1 hG hgw [.int .i64 0, .int .i64 0, .int .i64 p2] 73
  have HBt := Blk.new w1 [.int .i64 0, .int .i64 0, .int .i64 p2] 73
  have k0 := HBt.cell (i := 0) (v := .int .i64 0) rfl
  have k1 := HBt.cell (i := 1) (v := .int .i64 0) rfl
  have k2 := HBt.cell (i := 2) (v := .int .i64 p2) rfl
  clear HBt
  go_wp2_with fail
  obtain ⟨W2, hW2⟩ : ∃ W2, W2 = w1.alloc (.cells #[.int .i64 0, .int .i64 0, .int .i64 p2] 73) := ⟨_, rfl⟩
  rw [← hW2] at hg2 hs2 k0 k1 k2 ⊢
  clear hW2
  go_quiet (fail)
  go_wp2_with fail
  refine (HBk.out _).mono ?_
  rintro e w3 ⟨rfl, rfl⟩
  go_wp2
  go_ret3
  exact ⟨rfl, drewN_g hg2 _, hs2⟩
set_option maxHeartbeats 2000000 in
theorem rest_bad5C (G g c u : Nat) (A : Option Addr) (l : List (Int × Int × Int)) (p0 p1 p2 : Int) (w : World) (hs : PSrc G g A c l w u) (hG : G ≤ g) (hl : l.length ≤ maxLen) (ht : l[u]? = some (p0, p1, p2)) (h0 : 0 ≤ p0) (h : p0 % 16 = p1) (h1 : p1 ≤ 11) (h2 : p1 = 0) (h3 : p0 = 240) (h9 : ¬ (0 ≤ p1 ∧ p1 ≤ 12 ∧ 0 ≤ p2 ∧ p2 < pw p1.toNat)) :
    Calls Tryz.prog 90 #[srcV g] w fun e w' => e = .returned (.tuple #[.int .i64 0, .int .i64 0, .int .i64 4]) ∧ w.grownBy w' (some g) := by
  have HN := veil (pnext_some G g c u A l _ w hs hG hl ht)
  have hgw := hs.1.lt
  clear hs ht
  unfold tokV at HN
  have HBk := veil (fun W => back_any p1 p2 W)
  rw [eB_bad h9, oB_bad h9] at HBk
  clear h9
  have hn0 : ¬ p0 < 0 := by omega
  have hn1 : ¬ 11 < p1 := by omega
  subst h2 h3
  go_enter Tryz.func90, Tryz.ntmps90
  go_wp2_with fail
  refine HN.out.mono ?_
  rintro e w1 ⟨rfl, hg1, hs1⟩
  obtain ⟨hg2, hs2⟩ := boxed_tok hg1 hs1 hG hgw [.int .i64 240, .int .i64 0, .int .i64 p2] 73
  have HBt := Blk.new w1 [.int .i64 240, .int .i64 0, .int .i64 p2] 73
  have k0 := HBt.cell (i := 0) (v := .int .i64 240) rfl
  have k1 := HBt.cell (i := 1) (v := .int .i64 0) rfl
  have k2 := HBt.cell (i := 2) (v := .int .i64 p2) rfl
  clear HBt
  go_wp2_with fail
  obtain ⟨W2, hW2⟩ : ∃ W2, W2 = w1.alloc (.cells #[.int .i64 240, .int .i64 0, .int .i64 p2] 73) := ⟨_, rfl⟩
  rw [← hW2] at hg2 hs2 k0 k1 k2 ⊢
  clear hW2
  go_quiet (fail)
  go_wp2_with fail
  refine (HBk.out _).mono ?_
  rintro e w3 ⟨rfl, rfl⟩
  go_wp2
  go_ret3
  exact ⟨rfl, drewN_g hg2 _⟩
set_option maxHeartbeats 2000000 in
theorem rest_okC (G g c u : Nat) (A : Option Addr) (l : List (Int × Int × Int)) (p0 p1 p2 : Int) (w : World) (hs : PSrc G g A c l w u) (hG : G ≤ g) (hl : l.length ≤ maxLen) (ht : l[u]? = some (p0, p1, p2)) (h0 : 0 ≤ p0) (h : p0 % 16 = p1) (h1 : p1 ≤ 11) (h2 : p1 = 0) (h3 : p0 = 240) (h9 : 0 ≤ p1 ∧ p1 ≤ 12 ∧ 0 ≤ p2 ∧ p2 < pw p1.toNat) :
    Calls Tryz.prog 90 #[srcV g] w fun e w' => e = .returned (.tuple #[.int .i64 (p0 / 16), .int .i64 (numT (p0, p1, p2)), .int .i64 0]) ∧ w.grownBy w' (some g) ∧ PSrc G g A c l w' (u + 1) := by
  have HN := veil (pnext_some G g c u A l _ w hs hG hl ht)
  have hgw := hs.1.lt
  clear hs ht
  unfold tokV at HN
  have HBk := veil (fun W => back_any p1 p2 W)
  rw [show eB p1 p2 = 0 from if_pos h9, show oB p1 p2 = numT (p0, p1, p2) from if_pos h9] at HBk
  clear h9
  generalize numT (p0, p1, p2) = n at *
  have hn0 : ¬ p0 < 0 := by omega
  have hn1 : ¬ 11 < p1 := by omega
  subst h2 h3
  go_enter Tryz.func90, Tryz.ntmps90
  go_wp2_with fail
  refine HN.out.mono ?_
  rintro e w1 ⟨rfl, hg1, hs1⟩
  obtain ⟨hg2, hs2⟩ := boxed_tok hg1 hs1 hG hgw [.int .i64 240, .int .i64 0, .int .i64 p2] 73
  have HBt := Blk.new w1 [.int .i64 240, .int .i64 0, .int .i64 p2] 73
  have k0 := HBt.cell (i := 0) (v := .int .i64 240) rfl
  have k1 := HBt.cell (i := 1) (v := .int .i64 0) rfl
  have k2 := HBt.cell (i := 2) (v := .int .i64 p2) rfl
  clear HBt
  go_wp2_with fail
  obtain ⟨W2, hW2⟩ : ∃ W2, W2 = w1.alloc (.cells #[.int .i64 240, .int .i64 0, .int .i64 p2] 73) := ⟨_, rfl⟩
  rw [← hW2] at hg2 hs2 k0 k1 k2 ⊢
  clear hW2
  go_quiet (fail)
  go_wp2_with fail
  refine (HBk.out _).mono ?_
  rintro e w3 ⟨rfl, rfl⟩
  go_wp2
  go_ret3
  exact ⟨rfl, drewN_g hg2 _, hs2⟩
theorem rest_bad (G g c u : Nat) (A : Option Addr) (l : List (Int × Int × Int)) (t : Int × Int × Int) (w : World) (hs : PSrc G g A c l w u) (hG : G ≤ g) (hl : l.length ≤ maxLen) (ht : l[u]? = some t) (h : okQ t = false) :
    Calls Tryz.prog 90 #[srcV g] w fun e w' => e = .returned (.tuple #[.int .i64 0, .int .i64 0, .int .i64 4]) ∧ w.grownBy w' (some g) := by
  obtain ⟨p0, p1, p2⟩ := t
  have hn : ¬ ((0 ≤ p1 ∧ p1 ≤ 12 ∧ 0 ≤ p2 ∧ p2 < pw p1.toNat) ∧ 0 ≤ p0 ∧ p0 % 16 = p1 ∧ p1 ≤ 11 ∧ (p1 = 0 → p0 = 0 ∨ p0 = 240)) := fun q => by
    have : okQ (p0, p1, p2) = true := by
      unfold okQ fitT
      rw [Bool.and_eq_true]
      exact ⟨decide_eq_true q.1, decide_eq_true q.2⟩
    rw [this] at h; cases h
  by_cases h0 : 0 ≤ p0
  · by_cases h1 : p0 % 16 = p1
    · by_cases h2 : 11 < p1
      · exact rest_bad3 G g c u A l p0 p1 p2 w hs hG hl ht h0 h1 h2
      · by_cases h3 : p1 = 0
        · by_cases h4 : p0 = 0
          · exact rest_bad5B G g c u A l p0 p1 p2 w hs hG hl ht h0 h1 (by omega) h3 h4 (fun q => hn ⟨q, h0, h1, by omega, fun _ => .inl h4⟩)
          · by_cases h5 : p0 = 240
            · exact rest_bad5C G g c u A l p0 p1 p2 w hs hG hl ht h0 h1 (by omega) h3 h5 (fun q => hn ⟨q, h0, h1, by omega, fun _ => .inr h5⟩)
            · exact rest_bad4 G g c u A l p0 p1 p2 w hs hG hl ht h0 h1 h3 h4 h5
        · exact rest_bad5A G g c u A l p0 p1 p2 w hs hG hl ht h0 h1 (by omega) h3 (fun q => hn ⟨q, h0, h1, by omega, fun e => absurd e h3⟩)
    · exact rest_bad2 G g c u A l p0 p1 p2 w hs hG hl ht h0 (fun e => h1 e.symm)
  · exact rest_bad1 G g c u A l p0 p1 p2 w hs hG hl ht (by omega)
theorem rest_ok (G g c u : Nat) (A : Option Addr) (l : List (Int × Int × Int)) (t : Int × Int × Int) (w : World) (hs : PSrc G g A c l w u) (hG : G ≤ g) (hl : l.length ≤ maxLen) (ht : l[u]? = some t) (hp : t.1 ≤ 9223372036854775807) (h : okQ t = true) :
    Calls Tryz.prog 90 #[srcV g] w fun e w' => e = .returned (.tuple #[.int .i64 (t.1 / 16), .int .i64 (numT t), .int .i64 0]) ∧ w.grownBy w' (some g) ∧ PSrc G g A c l w' (u + 1) := by
  obtain ⟨p0, p1, p2⟩ := t
  obtain ⟨h9, h0, h1, h2, h3⟩ := okQ_fit h
  simp only [] at h9 h0 h1 h2 h3 hp
  by_cases h4 : p1 = 0
  · rcases h3 h4 with h5 | h5
    · exact rest_okB G g c u A l p0 p1 p2 w hs hG hl ht h0 h1 h2 h4 h5 h9
    · exact rest_okC G g c u A l p0 p1 p2 w hs hG hl ht h0 h1 h2 h4 h5 h9
  · exact rest_okA G g c u A l p0 p1 p2 w hs hG hl ht h0 h1 h2 h4 hp h9
end Go.Proofs.YtddkhkpdbjjboaaGreat

/- run.read over a list of tokens: its contract. -/
namespace Go.Proofs.YtddkhkpdbjjboaaGreat
open Go.RowKit
set_option linter.unusedVariables false
set_option linter.unusedSimpArgs false
set_option maxRecDepth 100000

/-- A block's numbers out of tokens, whether they are its tokens or not. -/
def decF (b : Int) (l : List (Int × Int × Int)) : Int × List Int × Nat :=
  match l with
  | [] => (3, [], 0)
  | t :: l => if firstT b t then joinQ [b + numT t] 1 (decQ 63 l) else (4, [], 0)
def outP (D : Int × List Int × Nat) : List Int := if D.1 = 0 then fromL D.2.1 else zero64
theorem outP_length (D : Int × List Int × Nat) : (outP D).length = 64 := by
  unfold outP; split
  · exact fromL_length _
  · exact zero64_length
/-- What the loop keeps. -/
structure RLoop (G g : Nat) (A : Option Addr) (c : Nat) (l : List (Int × Int × Int)) (w : World) (D : Int × List Int × Nat) (k n : Nat) (pre : List Int) (wr : World) : Prop where
  pos : 1 ≤ k
  le : k ≤ 64
  len : pre.length = k
  size : w.heap.size + 2 ≤ wr.heap.size
  res : Blk wr w.heap.size zeroB 37
  num : Blk wr (w.heap.size + 1) (ints .i64 (pre ++ List.replicate (64 - k) 0)) 37
  src : PSrc G g A c l wr n
  kept : w.grownBy wr (some g)
  told : D = joinQ pre n (decQ (64 - k) (l.drop n))
theorem pbox2_is (w : World) : Below w.heap.size w ((w.alloc (.cells zeroB.toArray 37)).alloc (.cells zeroB.toArray 37)) ∧ Blk ((w.alloc (.cells zeroB.toArray 37)).alloc (.cells zeroB.toArray 37)) w.heap.size zeroB 37 ∧ Blk ((w.alloc (.cells zeroB.toArray 37)).alloc (.cells zeroB.toArray 37)) (w.heap.size + 1) zeroB 37 ∧ ((w.alloc (.cells zeroB.toArray 37)).alloc (.cells zeroB.toArray 37)).heap.size = w.heap.size + 2 := by
  have h2 := Blk.new (w.alloc (.cells zeroB.toArray 37)) zeroB 37
  rw [World.size_alloc] at h2
  exact ⟨below2 _ _ _, (Blk.new w zeroB 37).below (below1 _ _) (by simp), h2, by simp⟩
/-- The way out. -/
theorem read_out {G g c : Nat} {A : Option Addr} {l : List (Int × Int × Int)} {w w5 : World} {D : Int × List Int × Nat} {er : Int} {os : List Int} {a : Act} (he : D.1 = er) (ho : outP D = os)
    (h4 : a.tmps.getD 4 undef = .pointer (some ⟨w.heap.size, 0, none⟩)) (h5 : a.tmps.getD 5 undef = .int .i64 er) (hdf : a.defers = [])
    (HB : Blk w5 w.heap.size (ints .i64 os) 37) (hk : w.grownBy w5 (some g)) (hs : D.1 = 0 → PSrc G g A c l w5 D.2.2) :
    bodyPost Tryz.prog Tryz.f73 (fun e w' => e = .returned (.tuple #[blkV (outP D), .int .i64 D.1]) ∧ w.grownBy w' (some g) ∧ (D.1 = 0 → PSrc G g A c l w' D.2.2)) .ret a w5 := by
  have hl : (ints .i64 os).length = 64 := by rw [ints_length, ← ho]; exact outP_length _
  rw [ho]
  rw [he] at hs ⊢
  exact bodyPost_ret (results_row_tmp rfl _ _ w.heap.size 37 (ints .i64 os).toArray (0, 0) _ (.int .i64 er) h4 h5 HB Tryz.underlying37 rfl (by simp only [List.size_toArray]; exact info_blkn hl)) hdf ⟨rfl, hk, fun h => hs h⟩
theorem read_err {G g c : Nat} {A : Option Addr} {l : List (Int × Int × Int)} {w w5 : World} {D : Int × List Int × Nat} {er : Int} {a : Act} (hd : D = (er, [], 0)) (hne : er ≠ 0)
    (h4 : a.tmps.getD 4 undef = .pointer (some ⟨w.heap.size, 0, none⟩)) (h5 : a.tmps.getD 5 undef = .int .i64 er) (hdf : a.defers = [])
    (HB : Blk w5 w.heap.size zeroB 37) (hk : w.grownBy w5 (some g)) :
    bodyPost Tryz.prog Tryz.f73 (fun e w' => e = .returned (.tuple #[blkV (outP D), .int .i64 D.1]) ∧ w.grownBy w' (some g) ∧ (D.1 = 0 → PSrc G g A c l w' D.2.2)) .ret a w5 :=
  read_out (er := er) (os := zero64) (by rw [hd]) (by rw [hd]; exact if_neg hne) h4 h5 hdf HB hk (by rw [hd]; exact fun h => absurd h hne)
theorem set_pre {k q : Nat} {pre : List Int} {N : Int} (hlen : pre.length = k) (hk : k + q < 64) : (ints .i64 (pre ++ List.replicate (64 - k) 0)).set (k + q) (.int .i64 N) = ints .i64 ((pre ++ (List.replicate q 0 ++ [N])) ++ List.replicate (64 - (k + q + 1)) 0) := by
  rw [show (ints .i64 (pre ++ List.replicate (64 - k) 0)).set (k + q) (.int .i64 N) = ints .i64 ((pre ++ List.replicate (64 - k) 0).set (k + q) N) by simp [ints, List.map_set]]
  congr 1
  rw [← hlen] at hk ⊢
  rw [List.set_append_right _ _ (by omega), Nat.add_sub_cancel_left, List.append_assoc]
  congr 1
  rw [show 64 - pre.length = q + (1 + (64 - (pre.length + q + 1))) by omega, ← List.replicate_append_replicate, List.set_append_right _ _ (by simp), List.length_replicate, Nat.sub_self, Nat.add_comm 1, List.replicate_succ, List.set_cons_zero, List.append_assoc]
  rfl
/-- One more token. -/
theorem drop_of {l : List (Int × Int × Int)} {n : Nat} {x : Int × Int × Int} (h : l[n]? = some x) : l.drop n = x :: l.drop (n + 1) := by
  obtain ⟨hi, e⟩ := List.getElem?_eq_some_iff.1 h
  rw [List.drop_eq_getElem_cons hi, e]
theorem numT_end {t : Int × Int × Int} (hok : okQ t = true) (h0 : t.1 = 0) : numT t = 0 := by
  obtain ⟨h1, h2, h3, h4, h5⟩ := okQ_fit hok
  obtain ⟨p0, p1, p2⟩ := t
  simp only [] at h0 h1 h2 h3 h4 h5
  subst h0
  have e1 : p1 = 0 := by omega
  subst e1
  have : p2 < 1 := h1.2.2.2
  have e2 : p2 = 0 := by omega
  subst e2
  decide
theorem numT_not {t : Int × Int × Int} (hok : okQ t = true) (h0 : t.1 ≠ 0) (hq : t.1 / 16 = 0) : numT t ≠ 0 := by
  obtain ⟨h1, h2, h3, h4, h5⟩ := okQ_fit hok
  obtain ⟨p0, p1, p2⟩ := t
  simp only [] at h0 h1 h2 h3 h4 h5 hq
  intro e
  have h6 := sz_bk (w := p1.toNat) h1.2.2.1 h1.2.2.2
  unfold numT at e
  simp only [] at e
  rw [e] at h6
  have h7 : szZ 0 = 0 := by decide
  omega
set_option maxHeartbeats 8000000 in
set_option maxRecDepth 100000 in
theorem read_go (b : Int) (G g c : Nat) (A : Option Addr) (L : List (Int × Int × Int)) (t : Int × Int × Int) (D : Int × List Int × Nat) (w : World) (hb : -2047 ≤ b ∧ b ≤ 2047) (hs : PSrc G g A c L w 0) (hG : G ≤ g) (hl : L.length ≤ maxLen) (hbd : ∀ t ∈ L, t.1 ≤ 9223372036854775807)
    (ht0 : L[0]? = some t) (hf : firstT b t) (hD : D = joinQ [b + numT t] 1 (decQ 63 (L.drop 1))) :
    Calls Tryz.prog 73 #[.int .i64 b, srcV g] w fun e w' => e = .returned (.tuple #[blkV (outP D), .int .i64 D.1]) ∧ w.grownBy w' (some g) ∧ (D.1 = 0 → PSrc G g A c L w' D.2.2) := by
  have hgw := hs.1.lt
  obtain ⟨hb0, HB0, HB1, hz0⟩ := pbox2_is w
  have hs0 := hs.below hb0 hgw (by omega)
  have hk0 : w.grownBy ((w.alloc (.cells zeroB.toArray 37)).alloc (.cells zeroB.toArray 37)) (some g) := grown_below (World.grownBy.refl _ _) hb0 (Nat.le_refl _)
  have hzl := veil zeroB_length
  have hzone := ints_one (k := .i64) (l := List.replicate 64 0)
  have HF := veil (first_ok b G g c 0 A L t ((w.alloc (.cells zeroB.toArray 37)).alloc (.cells zeroB.toArray 37)) hb hs0 hG hl ht0 hf)
  have HD0 := veil hD
  have Hbd := veil hbd
  have Hlm := veil hl
  clear hs hb0 hf hs0 hD ht0 hbd hl
  generalize b + numT t = N0 at *
  clear t
  go_enter Tryz.func73, Tryz.ntmps73
  go_wp2_with fail
  refine HF.out.mono ?_
  rintro e w0 ⟨rfl, hg0, hs0⟩
  have hzz := hg0.size
  rw [hz0] at hzz
  have HB0a := HB0.kept hg0 (by simp; omega)
  have HB1a := HB1.kept hg0 (by simp; omega)
  have hkwa := hk0.trans hg0
  have hcz := HB1a.cell (i := 0) (v := .int .i64 0) rfl
  have hfz := HB1a.frozen 0
  have HB1n : Blk (w0.setCell ⟨w.heap.size + 1, 0, none⟩ (.int .i64 N0)) (w.heap.size + 1) (ints .i64 ([N0] ++ List.replicate (64 - 1) 0)) 37 := HB1a.set 0 (.int .i64 N0)
  have hgs := grown_setCell w0 (w.heap.size + 1) 0 (.int .i64 N0)
  have HL0 : Hid (RLoop G g A c L w D 1 1 [N0] (w0.setCell ⟨w.heap.size + 1, 0, none⟩ (.int .i64 N0))) :=
    ⟨by omega, by omega, rfl, by have := hgs.size; omega, HB0a.kept hgs (by simp), HB1n, hs0.kept hgs (by omega) (by omega) (by omega), grown_grown hkwa hgs (by omega), HD0.out⟩
  clear HF HB0 HB1 hz0 hk0 hg0 hs0 HB0a HB1a hkwa HB1n hgs HD0 hzz
  go_wp2_with fail
  go_loopg [9] 63 (fun gk iv wr => ∃ (k n : Nat) (pre : List Int), gk = 64 - k ∧ iv = .int .i64 (k : Int) ∧ Hid (RLoop G g A c L w D k n pre wr))
  case atStart => exact ⟨1, 1, [N0], rfl, rfl, HL0⟩
  case round =>
    clear HL0 hcz hfz
    obtain ⟨k, n, pre, rfl, rfl, HL⟩ := hrel
    have hsz : w.heap.size + 2 ≤ wr.heap.size := HL.out.size
    have hk64 := HL.out.le
    have hk1 := HL.out.pos
    by_cases hlt : k < 64
    · have hltz : (k : Int) ≤ 63 := by omega
      have hsrc := HL.out.src
      by_cases hn : n < L.length
      · obtain ⟨t1, ht1⟩ := some_at (xs := L) (j := n) hn
        have HDt : Hid (D = joinQ pre n (decQ (64 - k) (t1 :: L.drop (n + 1)))) := by show _ = _; rw [HL.out.told, drop_of ht1]
        cases hok : okQ t1 with
        | false =>
          have HR := veil (rest_bad G g c n A L t1 wr hsrc hG Hlm.out ht1 hok)
          have HDe : Hid (D = (4, [], 0)) := by show _ = _; rw [HDt.out, joinQ_bad _ _ (by omega) hok]
          clear HDt hok ht1 hsrc
          go_wp2_with fail
          refine HR.out.mono ?_
          rintro e w1 ⟨rfl, hg1⟩
          have HB6 := veil (HL.out.res.kept hg1 (by simp; omega))
          have HK6 := veil (HL.out.kept.trans hg1)
          clear HL hg1
          go_wp2_with (first
            | (refine wpList_store_blk w1 rfl 37 (.tmp 4) (.tmp 37) rfl w.heap.size zeroB zeroB 37 HB6.out rfl rfl (info_blkn hzl.out) rfl hzone ?_; intro w5 HB7 hg7)
            | fail)
          exact read_err HDe.out (by decide) rfl rfl rfl HB7 (grown_grown HK6.out hg7 (Nat.le_refl _))
        | true =>
          have HR := veil (rest_ok G g c n A L t1 wr hsrc hG Hlm.out ht1 (Hbd.out _ (List.mem_of_getElem? ht1)) hok)
          have hbt := Hbd.out _ (List.mem_of_getElem? ht1)
          clear ht1 hsrc
          by_cases h0 : t1.1 = 0
          · have hN0 := numT_end hok h0
            rw [h0, hN0] at HR
            have HD : Hid (D = (0, pre ++ List.replicate (64 - k) 0, n + 1)) := by show _ = _; rw [HDt.out, joinQ_end _ _ (by omega) hok h0]
            have HZl : Hid ((pre ++ List.replicate (64 - k) 0).length = 64) := by show _ = _; rw [List.length_append, List.length_replicate, HL.out.len]; omega
            clear hok h0 hN0 HDt
            go_wp2_with fail
            refine HR.out.mono ?_
            rintro e w1 ⟨rfl, hg1, hs1⟩
            have hz1 := hg1.size
            have HBr := HL.out.res.kept hg1 (by simp; omega)
            have HBn := HL.out.num.kept hg1 (by simp; omega)
            have hkw := HL.out.kept.trans hg1
            have hsr := hs1
            have hlen := HL.out.len
            have hszz := HL.out.size
            clear HL hg1 hlen hs1
            generalize pre ++ List.replicate (64 - k) 0 = ZS at *
            generalize n + 1 = n1 at *
            have HFr := veil (fun W' => from_any ZS W' HZl.out)
            have HlY : Hid ((ints .i64 (fromL ZS)).length = 64) := by show _ = _; rw [ints_length, fromL_length]
            have HlX : Hid ((ints .i64 ZS).length = 64) := by show _ = _; rw [ints_length, HZl.out]
            have honeY := ints_one (k := .i64) (l := fromL ZS)
            have hrZ := HBn.range
            have HDo : Hid (outP D = fromL ZS) := by show _ = _; rw [HD.out]; exact if_pos rfl
            unfold blkV at HFr
            obtain ⟨xs, hxs⟩ : ∃ xs, xs = ints .i64 ZS := ⟨_, rfl⟩
            rw [← hxs] at HFr HlX hrZ
            obtain ⟨ys, hys⟩ : ∃ ys, ys = ints .i64 (fromL ZS) := ⟨_, rfl⟩
            rw [← hys] at HFr HlY honeY
            have HYe := veil hys
            clear hxs hys HBn
            go_wp2_with (first
              | (refine wpList_load_mid rfl 37 (.tmp 6) rfl (w.heap.size + 1) 0 rfl xs _ hrZ Tryz.underlying37 rfl (info_blkn HlX.out) ?_)
              | fail)
            refine (HFr.out _).mono ?_
            rintro e w5 ⟨rfl, hb5⟩
            have hz5 := hb5.size
            have HB5 := veil (HBr.below hb5 (by omega))
            have hkw5 := veil (grown_below hkw hb5 (by have := hkw.size; omega))
            have hs5 := veil (hsr.below hb5 (by omega) (by omega))
            clear hrZ HBr hkw hsr hb5
            go_wp2_with (first
              | (refine wpList_store_blk w5 rfl 37 (.tmp 4) (.tmp 55) rfl w.heap.size zeroB ys 37 HB5.out rfl rfl (info_blkn HlY.out) (by rw [HlY.out, hzl.out]) honeY ?_; intro w9 HB9 hg9)
              | fail)
            exact read_out (er := 0) (os := fromL ZS) (by rw [HD.out]) HDo.out rfl rfl rfl (by rw [← HYe.out]; exact HB9) (grown_grown hkw5.out hg9 (Nat.le_refl _)) (fun _ => by rw [HD.out]; exact hs5.out.kept hg9 (by omega) (by omega) (by omega))
          · obtain ⟨q, hq⟩ : ∃ q : Nat, t1.1 / 16 = (q : Int) := ⟨(t1.1 / 16).toNat, by have := (okQ_fit hok).2.1; omega⟩
            have hfar : farT t1 = q + 1 := by unfold farT; rw [hq]; rfl
            have hqb : (q : Int) ≤ 576460752303423487 := by omega
            by_cases hq0 : q = 0
            · have hNn := numT_not hok h0 (by rw [hq, hq0]; rfl)
              have hqn : ((q : Int) == 0) = true := by rw [hq0]; rfl
              have hNb : (numT t1 == 0) = false := by simpa using hNn
              rw [hq] at HR
              obtain ⟨N, hN⟩ : ∃ N, N = numT t1 := ⟨_, rfl⟩
              rw [← hN] at HR hNb
              have HNe : Hid (numT t1 = N) := hN.symm
              clear hN hNn hq hq0 hbt
              by_cases hfar64 : 64 < k + (q + 1)
              · have hgt : (63 : Int) < (k : Int) + (q : Int) := by omega
                have HDe : Hid (D = (4, [], 0)) := by
                  show _ = _
                  rw [HDt.out, joinQ_far _ _ (by omega) hok h0 (by rw [hfar]; omega)]
                clear hok hfar h0 HDt
                go_wp2_with fail
                refine HR.out.mono ?_
                rintro e w1 ⟨rfl, hg1, hs1⟩
                have hz1 := hg1.size
                have HBr := HL.out.res.kept hg1 (by simp; omega)
                have HBn := HL.out.num.kept hg1 (by simp; omega)
                have hkw := HL.out.kept.trans hg1
                have hsr := hs1
                have hlen := HL.out.len
                have hszz := HL.out.size
                have HB6 := veil HBr
                have HK6 := veil hkw
                clear HL HBn hs1 hsr HBr hkw hg1
                go_wp2_with (first
                  | (refine wpList_store_blk w1 rfl 37 (.tmp 4) (.tmp 50) rfl w.heap.size zeroB zeroB 37 HB6.out rfl rfl (info_blkn hzl.out) rfl hzone ?_; intro w5 HB7 hg7)
                  | fail)
                exact read_err HDe.out (by decide) rfl rfl rfl HB7 (grown_grown HK6.out hg7 (Nat.le_refl _))
              · obtain ⟨m, hm⟩ : ∃ m : Nat, m = k + q := ⟨_, rfl⟩
                have hmz : (k : Int) + (q : Int) = (m : Int) := by omega
                have hle : ¬ (63 : Int) < (m : Int) := by omega
                have hml : (m : Int) < 64 := by omega
                have hmn : m ≤ 63 := by omega
                have HD1 : Hid (D = joinQ (pre ++ (List.replicate q 0 ++ [N])) (n + 1) (decQ (64 - (m + 1)) (L.drop (n + 1)))) := by
                  show _ = _
                  rw [HDt.out, joinQ_next _ _ hok h0 (by rw [hfar]; omega), hfar, HNe.out, show 64 - k - (q + 1) = 64 - (m + 1) by omega, Nat.add_sub_cancel]
                clear hok hfar h0 HDt
                go_wp2_with fail
                refine HR.out.mono ?_
                rintro e w1 ⟨rfl, hg1, hs1⟩
                have hz1 := hg1.size
                have HBr := HL.out.res.kept hg1 (by simp; omega)
                have HBn := HL.out.num.kept hg1 (by simp; omega)
                have hkw := HL.out.kept.trans hg1
                have hsr := hs1
                have hlen := HL.out.len
                have hszz := HL.out.size
                obtain ⟨y, hy⟩ := some_at (xs := pre ++ List.replicate (64 - k) 0) (j := m) (by rw [List.length_append, List.length_replicate]; omega)
                have hcz := HBn.cell (ints_at hy)
                have hfz := HBn.frozen m
                have HB1n := HBn.set m (.int .i64 N)
                rw [show (ints .i64 (pre ++ List.replicate (64 - k) 0)).set m (.int .i64 N) = ints .i64 ((pre ++ (List.replicate q 0 ++ [N])) ++ List.replicate (64 - (m + 1)) 0) by rw [hm]; exact set_pre hlen (by omega)] at HB1n
                have hgs := grown_setCell w1 (w.heap.size + 1) m (.int .i64 N)
                have HLn : Hid (RLoop G g A c L w D (m + 1) (n + 1) (pre ++ (List.replicate q 0 ++ [N])) (w1.setCell ⟨w.heap.size + 1, m, none⟩ (.int .i64 N))) :=
                  ⟨by omega, by omega, by simp [hlen]; omega, by have := hgs.size; omega, HBr.kept hgs (by simp), HB1n, hsr.kept hgs (by omega) (by omega) (by omega), grown_grown hkw hgs (by omega), HD1.out⟩
                have hms : 64 - (m + 1) < 64 - k := by omega
                clear HL HBn hs1 hsr HBr hkw hg1 HD1 hlen hy HB1n hgs hm hfar64
                go_wp2_with fail
                go_roundg (64 - (m + 1))
                case rel => exact ⟨m + 1, n + 1, pre ++ (List.replicate q 0 ++ [N]), rfl, by go_num, HLn⟩
                case measure => omega
            · have hqn : ((q : Int) == 0) = false := by simpa using hq0
              rw [hq] at HR
              obtain ⟨N, hN⟩ : ∃ N, N = numT t1 := ⟨_, rfl⟩
              rw [← hN] at HR
              have HNe : Hid (numT t1 = N) := hN.symm
              clear hN hq hbt
              by_cases hfar64 : 64 < k + (q + 1)
              · have hgt : (63 : Int) < (k : Int) + (q : Int) := by omega
                have HDe : Hid (D = (4, [], 0)) := by
                  show _ = _
                  rw [HDt.out, joinQ_far _ _ (by omega) hok h0 (by rw [hfar]; omega)]
                clear hok hfar h0 HDt
                go_wp2_with fail
                refine HR.out.mono ?_
                rintro e w1 ⟨rfl, hg1, hs1⟩
                have hz1 := hg1.size
                have HBr := HL.out.res.kept hg1 (by simp; omega)
                have HBn := HL.out.num.kept hg1 (by simp; omega)
                have hkw := HL.out.kept.trans hg1
                have hsr := hs1
                have hlen := HL.out.len
                have hszz := HL.out.size
                have HB6 := veil HBr
                have HK6 := veil hkw
                clear HL HBn hs1 hsr HBr hkw hg1
                go_wp2_with (first
                  | (refine wpList_store_blk w1 rfl 37 (.tmp 4) (.tmp 50) rfl w.heap.size zeroB zeroB 37 HB6.out rfl rfl (info_blkn hzl.out) rfl hzone ?_; intro w5 HB7 hg7)
                  | fail)
                exact read_err HDe.out (by decide) rfl rfl rfl HB7 (grown_grown HK6.out hg7 (Nat.le_refl _))
              · obtain ⟨m, hm⟩ : ∃ m : Nat, m = k + q := ⟨_, rfl⟩
                have hmz : (k : Int) + (q : Int) = (m : Int) := by omega
                have hle : ¬ (63 : Int) < (m : Int) := by omega
                have hml : (m : Int) < 64 := by omega
                have hmn : m ≤ 63 := by omega
                have HD1 : Hid (D = joinQ (pre ++ (List.replicate q 0 ++ [N])) (n + 1) (decQ (64 - (m + 1)) (L.drop (n + 1)))) := by
                  show _ = _
                  rw [HDt.out, joinQ_next _ _ hok h0 (by rw [hfar]; omega), hfar, HNe.out, show 64 - k - (q + 1) = 64 - (m + 1) by omega, Nat.add_sub_cancel]
                clear hok hfar h0 HDt
                go_wp2_with fail
                refine HR.out.mono ?_
                rintro e w1 ⟨rfl, hg1, hs1⟩
                have hz1 := hg1.size
                have HBr := HL.out.res.kept hg1 (by simp; omega)
                have HBn := HL.out.num.kept hg1 (by simp; omega)
                have hkw := HL.out.kept.trans hg1
                have hsr := hs1
                have hlen := HL.out.len
                have hszz := HL.out.size
                obtain ⟨y, hy⟩ := some_at (xs := pre ++ List.replicate (64 - k) 0) (j := m) (by rw [List.length_append, List.length_replicate]; omega)
                have hcz := HBn.cell (ints_at hy)
                have hfz := HBn.frozen m
                have HB1n := HBn.set m (.int .i64 N)
                rw [show (ints .i64 (pre ++ List.replicate (64 - k) 0)).set m (.int .i64 N) = ints .i64 ((pre ++ (List.replicate q 0 ++ [N])) ++ List.replicate (64 - (m + 1)) 0) by rw [hm]; exact set_pre hlen (by omega)] at HB1n
                have hgs := grown_setCell w1 (w.heap.size + 1) m (.int .i64 N)
                have HLn : Hid (RLoop G g A c L w D (m + 1) (n + 1) (pre ++ (List.replicate q 0 ++ [N])) (w1.setCell ⟨w.heap.size + 1, m, none⟩ (.int .i64 N))) :=
                  ⟨by omega, by omega, by simp [hlen]; omega, by have := hgs.size; omega, HBr.kept hgs (by simp), HB1n, hsr.kept hgs (by omega) (by omega) (by omega), grown_grown hkw hgs (by omega), HD1.out⟩
                have hms : 64 - (m + 1) < 64 - k := by omega
                clear HL HBn hs1 hsr HBr hkw hg1 HD1 hlen hy HB1n hgs hm hfar64
                go_wp2_with fail
                go_roundg (64 - (m + 1))
                case rel => exact ⟨m + 1, n + 1, pre ++ (List.replicate q 0 ++ [N]), rfl, by go_num, HLn⟩
                case measure => omega
      · have hnL : n = L.length := by have := hsrc.2.2; omega
        subst hnL
        have HR := veil (rest_none G g c A L wr hsrc Hlm.out)
        have HDe : Hid (D = (3, [], 0)) := by show _ = _; rw [HL.out.told, List.drop_length, joinQ_none _ _ (by omega)]
        clear hsrc
        go_wp2_with fail
        refine HR.out.mono ?_
        rintro e w1 ⟨rfl, hg1⟩
        have HB6 := veil (HL.out.res.kept hg1 (by simp; omega))
        have HK6 := veil (HL.out.kept.trans hg1)
        clear HL hg1
        go_wp2_with (first
          | (refine wpList_store_blk w1 rfl 37 (.tmp 4) (.tmp 37) rfl w.heap.size zeroB zeroB 37 HB6.out rfl rfl (info_blkn hzl.out) rfl hzone ?_; intro w5 HB7 hg7)
          | fail)
        exact read_err HDe.out (by decide) rfl rfl rfl HB7 (grown_grown HK6.out hg7 (Nat.le_refl _))
    · obtain rfl : k = 64 := by omega
      have HD : Hid (D = (0, pre, n)) := by show _ = _; rw [HL.out.told, show 64 - 64 = 0 from rfl, joinQ_all]
      have HZl : Hid (pre.length = 64) := HL.out.len
      have HBr := HL.out.res
      have HBn := HL.out.num
      have hkw := HL.out.kept
      have hsr := HL.out.src
      have hszz := HL.out.size
      rw [show 64 - 64 = 0 from rfl, List.replicate_zero, List.append_nil] at HBn
      clear HL
      generalize pre = ZS at *
      have HFr := veil (fun W' => from_any ZS W' HZl.out)
      have HlY : Hid ((ints .i64 (fromL ZS)).length = 64) := by show _ = _; rw [ints_length, fromL_length]
      have HlX : Hid ((ints .i64 ZS).length = 64) := by show _ = _; rw [ints_length, HZl.out]
      have honeY := ints_one (k := .i64) (l := fromL ZS)
      have hrZ := HBn.range
      have HDo : Hid (outP D = fromL ZS) := by show _ = _; rw [HD.out]; exact if_pos rfl
      unfold blkV at HFr
      obtain ⟨xs, hxs⟩ : ∃ xs, xs = ints .i64 ZS := ⟨_, rfl⟩
      rw [← hxs] at HFr HlX hrZ
      obtain ⟨ys, hys⟩ : ∃ ys, ys = ints .i64 (fromL ZS) := ⟨_, rfl⟩
      rw [← hys] at HFr HlY honeY
      have HYe := veil hys
      clear hxs hys HBn
      go_wp2_with (first
        | (refine wpList_load_mid rfl 37 (.tmp 6) rfl (w.heap.size + 1) 0 rfl xs _ hrZ Tryz.underlying37 rfl (info_blkn HlX.out) ?_)
        | fail)
      refine (HFr.out _).mono ?_
      rintro e w5 ⟨rfl, hb5⟩
      have hz5 := hb5.size
      have HB5 := veil (HBr.below hb5 (by omega))
      have hkw5 := veil (grown_below hkw hb5 (by have := hkw.size; omega))
      have hs5 := veil (hsr.below hb5 (by omega) (by omega))
      clear hrZ HBr hkw hsr hb5
      go_wp2_with (first
        | (refine wpList_store_blk w5 rfl 37 (.tmp 4) (.tmp 55) rfl w.heap.size zeroB ys 37 HB5.out rfl rfl (info_blkn HlY.out) (by rw [HlY.out, hzl.out]) honeY ?_; intro w9 HB9 hg9)
        | fail)
      exact read_out (er := 0) (os := fromL ZS) (by rw [HD.out]) HDo.out rfl rfl rfl (by rw [← HYe.out]; exact HB9) (grown_grown hkw5.out hg9 (Nat.le_refl _)) (fun _ => by rw [HD.out]; exact hs5.out.kept hg9 (by omega) (by omega) (by omega))
set_option maxHeartbeats 8000000 in
set_option maxRecDepth 100000 in
theorem runRead_any (b : Int) (G g c : Nat) (A : Option Addr) (l : List (Int × Int × Int)) (w : World) (hb : -2047 ≤ b ∧ b ≤ 2047) (hs : PSrc G g A c l w 0) (hG : G ≤ g) (hl : l.length ≤ maxLen) (hbd : ∀ t ∈ l, t.1 ≤ 9223372036854775807) :
    Calls Tryz.prog 73 #[.int .i64 b, srcV g] w fun e w' => e = .returned (.tuple #[blkV (outP (decF b l)), .int .i64 (decF b l).1]) ∧ w.grownBy w' (some g) ∧ ((decF b l).1 = 0 → PSrc G g A c l w' (decF b l).2.2) := by
  obtain ⟨D, hD⟩ : ∃ D, D = decF b l := ⟨_, rfl⟩
  rw [← hD]
  have hgw := hs.1.lt
  obtain ⟨hb0, HB0, HB1, hz0⟩ := pbox2_is w
  have hs0 := hs.below hb0 hgw (by omega)
  have hk0 : w.grownBy ((w.alloc (.cells zeroB.toArray 37)).alloc (.cells zeroB.toArray 37)) (some g) := grown_below (World.grownBy.refl _ _) hb0 (Nat.le_refl _)
  have hzl := veil zeroB_length
  have hzone := ints_one (k := .i64) (l := List.replicate 64 0)
  clear hb0
  cases l with
  | nil =>
    have HF := veil (first_none b G g c A [] ((w.alloc (.cells zeroB.toArray 37)).alloc (.cells zeroB.toArray 37)) hs0 hl)
    have HD4 : Hid (D = (3, [], 0)) := hD
    clear hD
    go_enter Tryz.func73, Tryz.ntmps73
    go_wp2_with fail
    refine HF.out.mono ?_
    rintro e w1 ⟨rfl, hg1⟩
    have HB6 := veil (HB0.kept hg1 (by simp; omega))
    have HK6 := veil (hk0.trans hg1)
    clear HB0 HB1 hk0 hs0 hg1
    go_wp2_with (first
      | (refine wpList_store_blk w1 rfl 37 (.tmp 4) (.tmp 21) rfl w.heap.size zeroB zeroB 37 HB6.out rfl rfl (info_blkn hzl.out) rfl hzone ?_; intro w5 HB7 hg7)
      | fail)
    exact read_err HD4.out (by decide) rfl rfl rfl HB7 (grown_grown HK6.out hg7 (Nat.le_refl _))
  | cons t l' =>
    have ht0 : (t :: l')[0]? = some t := rfl
    by_cases hf : firstT b t
    · exact read_go b G g c A (t :: l') t D w hb hs hG hl hbd ht0 hf (by rw [hD]; exact if_pos hf)
    · have HF := veil (first_bad b G g c 0 A (t :: l') t ((w.alloc (.cells zeroB.toArray 37)).alloc (.cells zeroB.toArray 37)) hb hs0 hG hl ht0 hf)
      have HD4 : Hid (D = (4, [], 0)) := by show _ = _; rw [hD]; exact if_neg hf
      clear hD hf
      go_enter Tryz.func73, Tryz.ntmps73
      go_wp2_with fail
      refine HF.out.mono ?_
      rintro e w1 ⟨rfl, hg1⟩
      have HB6 := veil (HB0.kept hg1 (by simp; omega))
      have HK6 := veil (hk0.trans hg1)
      clear HB0 HB1 hk0 hs0 hg1
      go_wp2_with (first
        | (refine wpList_store_blk w1 rfl 37 (.tmp 4) (.tmp 21) rfl w.heap.size zeroB zeroB 37 HB6.out rfl rfl (info_blkn hzl.out) rfl hzone ?_; intro w5 HB7 hg7)
        | fail)
      exact read_err HD4.out (by decide) rfl rfl rfl HB7 (grown_grown HK6.out hg7 (Nat.le_refl _))
end Go.Proofs.YtddkhkpdbjjboaaGreat

/- slices.Equal over two lists of tokens tells whether they are equal. -/
namespace Go.Proofs.YtddkhkpdbjjboaaGreat
open Go.RowKit
set_option linter.unusedVariables false
set_option linter.unusedSimpArgs false
set_option maxRecDepth 100000

set_option maxRecDepth 100000 in
set_option maxHeartbeats 1000000 in
theorem seqTok (A B : Option Addr) (c d G : Nat) (xs ys : List (Int × Int × Int)) (w : World) (hx : Seen w G A (tokCells xs)) (hy : Seen w G B (tokCells ys)) (hG : G ≤ w.heap.size) (hlx : xs.length ≤ 1099511627776) (hly : ys.length ≤ maxLen) :
    Calls Tryz.prog 74 #[.slice A xs.length c, .slice B ys.length d] w fun e w' => e = .returned (.bool (decide (xs = ys))) ∧ Below w.heap.size w w' := by
  by_cases hl : xs.length = ys.length
  · have hne : ((xs.length : Int) != (ys.length : Int)) = false := by simp [hl]
    have Hl := veil hl
    clear hl
    go_enter Tryz.func74, Tryz.ntmps74
    go_wp2_with fail
    go_loopg [13] xs.length (fun gk i wr => ∃ k : Nat, gk = xs.length - k ∧ k ≤ xs.length ∧ i = .int .i64 k ∧ Hid (xs.take k = ys.take k) ∧ Below w.heap.size w wr)
    case atStart => exact ⟨0, rfl, Nat.zero_le _, rfl, veil rfl, Below.refl _ _⟩
    case round =>
      obtain ⟨k, rfl, hk, rfl, He, hbel⟩ := hrel
      have hz := hbel.size
      by_cases hlt : k < xs.length
      · have hky : (k : Int) < (ys.length : Int) := by have := Hl.out; omega
        obtain ⟨g, o, s, n, m, rfl, hg, hxk, h1, h2, h3⟩ := hx.tok hlt
        obtain ⟨g', o', s', n', m', rfl, hg', hyk, h4, h5, h6⟩ := hy.tok (k := k) (by omega)
        rw [← hbel.cell (by simp; omega)] at h1 h2 h3 h4 h5 h6
        have Hx := veil hxk; have Hy := veil hyk
        clear hxk hyk hx hy
        have hgd : Tryz.prog.eqGuardType Tryz.prog.depth 73 = false := by kernel_rfl
        have hneq := fun w => neq_tok s n m s' n' m' w
        by_cases hq : (s, n, m) = (s', n', m')
        · have hb : (!(s == s' && (n == n' && m == m'))) = false := by
            simp only [Prod.mk.injEq] at hq
            obtain ⟨rfl, rfl, rfl⟩ := hq
            simp
          rw [hb] at hneq
          have Hq := veil hq
          clear hb hq
          go_wp2_with fail
          go_quiet (fail)
          go_wp2
          go_roundg (xs.length - (k + 1))
          case rel => exact ⟨k + 1, rfl, by omega, by go_num, veil (by rw [take_snoc Hx.out, take_snoc Hy.out, He.out, Hq.out]), hbel.drewN _⟩
          case measure => omega
        · have hb : (!(s == s' && (n == n' && m == m'))) = true := by
            simp only [Bool.not_eq_true', Bool.and_eq_false_iff, beq_eq_false_iff_ne]
            refine Classical.byContradiction fun h => hq ?_
            have h1 : s = s' := Classical.byContradiction fun e => h (.inl e)
            have h2 : n = n' := Classical.byContradiction fun e => h (.inr (.inl e))
            have h3 : m = m' := Classical.byContradiction fun e => h (.inr (.inr e))
            rw [h1, h2, h3]
          rw [hb] at hneq
          have Hq := veil hq
          clear hb hq
          go_wp2_with fail
          go_quiet (fail)
          go_wp2
          go_ret
          refine ⟨ret_bool ?_, hbel.drewN _⟩
          symm
          simp only [decide_eq_false_iff_not]
          intro e
          have h3 := Hx.out
          rw [e, Hy.out] at h3
          exact Hq.out (by injection h3 with h3; exact h3.symm)
      · go_wp2
        go_ret
        refine ⟨ret_bool ?_, hbel⟩
        symm
        have h3 := He.out
        rw [List.take_of_length_le (by omega), List.take_of_length_le (by have := Hl.out; omega)] at h3
        simpa using h3
  · have hne : ((xs.length : Int) != (ys.length : Int)) = true := by simp; omega
    have hd : decide (xs = ys) = false := by simp; intro e; exact hl (by rw [e])
    have Hd := veil hd
    clear hd hl
    go_enter Tryz.func74, Tryz.ntmps74
    go_wp2
    go_ret
    exact ⟨ret_bool Hd.out.symm, Below.refl _ _⟩
end Go.Proofs.YtddkhkpdbjjboaaGreat

/- Rows of tokens, their slices written out; tokens of blocks that are zero but for number 0. -/
namespace Go.Proofs.YtddkhkpdbjjboaaGreat
open Go.RowKit
set_option linter.unusedVariables false
set_option linter.unusedSimpArgs false
set_option maxRecDepth 100000

theorem tok_form {w : World} {B : Nat} {v : Value} {T : List (Int × Int × Int)} {rs : List Row} (h : Owns B (tokRow v T :: rs) w) : ∃ A c, v = .slice A T.length c ∧ Seen w w.heap.size A (tokCells T) ∧ T.length ≤ c ∧ c ≤ maxLen := by
  obtain ⟨A, c, e, h1, h2, h3⟩ := h.seen (List.mem_cons_self ..)
  exact ⟨A, c, e, h1, h2, h3⟩
end Go.Proofs.YtddkhkpdbjjboaaGreat

/- A whole value stored into a block that is known, in a region driven by hand. No program is named here. -/
namespace Go.Proofs.YtddkhkpdbjjboaaGreat
open Go.RowKit
set_option linter.unusedVariables false
set_option linter.unusedSimpArgs false
set_option maxRecDepth 100000

theorem step_store_blk {P : Program} {ops : Array Oper} {o : Oper} {a : Act} {K : Act → World → Prop} {Q : Exit → Act → World → Prop} {F : Prop} (w : World) (hgd : o.guard = none) (t : TypeId) (x y : Operand) (ho : o.op = .store t x y) (b : Nat) (xs ys : List Value) (e : TypeId) (hB : Blk w b xs e)
    (hx : a.eval x = .pointer (some ⟨b, 0, none⟩)) (hy : a.eval y = .agg ys.toArray) (hi : (P.info? t).map (·.size) = some ys.length) (hl : ys.length = xs.length) (h1 : ∀ u ∈ ys, u.oneCell' = true)
    (h : ∀ w', Blk w' b ys e → w.grownBy w' (some b) → K (a.put o.dst undef) w') : if Region.wanted o (yielded ops a.tmps) = true then Oper.wp P o a w K Q else F := by
  have hw : Region.wanted o (yielded ops a.tmps) = true := by simp [Region.wanted, hgd]
  rw [if_pos hw]
  obtain ⟨h2, h3⟩ := setCells_blk ys xs [] w hl hB
  refine wp_store_mid t x y ho b 0 ys.toArray hx hy (fun j hj => ⟨?_, by rw [Nat.zero_add]; exact hB.frozen j⟩) (by simpa using hi) (all_oneCell_toArray h1) (h _ h2 h3)
  obtain ⟨u, hu⟩ := some_at (xs := xs) (j := j) (by simp at hj; omega)
  rw [Nat.zero_add, hB.cell hu]; rfl
end Go.Proofs.YtddkhkpdbjjboaaGreat

/- run.Tokens and run.Block: their contracts. -/
namespace Go.Proofs.YtddkhkpdbjjboaaGreat
open Go.RowKit
set_option linter.unusedVariables false
set_option linter.unusedSimpArgs false
set_option maxRecDepth 100000

/-- What Block answers. -/
def oP (b : Int) (l : List (Int × Int × Int)) : List Int := if (decP b l).1 = 0 then fromL (decP b l).2.1 else zero64
theorem oP_length (b : Int) (l : List (Int × Int × Int)) : (oP b l).length = 64 := by
  unfold oP; split
  · exact fromL_length _
  · exact zero64_length
/-- Block by what was read. -/
theorem decP_read {b : Int} (hb : -2047 ≤ b ∧ b ≤ 2047) (l : List (Int × Int × Int)) :
    (∃ er, er ≠ 0 ∧ decF b l = (er, [], 0) ∧ decP b l = (er, [], 0)) ∨
    (∃ zs n, decF b l = (0, zs, n) ∧ zs.length = 64 ∧ (∀ z ∈ zs, -2047 ≤ z ∧ z ≤ 2047) ∧ n ≤ l.length ∧ (toksZ b zs = l.take n → decP b l = (0, zs, n)) ∧ (toksZ b zs ≠ l.take n → decP b l = (4, [], 0))) := by
  have e0 : ¬ (b < -2047 ∨ 2047 < b) := by omega
  cases l with
  | nil => left; exact ⟨3, by decide, rfl, by unfold decP; rw [if_neg e0]⟩
  | cons t l =>
    by_cases h1 : firstT b t
    · have e1 : decF b (t :: l) = joinQ [b + numT t] 1 (decQ 63 l) := if_pos h1
      have e2 : decP b (t :: l) = if (decQ 63 l).1 = 0 then (if toksZ b ((b + numT t) :: (decQ 63 l).2.1) = t :: l.take (decQ 63 l).2.2 then (0, (b + numT t) :: (decQ 63 l).2.1, (decQ 63 l).2.2 + 1) else (4, [], 0)) else ((decQ 63 l).1, [], 0) := by
        unfold decP; rw [if_neg e0]; exact if_pos h1
      rw [e1, e2]
      unfold joinQ
      by_cases h2 : (decQ 63 l).1 = 0
      · right
        rw [if_pos h2, if_pos h2]
        obtain ⟨g1, g2⟩ := decQ_in l 63 h2
        have g3 := decQ_used l 63
        refine ⟨(b + numT t) :: (decQ 63 l).2.1, (decQ 63 l).2.2 + 1, by simp [Nat.add_comm], by simp [g1], fun z hz => ?_, by simp only [List.length_cons]; omega, fun h => ?_, fun h => ?_⟩
        · rcases List.mem_cons.1 hz with rfl | hz
          · exact h1.2.2
          · exact g2 z hz
        · rw [List.take_succ_cons] at h
          exact if_pos h
        · rw [List.take_succ_cons] at h
          exact if_neg h
      · left
        rw [if_neg h2, if_neg h2]
        exact ⟨_, h2, rfl, rfl⟩
    · left
      refine ⟨4, by decide, if_neg h1, ?_⟩
      unfold decP; rw [if_neg e0]; exact if_neg h1
/-- The way out. -/
theorem block_out {w w5 : World} {b : Int} {l : List (Int × Int × Int)} {er : Int} {n : Nat} {os : List Int} {a : Act} (he : (decP b l).1 = er) (hn : (decP b l).2.2 = n) (ho : oP b l = os)
    (h4 : a.tmps.getD 4 undef = .pointer (some ⟨w.heap.size, 0, none⟩)) (h5 : a.tmps.getD 5 undef = .int .i64 (n : Int)) (h6 : a.tmps.getD 6 undef = .int .i64 er) (hdf : a.defers = [])
    (HB : Blk w5 w.heap.size (ints .i64 os) 37) (hk : Below w.heap.size w w5) :
    bodyPost Tryz.prog Tryz.f50 (fun e w' => e = .returned (.tuple #[blkV (oP b l), .int .i64 ((decP b l).2.2 : Nat), .int .i64 (decP b l).1]) ∧ Below w.heap.size w w') .ret a w5 := by
  have hl : (ints .i64 os).length = 64 := by rw [ints_length, ← ho]; exact oP_length _ _
  rw [ho, he, hn]
  exact bodyPost_ret (results_row_tmp2 rfl _ _ w.heap.size 37 (ints .i64 os).toArray (0, 0) _ (.int .i64 (n : Int)) (.int .i64 er) h4 h5 h6 HB Tryz.underlying37 rfl (by simp only [List.size_toArray]; exact info_blkn hl)) hdf ⟨rfl, hk⟩
theorem block_bad (b : Int) (A : Option Addr) (c : Nat) (l : List (Int × Int × Int)) (w : World) (hb : b < -2047 ∨ 2047 < b) :
    Calls Tryz.prog 50 #[.int .i64 b, .slice A l.length c] w fun e w' => e = .returned (.tuple #[blkV (oP b l), .int .i64 ((decP b l).2.2 : Nat), .int .i64 (decP b l).1]) ∧ Below w.heap.size w w' := by
  have HC := veil (fun W => coef_no b hb W)
  have HD : Hid (decP b l = (1, [], 0)) := by show _ = _; unfold decP; exact if_pos hb
  have HB := Blk.new w zeroB 37
  have hb1 := below1 w (.cells zeroB.toArray 37)
  have hzone := ints_one (k := .i64) (l := List.replicate 64 0)
  have hzl := veil zeroB_length
  clear hb
  go_enter Tryz.func50, Tryz.ntmps50
  go_wp2_with fail
  refine (HC.out _).mono ?_
  rintro e w1 ⟨rfl, hw1⟩
  have hw2 : w1 = w.alloc (.cells zeroB.toArray 37) := hw1
  rw [← hw2] at HB hb1
  clear hw1 hw2
  go_wp2_with (first
    | (refine wpList_store_blk w1 rfl 37 (.tmp 4) (.tmp 14) rfl w.heap.size zeroB zeroB 37 HB rfl rfl (info_blkn hzl.out) rfl hzone ?_; intro w5 HB7 hg7)
    | fail)
  exact block_out (er := 1) (n := 0) (os := zero64) (by rw [HD.out]) (by rw [HD.out]) (by unfold oP; rw [HD.out]; exact if_neg (by decide)) rfl rfl rfl rfl HB7 (hb1.grown hg7 hb1.size (fun j hj => by injection hj with hj; omega))
set_option maxHeartbeats 4000000 in
set_option maxRecDepth 100000 in
theorem block_ok (b : Int) (A : Option Addr) (c G : Nat) (l : List (Int × Int × Int)) (w : World) (hb : -2047 ≤ b ∧ b ≤ 2047) (hs : Seen w G A (tokCells l)) (hG : G ≤ w.heap.size) (hc : l.length ≤ c) (hm : c ≤ maxLen) (hbd : ∀ t ∈ l, t.1 ≤ 9223372036854775807) :
    Calls Tryz.prog 50 #[.int .i64 b, .slice A l.length c] w fun e w' => e = .returned (.tuple #[blkV (oP b l), .int .i64 ((decP b l).2.2 : Nat), .int .i64 (decP b l).1]) ∧ Below w.heap.size w w' := by
  have HC := veil (fun W => coef_yes b hb W)
  have hb2 := below2 w (.cells zeroB.toArray 37) (.cells #[.slice A l.length c, .int .i64 0] 135)
  have HB := (Blk.new w zeroB 37).below (below1 (w.alloc (.cells zeroB.toArray 37)) (.cells #[.slice A l.length c, .int .i64 0] 135)) (by simp)
  have HS : Blk ((w.alloc (.cells zeroB.toArray 37)).alloc (.cells #[.slice A l.length c, .int .i64 0] 135)) (w.heap.size + 1) [.slice A l.length c, .int .i64 0] 135 := by
    have := Blk.new (w.alloc (.cells zeroB.toArray 37)) [.slice A l.length c, .int .i64 0] 135
    rw [World.size_alloc] at this
    exact this
  have hz2 : ((w.alloc (.cells zeroB.toArray 37)).alloc (.cells #[.slice A l.length c, .int .i64 0] 135)).heap.size = w.heap.size + 2 := by simp
  have hsn : Seen ((w.alloc (.cells zeroB.toArray 37)).alloc (.cells #[.slice A l.length c, .int .i64 0] 135)) G A (tokCells l) := hs.below hb2 hG
  obtain ⟨W, hW⟩ : ∃ W, W = (w.alloc (.cells zeroB.toArray 37)).alloc (.cells #[.slice A l.length c, .int .i64 0] 135) := ⟨_, rfl⟩
  have HRd := veil (runRead_any b G (w.heap.size + 1) c A l ((w.alloc (.cells zeroB.toArray 37)).alloc (.cells #[.slice A l.length c, .int .i64 0] 135)) hb ⟨HS, hsn, Nat.zero_le _⟩ (by omega) (by omega) hbd)
  rw [← hW] at hb2 HB hz2 HRd
  have HW := veil hW
  have hzone := ints_one (k := .i64) (l := List.replicate 64 0)
  have hzl := veil zeroB_length
  have HP := veil (decP_read hb l)
  have hone := ints_one (k := .i64) (l := outP (decF b l))
  have Hlo : Hid ((ints .i64 (outP (decF b l))).length = 64) := by show _ = _; rw [ints_length]; exact outP_length _
  clear HS hsn hbd hW
  go_enter Tryz.func50, Tryz.ntmps50
  go_wp2_with fail
  refine (HC.out _).mono ?_
  rintro e w1 ⟨rfl, rfl⟩
  go_wp2_with fail
  rw [HW.out] at HRd
  refine HRd.out.mono ?_
  rintro e w3 ⟨rfl, hg3, hs3⟩
  rw [← HW.out] at hg3
  rcases HP.out with ⟨er, hne, hF, hP⟩ | ⟨zs, n, hF, hzs, hzin, hn, hok, hbad⟩
  · have hbe : (er != 0) = true := by simpa using hne
    have ho : outP (decF b l) = zero64 := by rw [hF]; exact if_neg hne
    have HPe := veil hP
    have HNe := veil hne
    have HB3 := HB.kept hg3 (by simp)
    have hbw3 : Below w.heap.size w w3 := hb2.grown hg3 hb2.size (fun j hj => by injection hj with hj; omega)
    rw [ho, hF]
    rw [ho] at hone Hlo
    have hz3 := hg3.size
    have HB4 := veil (HB3.below (below1 w3 (.cells zeroB.toArray 37)) (by omega))
    have hbw4 := veil (hbw3.alloc hbw3.size (.cells zeroB.toArray 37))
    clear HP hF ho HB3 hbw3 hs3 hg3 HRd hP hne
    go_upto_region 5 with (first
      | (refine wpList_store_new w3 rfl 37 (.tmp 8) (.tmp 23) rfl zeroB.toArray zeroB rfl rfl (info_blkn hzl.out) (by rw [hzl.out]; rfl) hzone ?_)
      | fail)
    go_wp2_with (first
      | (refine wpList_store_blk (w3.alloc (.cells zeroB.toArray 37)) rfl 37 (.tmp 4) (.tmp 27) rfl w.heap.size zeroB zeroB 37 HB4.out rfl rfl (info_blkn hzl.out) rfl hzone ?_; intro w5 HB7 hg7)
      | fail)
    exact block_out (er := er) (n := 0) (os := zero64) (by rw [HPe.out]) (by rw [HPe.out]) (by unfold oP; rw [HPe.out]; exact if_neg HNe.out) rfl rfl rfl rfl HB7 (hbw4.out.grown hg7 hbw4.out.size (fun j hj => by injection hj with hj; omega))
  · have ho : outP (decF b l) = fromL zs := by rw [hF]; exact if_pos rfl
    have hsP := hs3 (by rw [hF])
    rw [hF] at hsP
    have HSl : Blk w3 (w.heap.size + 1) [.slice A l.length c, .int .i64 (n : Int)] 135 := hsP.1
    have HsA : Seen w3 G A (tokCells l) := hsP.2.1
    have HB3 := HB.kept hg3 (by simp)
    have hbw3 : Below w.heap.size w w3 := hb2.grown hg3 hb2.size (fun j hj => by injection hj with hj; omega)
    have hz3 := hg3.size
    rw [hz2] at hz3
    rw [ho, hF]
    rw [ho] at hone Hlo
    have HT := veil (fun W' => tokens_any b (fromL zs) W' (fromL_length _))
    have hin := inB_mem.2 fun z hz => hzin z (fromL_mem hzs hz)
    rw [oT_ok (eT_ok hb.1 hb.2 hin), eT_ok hb.1 hb.2 hin, to_from hzs] at HT
    have HTl := veil (toks_len b hzs)
    have Hok := veil hok
    have Hbad := veil hbad
    obtain ⟨T, hT⟩ : ∃ T, T = toksZ b zs := ⟨_, rfl⟩
    rw [← hT] at HT HTl Hok Hbad
    have b4 := below1 w3 (.cells (ints .i64 (fromL zs)).toArray 37)
    have HB4 := HB3.below b4 (by omega)
    have HSl4 := HSl.below b4 (by omega)
    have HsA4 := HsA.below b4 (by omega)
    have hbw4 := hbw3.alloc hbw3.size (.cells (ints .i64 (fromL zs)).toArray 37)
    have hr4 := range_new w3 (ints .i64 (fromL zs)) 37
    have HBy4 := Blk.new w3 (ints .i64 (fromL zs)) 37
    have hz4 : (w3.alloc (.cells (ints .i64 (fromL zs)).toArray 37)).heap.size = w3.heap.size + 1 := by simp
    have hlen : (l.take n).length = n := by rw [List.length_take]; omega
    have Hlen := veil hlen
    have hcut := fun u => run_cutT_to A l.length c n (by omega) u
    have hnc : (n : Int) ≤ (c : Int) := by omega
    have Hlm : Hid (l.length ≤ maxLen) := by show _ ≤ _; omega
    unfold blkV at HT ⊢
    obtain ⟨ys, hys⟩ : ∃ ys, ys = ints .i64 (fromL zs) := ⟨_, rfl⟩
    rw [← hys] at HT HB4 HSl4 HsA4 hbw4 hr4 HBy4 hz4 hone Hlo ⊢
    have HYe := veil hys
    clear HP hF ho HB3 hbw3 hs3 hg3 HRd hsP HSl HsA hT hin hok hbad hys b4 hlen
    go_upto_region 5 with (first
      | (refine wpList_store_new w3 rfl 37 (.tmp 8) (.tmp 23) rfl zeroB.toArray ys rfl rfl (info_blkn Hlo.out) (by rw [Hlo.out]; rfl) hone ?_)
      | fail)
    go_wp2_with (first
      | (refine wpList_load_mid rfl 37 (.tmp 8) rfl w3.heap.size 0 rfl ys _ hr4 Tryz.underlying37 rfl (info_blkn Hlo.out) ?_)
      | fail)
    refine (HT.out _).mono ?_
    rintro e w5 ⟨v, rfl, HO5, hb5⟩
    obtain ⟨A2, c2, rfl, hsT, hc1, hc2⟩ := tok_form HO5
    have hz5 := hb5.size
    rw [hz4] at hz5 hb5
    have HB5 := HB4.below hb5 (by omega)
    have HSl5 := HSl4.below hb5 (by omega)
    have HsA5 := HsA4.below hb5 (by omega)
    have HBy5 := HBy4.below hb5 (by omega)
    have hbw5 := hbw4.trans (hb5.mono (by omega))
    have k1 := HSl5.cell (i := 1) (v := .int .i64 (n : Int)) rfl
    have HE := veil (seqTok A2 A c2 c w5.heap.size T (l.take n) w5 hsT (cutT_take (HsA5.up (by omega))) (Nat.le_refl _) (by have := HTl.out; omega) (by rw [Hlen.out]; have := Hlm.out; omega))
    rw [Hlen.out] at HE
    clear HB4 HSl4 HsA4 HBy4 hbw4 hr4 HO5 hb5 HT hsT
    go_wp2_with fail
    refine HE.out.mono ?_
    rintro e w6 ⟨rfl, hb6⟩
    have hz6 := hb6.size
    have HB6 := HB5.below hb6 (by omega)
    have HSl6 := HSl5.below hb6 (by omega)
    have HBy6 := HBy5.below hb6 (by omega)
    have hbw6 := hbw5.trans (hb6.mono hbw5.size)
    have k6 := HSl6.cell (i := 1) (v := .int .i64 (n : Int)) rfl
    clear HE HB5 HSl5 HsA5 HBy5 hbw5 hb6 k1
    by_cases hTA : T = l.take n
    · rw [decide_eq_true hTA]
      have HPe := veil (Hok.out hTA)
      clear hTA Hok Hbad
      go_upto_region 10 with fail
      have hbw6d : Below w.heap.size w w6.drew := hbw6.drew
      have HB6d : Blk w6.drew w.heap.size zeroB 37 := HB6
      have hi := info_blkn Hlo.out
      refine wp_region_held_drew (S := fun w' => Blk w' w3.heap.size ys 37 ∧ w'.cell? ⟨w.heap.size + 1, 1, none⟩ = some (.int .i64 (n : Int))) (by kernel_rfl) ⟨HBy6, k6⟩ (fun hHeld0 => ?_)
      refine take_load 0 49 37 (.tmp 8) w3.heap.size 0 ys _ rfl rfl (by kernel_rfl) (by kernel_rfl) (by kernel_rfl) (fun _ _ _ h => h) rfl rfl rfl (fun w' h => h.1.range) Tryz.underlying37 rfl hi hHeld0 rfl ?_
      refine take_pure 1 50 (.pointer (some ⟨w.heap.size + 1, 0, none⟩)) _ rfl rfl (by kernel_rfl) (by kernel_rfl) (by kernel_rfl) (fun _ _ _ h => h) rfl (fun w' hS => by go_simp) hHeld0 rfl ?_
      refine take_pure 2 51 (.pointer (some ⟨w.heap.size + 1, 0, none⟩)) _ rfl rfl (by kernel_rfl) (by kernel_rfl) (by kernel_rfl) (fun _ _ _ h => h) rfl (fun w' hS => by go_simp) hHeld0 rfl ?_
      refine take_pure 3 52 (.pointer (some ⟨w.heap.size + 1, 1, none⟩)) _ rfl rfl (by kernel_rfl) (by kernel_rfl) (by kernel_rfl) (fun _ _ _ h => h) rfl (fun w' hS => by go_simp) hHeld0 rfl ?_
      refine take_pure 4 53 (.int .i64 (n : Int)) _ rfl rfl (by kernel_rfl) (by kernel_rfl) (by kernel_rfl) (fun _ _ _ h => h) rfl (fun w' hS => by have := hS.2; go_simp) hHeld0 rfl ?_
      refine wpAnyH_ready (rs := [5]) (by kernel_rfl) (by simp) ?_
      refine AllReadyH.cons rfl (fun K hK => ?_) AllReadyH.nil
      refine step_store_blk _ rfl 37 (.tmp 4) (.tmp 49) rfl w.heap.size zeroB ys 37 HB6d rfl rfl (info_blkn Hlo.out) (by rw [Hlo.out, hzl.out]) hone ?_
      intro w9 HB9 hg9
      refine hK.out _ _ ⟨hHeld0.1.kept hg9 (by simp; omega), (World.cell?_of_block (hg9.block (w.heap.size + 1) (by show _ < w6.heap.size; omega) (by simp))).trans hHeld0.2⟩ (fun hHeld1 => ?_)
      clear hK K
      refine take_pure 6 5 (.int .i64 (n : Int)) _ rfl rfl (by kernel_rfl) (by kernel_rfl) (by kernel_rfl) (fun _ _ _ h => h) rfl (fun w' hS => by go_simp) hHeld1 rfl ?_
      refine take_pure 7 6 (.int .i64 0) _ rfl rfl (by kernel_rfl) (by kernel_rfl) (by kernel_rfl) (fun _ _ _ h => h) rfl (fun w' hS => by go_simp) hHeld1 rfl ?_
      refine wpAnyH_done (by kernel_rfl) ?_ _
      go_wp2
      exact block_out (er := 0) (n := n) (os := fromL zs) (by rw [HPe.out]) (by rw [HPe.out]) (by unfold oP; rw [HPe.out]; exact if_pos rfl) rfl rfl rfl rfl (by rw [← HYe.out]; exact HB9) (hbw6d.grown hg9 hbw6d.size (fun j hj => by injection hj with hj; omega))
    · rw [decide_eq_false hTA]
      have HPe := veil (Hbad.out hTA)
      clear hTA Hok Hbad
      go_wp2_with (first
        | (refine wpList_store_blk w6 rfl 37 (.tmp 4) (.tmp 48) rfl w.heap.size zeroB zeroB 37 HB6 rfl rfl (info_blkn hzl.out) rfl hzone ?_; intro w9 HB9 hg9)
        | fail)
      exact block_out (er := 4) (n := 0) (os := zero64) (by rw [HPe.out]) (by rw [HPe.out]) (by unfold oP; rw [HPe.out]; exact if_neg (by decide)) rfl rfl rfl rfl HB9 (hbw6.grown hg9 hbw6.size (fun j hj => by injection hj with hj; omega))
theorem block_any (b : Int) (A : Option Addr) (c G : Nat) (l : List (Int × Int × Int)) (w : World) (hs : Seen w G A (tokCells l)) (hG : G ≤ w.heap.size) (hc : l.length ≤ c) (hm : c ≤ maxLen) (hbd : ∀ t ∈ l, t.1 ≤ 9223372036854775807) :
    Calls Tryz.prog 50 #[.int .i64 b, .slice A l.length c] w fun e w' => e = .returned (.tuple #[blkV (oP b l), .int .i64 ((decP b l).2.2 : Nat), .int .i64 (decP b l).1]) ∧ Below w.heap.size w w' := by
  by_cases hb : -2047 ≤ b ∧ b ≤ 2047
  · exact block_ok b A c G l w hb hs hG hc hm hbd
  · exact block_bad b A c l w (by omega)
end Go.Proofs.YtddkhkpdbjjboaaGreat
