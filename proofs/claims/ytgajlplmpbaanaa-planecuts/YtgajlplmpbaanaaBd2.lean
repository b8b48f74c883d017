/- Texts shared by the claims of this seat, in one. -/
import Derived.Test.YtgajlplmpbaanaaBd1
import Derived.Deep.Cut
import Derived.BigQuiet
import Derived.StillTailTactics
import Derived.Test.YtgajlplmpbaanaaRows
import Derived.ProofKit
import Derived.OpenShut
import Derived.ShutString
import Derived.ChangeOld
import Derived.JoinedCond
import Derived.Deep.Slices
import Derived.Deep.SlicePairs
import Derived.Deep.Fields
import Derived.ChangeSame
import Derived.SizedLaws
/- The reference's comparison of two lists of blocks tells whether they are equal. -/
namespace Go.Proofs.Ytgajlplmpbaanaa
open Go.RowKit
set_option linter.unusedVariables false
set_option linter.unusedSimpArgs false
set_option maxRecDepth 100000

theorem blk_neq (cs ds : List Int) (hc : cs.length = 64) (hd : ds.length = 64) (u : World) : (binOp .neq 31 (blkV cs) (blkV ds)).run Try.prog u = .ok (.bool (!decide (cs = ds))) u := by
  have h := blk_eql cs ds hc hd u
  rw [run_eql_struct] at h
  rw [run_neq_struct]
  generalize (Op.equalIn 10000 31 (blkV cs) (blkV ds)).run Try.prog u = r at *
  cases r with
  | ok b w' => simp at h; obtain ⟨rfl, rfl⟩ := h; rfl
  | _ => simp at h
set_option maxRecDepth 100000 in
set_option maxHeartbeats 2000000 in
theorem eqBlk (A B : Option Addr) (c d G : Nat) (xs ys : List (List Int)) (w : World) (hx : Seen w G A (rowsC xs)) (hy : Seen w G B (rowsC ys)) (hxl : ∀ r ∈ xs, r.length = 64) (hyl : ∀ r ∈ ys, r.length = 64) (hG : G ≤ w.heap.size) (hlx : xs.length ≤ 1000000) (hly : ys.length ≤ 1000000) :
    Calls Try.prog 12 #[.slice A xs.length c, .slice B ys.length d] w fun e w' => e = .returned (.bool (decide (xs = ys))) ∧ Below w.heap.size w w' := by
  by_cases hl : xs.length = ys.length
  · have hne : ((xs.length : Int) != (ys.length : Int)) = false := by simp [hl]
    have Hl := veil hl
    clear hl
    go_enter Try.func12, Try.ntmps12
    go_wp2_with fail
    go_loopg [5, 6, 14] xs.length (fun gk i0 p0 i wr => ∃ k : Nat, gk = xs.length - k ∧ k ≤ xs.length ∧ i = .int .i64 k ∧ Hid (xs.take k = ys.take k) ∧ Below w.heap.size w wr)
    case atStart => exact ⟨0, rfl, Nat.zero_le _, rfl, veil rfl, Below.refl _ _⟩
    case round =>
      obtain ⟨k, rfl, hk, rfl, He, hbel⟩ := hrel
      obtain ⟨W1, hW1⟩ : ∃ W1, W1 = wr := ⟨_, rfl⟩
      subst hW1
      have hz := hbel.size
      by_cases hlt : k < xs.length
      · have hltz : (k : Int) < (xs.length : Int) := by omega
        have hky : (k : Int) < (ys.length : Int) := by have := Hl.out; omega
        have hxs := hx.below hbel hG
        have hys := hy.below hbel hG
        obtain ⟨g, o, r, rfl, hg, hr, hrl, hrange⟩ := hxs.row hxl (by omega) hlt
        obtain ⟨g', o', r', rfl, hg', hr', hrl', hrange'⟩ := hys.row hyl (by omega) (k := k) (by omega)
        have hN := fun u => blk_neq r r' hrl hrl' u
        have Hl1 : Hid ((ints .i64 r).length = 64) := by show _ = _; rw [ints_length, hrl]
        have Hl2 : Hid ((ints .i64 r').length = 64) := by show _ = _; rw [ints_length, hrl']
        have hone := ints_one (k := .i64) (l := r)
        have Hr := veil hr; have Hr' := veil hr'
        have hb1 := below1 W1 (.cells (ints .i64 r).toArray 31)
        have hrange2 := range_below hrange' hb1 (by omega)
        have hB1 := Blk.new W1 (ints .i64 r) 31
        have hbel2 := hbel.trans (hb1.mono hz)
        have Hnx : Hid (∀ q, q = decide (r = r') → ((xs.take (k + 1) = ys.take (k + 1)) ↔ q = true)) := by
          intro q hq
          rw [take_snoc hr, take_snoc hr', He.out, hq]
          simp
        have Hno : Hid (r ≠ r' → xs ≠ ys) := by
          intro h e
          rw [e, hr'] at hr
          injection hr with hr; exact h hr.symm
        obtain ⟨q, hq⟩ : ∃ q, q = decide (r = r') := ⟨_, rfl⟩
        have Hq := veil hq
        unfold blkV at hN
        rw [← hq] at hN
        clear hr hr' hrl hrl' hx hy hxs hys hq hrange' hb1
        generalize ints .i64 r = us at *
        generalize ints .i64 r' = vs at *
        go_upto_region 6 with (first
          | (refine wpList_load_mid rfl 31 (.tmp 17) rfl g (o + k * 64) rfl us _ hrange Try.underlying31 rfl (info_blkn Hl1.out) ?_)
          | (refine wpList_store_new W1 rfl 31 (.tmp 6) (.tmp 18) rfl zeroB.toArray us rfl rfl (info_blkn Hl1.out) (by rw [Hl1.out]; rfl) hone ?_)
          | fail)
        obtain ⟨W2, hW2⟩ : ∃ W2, W2 = W1.alloc (.cells us.toArray 31) := ⟨_, rfl⟩
        rw [← hW2] at hrange2 hB1 hbel2 ⊢
        clear hW2 hrange
        refine wp_region_held_drew (S := fun w' => Blk w' W1.heap.size us 31 ∧ w'.rangeAt g' (o' + k * 64) vs) (by kernel_rfl) ⟨hB1, hrange2⟩ (fun hHeld0 => ?_)
        refine take_load 0 19 31 (.tmp 6) W1.heap.size 0 us _ rfl rfl (by kernel_rfl) (by kernel_rfl) (by kernel_rfl) (fun _ _ _ h => h) rfl rfl rfl (fun w' h => h.1.range) Try.underlying31 rfl (info_blkn Hl1.out) hHeld0 rfl ?_
        refine take_pure 1 20 (.slice (some ⟨g', o', none⟩) ys.length d) _ rfl rfl (by kernel_rfl) (by kernel_rfl) (by kernel_rfl) (fun _ _ _ h => h) rfl (fun w' hS => by go_simp) hHeld0 rfl ?_
        refine take_pure 2 21 (.int .i64 (k : Int)) _ rfl rfl (by kernel_rfl) (by kernel_rfl) (by kernel_rfl) (fun _ _ _ h => h) rfl (fun w' hS => by go_simp) hHeld0 rfl ?_
        refine take_pure 3 22 (.pointer (some ⟨g', o' + k * 64, none⟩)) _ rfl rfl (by kernel_rfl) (by kernel_rfl) (by kernel_rfl) (fun _ _ _ h => h) rfl (fun w' hS => by go_simp) hHeld0 rfl ?_
        refine take_load 4 23 31 (.tmp 22) g' (o' + k * 64) vs _ rfl rfl (by kernel_rfl) (by kernel_rfl) (by kernel_rfl) (fun _ _ _ h => h) rfl rfl rfl (fun w' h => h.2) Try.underlying31 rfl (info_blkn Hl2.out) hHeld0 rfl ?_
        refine take_pure 5 24 (.bool (!q)) _ rfl rfl (by kernel_rfl) (by kernel_rfl) (by kernel_rfl) (fun _ _ _ h => h) rfl (fun w' hS => by go_simp) hHeld0 rfl ?_
        refine wpAnyH_done (by kernel_rfl) ?_ _
        cases q with
        | true =>
          have Hn := veil ((Hnx.out true Hq.out).2 rfl)
          go_wp2_with fail
          go_roundg (xs.length - (k + 1))
          case rel => exact ⟨k + 1, rfl, by omega, by go_num, Hn, hbel2.drew⟩
          case measure => omega
        | false =>
          have hd : decide (xs = ys) = false := decide_eq_false (Hno.out (of_decide_eq_false Hq.out.symm))
          have Hd := veil hd
          clear hd
          go_wp2_with fail
          go_ret
          exact ⟨ret_bool Hd.out.symm, hbel2.drew⟩
      · go_wp2
        go_ret
        refine ⟨ret_bool ?_, hbel⟩
        symm
        have h3 := He.out
        rw [List.take_of_length_le (by omega), List.take_of_length_le (by have := Hl.out; omega)] at h3
        simpa using h3
  · have hne : ((xs.length : Int) != (ys.length : Int)) = true := by simp; omega
    have hd : decide (xs = ys) = false := by simp; intro e; exact hl (by rw [e])
    have Hd := veil hd
    clear hd hl
    go_enter Try.func12, Try.ntmps12
    go_wp2
    go_ret
    exact ⟨ret_bool Hd.out.symm, Below.refl _ _⟩
end Go.Proofs.Ytgajlplmpbaanaa

/- plane.isSide, along, Many: their contracts. -/
namespace Go.Proofs.Ytgajlplmpbaanaa
open Go.RowKit
set_option linter.unusedVariables false
set_option linter.unusedSimpArgs false
set_option maxRecDepth 100000

theorem along_any (W : Nat) (hW : W ≤ 64) (w : World) : Calls Try.prog 21 #[.int .i64 (W : Int)] w fun e w' => e = .returned (.int .i64 (acrossN W : Nat)) ∧ w' = w := by
  obtain ⟨P, hP⟩ : ∃ P, P = acrossN W := ⟨_, rfl⟩
  rw [← hP]
  unfold acrossN at hP
  obtain ⟨a, ha⟩ : ∃ a : Nat, a = W + 8 := ⟨_, rfl⟩
  obtain ⟨b, hb⟩ : ∃ b : Nat, b = W + 7 := ⟨_, rfl⟩
  have z1 : (W : Int) + 8 = (a : Int) := by omega
  have z2 : (a : Int) - 1 = (b : Int) := by omega
  have z3 : (b : Int) / 8 = (P : Int) := by omega
  have hb2 : a ≤ 72 ∧ b ≤ 71 ∧ P ≤ 8 := by omega
  clear hP ha hb
  go_enter Try.func21, Try.ntmps21
  go_wp2
  go_ret
  exact ⟨rfl, rfl⟩
theorem side_yes (n : Int) (h : 1 ≤ n ∧ n ≤ 64) (w : World) : Calls Try.prog 23 #[.int .i64 n] w fun e w' => e = .returned (.bool true) ∧ w' = w := by
  have h1 := h.1
  have h2 := h.2
  go_enter Try.func23, Try.ntmps23
  go_wp2
  go_ret
  exact ⟨rfl, rfl⟩
theorem side_no (n : Int) (h : n < 1 ∨ 64 < n) (w : World) : Calls Try.prog 23 #[.int .i64 n] w fun e w' => e = .returned (.bool false) ∧ w' = w := by
  by_cases h1 : 1 ≤ n
  · have h2 : ¬ n ≤ 64 := by omega
    go_enter Try.func23, Try.ntmps23
    go_wp2
    go_ret
    exact ⟨rfl, rfl⟩
  · go_enter Try.func23, Try.ntmps23
    go_wp2
    go_ret
    exact ⟨rfl, rfl⟩
theorem plMany_still (x y : Int) (w : World) : Calls Try.prog 11 #[.int .i64 x, .int .i64 y] w fun e w' => e = .returned (.tuple #[.int .i64 (oMany x y), .int .i64 (eSides x y)]) ∧ w' = w := by
  by_cases hx : x < 1 ∨ 64 < x
  · have hb : badWH x y := by unfold badWH; omega
    have e1 : eSides x y = 1 := if_pos hb
    have e2 : oMany x y = 0 := if_pos hb
    rw [e1, e2]
    have HX := veil (side_no x hx w)
    clear hx hb e1 e2
    go_enter Try.func11, Try.ntmps11
    go_wp2_with fail
    refine HX.out.mono ?_
    rintro e _ ⟨rfl, rfl⟩
    clear HX
    go_wp2
    go_ret2
    exact ⟨rfl, rfl⟩
  · have HX := veil (side_yes x (by omega) w)
    by_cases hy : y < 1 ∨ 64 < y
    · have hb : badWH x y := by unfold badWH; omega
      have e1 : eSides x y = 1 := if_pos hb
      have e2 : oMany x y = 0 := if_pos hb
      rw [e1, e2]
      have HY := veil (side_no y hy w)
      clear hx hy hb e1 e2
      go_enter Try.func11, Try.ntmps11
      go_wp2_with fail
      refine HX.out.mono ?_
      rintro e _ ⟨rfl, rfl⟩
      clear HX
      go_wp2_with fail
      refine HY.out.mono ?_
      rintro e _ ⟨rfl, rfl⟩
      clear HY
      go_wp2
      go_ret2
      exact ⟨rfl, rfl⟩
    · have hb : ¬ badWH x y := by unfold badWH; omega
      have e1 : eSides x y = 0 := if_neg hb
      have e2 : oMany x y = (manyN x.toNat y.toNat : Nat) := if_neg hb
      rw [e1, e2]
      have HY := veil (side_yes y (by omega) w)
      obtain ⟨W, hW⟩ : ∃ W : Nat, x = (W : Int) := ⟨x.toNat, by omega⟩
      obtain ⟨H, hH⟩ : ∃ H : Nat, y = (H : Int) := ⟨y.toNat, by omega⟩
      subst hW hH
      rw [Int.toNat_natCast, Int.toNat_natCast]
      have HA := veil (along_any W (by omega) w)
      have HB := veil (along_any H (by omega) w)
      obtain ⟨M, hM⟩ : ∃ M, M = manyN W H := ⟨_, rfl⟩
      have hm : M ≤ 64 := by rw [hM]; exact many_le (by omega) (by omega)
      have hmul : (acrossN W : Int) * (acrossN H : Int) = (M : Int) := by rw [hM, manyN]; simp
      rw [← hM]
      generalize acrossN W = P at *
      generalize acrossN H = Q at *
      clear hx hy hb e1 e2 hM
      go_enter Try.func11, Try.ntmps11
      go_wp2_with fail
      refine HX.out.mono ?_
      rintro e _ ⟨rfl, rfl⟩
      clear HX
      go_wp2_with fail
      refine HY.out.mono ?_
      rintro e _ ⟨rfl, rfl⟩
      clear HY
      go_wp2_with fail
      refine HA.out.mono ?_
      rintro e _ ⟨rfl, rfl⟩
      clear HA
      go_wp2_with fail
      refine HB.out.mono ?_
      rintro e _ ⟨rfl, rfl⟩
      clear HB
      go_wp2
      go_ret2
      exact ⟨rfl, rfl⟩
theorem plMany_any : PManySpec := by
  intro x y w _ _
  refine (plMany_still x y w).mono ?_
  rintro e w' ⟨rfl, rfl⟩
  exact ⟨rfl, Below.refl _ _⟩
end Go.Proofs.Ytgajlplmpbaanaa

/- plane.allWithin: its contract. -/
namespace Go.Proofs.Ytgajlplmpbaanaa
open Go.RowKit
set_option linter.unusedVariables false
set_option linter.unusedSimpArgs false
set_option maxRecDepth 100000

theorem plFn_any (n lo hi : Int) (b1 b2 : Nat) (w : World) (h1 : w.cell? ⟨b1, 0, none⟩ = some (.int .i64 lo)) (h2 : w.cell? ⟨b2, 0, none⟩ = some (.int .i64 hi)) :
    Calls Try.prog 30 #[.int .i64 n, .pointer (some ⟨b1, 0, none⟩), .pointer (some ⟨b2, 0, none⟩)] w fun e w' => e = .returned (.bool (!decide (lo ≤ n ∧ n ≤ hi))) ∧ w' = w := by
  obtain ⟨R, hR⟩ : ∃ R, R = !decide (lo ≤ n ∧ n ≤ hi) := ⟨_, rfl⟩
  rw [← hR]
  by_cases h3 : n < lo
  · have h : R = true := by rw [hR]; simp; omega
    subst h; clear hR
    go_enter Try.func30, Try.ntmps30
    go_wp2
    go_ret
    exact ⟨rfl, rfl⟩
  · by_cases h4 : hi < n
    · have h : R = true := by rw [hR]; simp; omega
      subst h; clear hR
      go_enter Try.func30, Try.ntmps30
      go_wp2
      go_ret
      exact ⟨rfl, rfl⟩
    · have h : R = false := by rw [hR]; simp; omega
      subst h; clear hR
      go_enter Try.func30, Try.ntmps30
      go_wp2
      go_ret
      exact ⟨rfl, rfl⟩
set_option maxHeartbeats 1000000 in
theorem plIndex_any (l : List Int) (A : Option Addr) (c G : Nat) (lo hi : Int) (b1 b2 : Nat) (w : World) (hs : Seen w G A (ints .i64 l)) (hl : l.length ≤ 1048576) (h1 : w.cell? ⟨b1, 0, none⟩ = some (.int .i64 lo)) (h2 : w.cell? ⟨b2, 0, none⟩ = some (.int .i64 hi)) :
    Calls Try.prog 31 #[.slice A l.length c, .func (.func 30) #[] #[.pointer (some ⟨b1, 0, none⟩), .pointer (some ⟨b2, 0, none⟩)]] w fun e w' => ∃ r : Int, e = .returned (.int .i64 r) ∧ decide (0 ≤ r) = !inB lo hi l ∧ w' = w := by
  have HF := veil (fun n => plFn_any n lo hi b1 b2 w h1 h2)
  clear h1 h2
  go_enter Try.func31, Try.ntmps31
  go_wp2_with fail
  go_loopg [8] l.length (fun gk iv wr => ∃ k : Nat, gk = l.length - k ∧ k ≤ l.length ∧ iv = .int .i64 (k : Int) ∧ Hid (inB lo hi (l.take k) = true) ∧ w = wr)
  case atStart => exact ⟨0, rfl, Nat.zero_le _, rfl, by show _ = _; simp [inB], rfl⟩
  case round =>
    obtain ⟨k, rfl, hk, rfl, HI, rfl⟩ := hrel
    by_cases hlt : k < l.length
    · have hltz : (k : Int) < (l.length : Int) := by omega
      obtain ⟨g, o, n, rfl, hg, hx, hcx⟩ := hs.int hlt
      have HN := veil (HF.out n)
      by_cases hn : lo ≤ n ∧ n ≤ hi
      · have HI2 := veil (inB_snoc hx HI.out hn)
        rw [show (!decide (lo ≤ n ∧ n ≤ hi)) = false by simp [hn]] at HN
        clear hn hx HI HF
        go_wp2_with fail
        refine HN.out.mono ?_
        rintro e wq ⟨rfl, hwq⟩
        subst hwq
        clear HN
        go_wp2_with fail
        go_roundg (l.length - (k + 1))
        case rel => exact ⟨k + 1, rfl, by omega, by go_num, HI2, rfl⟩
        case measure => omega
      · have hB : inB lo hi l = false := by
          cases hq : inB lo hi l with
          | false => rfl
          | true => exact absurd (inB_at hq hx) hn
        have HB := veil hB
        rw [show (!decide (lo ≤ n ∧ n ≤ hi)) = true by rw [decide_eq_false hn]; rfl] at HN
        clear hn hx HI HF hB
        go_wp2_with fail
        refine HN.out.mono ?_
        rintro e wq ⟨rfl, hwq⟩
        subst hwq
        clear HN
        go_wp2_with fail
        go_ret
        exact ⟨_, rfl, by rw [HB.out, decide_eq_true (by omega)]; rfl, rfl⟩
    · obtain rfl : k = l.length := by omega
      have hi2 := HI.out
      rw [List.take_length] at hi2
      have HI2 := veil hi2
      have hltz : ¬ (l.length : Int) < (l.length : Int) := by omega
      clear hi2 HI HF
      go_wp2_with fail
      go_ret
      exact ⟨_, rfl, by rw [HI2.out]; rfl, rfl⟩
theorem plContains_any (l : List Int) (A : Option Addr) (c G : Nat) (lo hi : Int) (b1 b2 : Nat) (w : World) (hs : Seen w G A (ints .i64 l)) (hl : l.length ≤ 1048576) (h1 : w.cell? ⟨b1, 0, none⟩ = some (.int .i64 lo)) (h2 : w.cell? ⟨b2, 0, none⟩ = some (.int .i64 hi)) :
    Calls Try.prog 29 #[.slice A l.length c, .func (.func 30) #[] #[.pointer (some ⟨b1, 0, none⟩), .pointer (some ⟨b2, 0, none⟩)]] w fun e w' => e = .returned (.bool (!inB lo hi l)) ∧ w' = w := by
  have HX := veil (plIndex_any l A c G lo hi b1 b2 w hs hl h1 h2)
  clear hs h1 h2
  generalize inB lo hi l = B at *
  go_enter Try.func29, Try.ntmps29
  go_wp2_with fail
  refine HX.out.mono ?_
  rintro e wq ⟨r, rfl, hr, hwq⟩
  subst hwq
  have Hr := veil hr
  clear HX hr
  by_cases h : 0 ≤ r
  · go_wp2_with fail
    go_ret
    exact ⟨by rw [← Hr.out, decide_eq_true h]; rfl, rfl⟩
  · go_wp2_with fail
    go_ret
    exact ⟨by rw [← Hr.out]; rfl, rfl⟩
set_option maxHeartbeats 1000000 in
theorem plAll_any (l : List Int) (A : Option Addr) (c G : Nat) (lo hi : Int) (w : World) (hs : Seen w G A (ints .i64 l)) (hl : l.length ≤ 1048576) (hG : G ≤ w.heap.size) :
    Calls Try.prog 20 #[.slice A l.length c, .int .i64 lo, .int .i64 hi] w fun e w' => e = .returned (.bool (inB lo hi l)) ∧ Below w.heap.size w w' := by
  have hb2 := below2 w (.cells #[.int .i64 lo] 3) (.cells #[.int .i64 hi] 3)
  have c0 := (Blk.new w [.int .i64 lo] 3).below (below1 _ (.cells #[.int .i64 hi] 3)) (by simp)
  have c1 := Blk.new (w.alloc (.cells #[.int .i64 lo] 3)) [.int .i64 hi] 3
  rw [show (w.alloc (.cells #[.int .i64 lo] 3)).heap.size = w.heap.size + 1 by simp] at c1
  have HC := veil (plContains_any l A c G lo hi w.heap.size (w.heap.size + 1) _ (hs.below hb2 hG) hl (c0.cell rfl) (c1.cell rfl))
  have HB := veil hb2
  clear c0 c1 hb2 hs
  generalize inB lo hi l = B at *
  go_enter Try.func20, Try.ntmps20
  go_wp2_with fail
  refine HC.out.mono ?_
  rintro e wq ⟨rfl, hwq⟩
  subst hwq
  clear HC
  go_wp2_with fail
  go_ret
  exact ⟨rfl, HB.out⟩
end Go.Proofs.Ytgajlplmpbaanaa

/- A row filled number by number, in numbers; a block as a row that is owned. No program is named here. -/
namespace Go.Proofs.Ytgajlplmpbaanaa
open Go.RowKit
set_option linter.unusedVariables false
set_option linter.unusedSimpArgs false
set_option maxRecDepth 100000

/-- The first k of N numbers told, then zeros. -/
def fillP (f : Nat → Int) (N k : Nat) : List Int := (List.range N).map fun j => if j < k then f j else 0
theorem fillP_length (f : Nat → Int) (N k : Nat) : (fillP f N k).length = N := by simp [fillP]
theorem fillP_0 (f : Nat → Int) (N : Nat) : fillP f N 0 = List.replicate N 0 := by
  apply List.ext_getElem?
  intro i
  unfold fillP
  rw [List.getElem?_map, List.getElem?_replicate]
  by_cases hi : i < N
  · rw [List.getElem?_range hi, if_pos hi]; simp
  · rw [List.getElem?_eq_none (by simp; omega), if_neg hi]; rfl
theorem fillP_all (f : Nat → Int) (N : Nat) : fillP f N N = (List.range N).map f := by
  unfold fillP
  exact List.map_congr_left fun i hi => by rw [if_pos (List.mem_range.1 hi)]
theorem fillP_at {f : Nat → Int} {N k i : Nat} (hi : i < N) : (fillP f N k)[i]? = some (if i < k then f i else 0) := by
  unfold fillP; rw [List.getElem?_map, List.getElem?_range hi]; rfl
theorem fillP_next {f : Nat → Int} {N k : Nat} (hk : k < N) : (fillP f N k).set k (f k) = fillP f N (k + 1) := by
  apply List.ext_getElem?
  intro i
  rw [List.getElem?_set, fillP_length]
  by_cases hi : i < N
  · rw [fillP_at hi, fillP_at hi]
    by_cases hki : k = i
    · subst hki; rw [if_pos rfl, if_pos hk, if_pos (by omega)]
    · rw [if_neg hki]
      congr 1
      by_cases h1 : i < k
      · rw [if_pos h1, if_pos (by omega)]
      · rw [if_neg h1, if_neg (by omega)]
  · rw [if_neg (by omega), List.getElem?_eq_none (by rw [fillP_length]; omega), List.getElem?_eq_none (by rw [fillP_length]; omega)]
/-- A block whose cells are all known, as a row of one's own. -/
theorem Owns.ofBlk {w : World} {B g n size : Nat} {e : TypeId} {xs : List Value} (h : Blk w g xs e) (hB : B ≤ g) (hl : xs.length = n * size) (hm : n ≤ maxLen) : Owns B [⟨e, size, .slice (some ⟨g, 0, none⟩) n n, n, xs⟩] w :=
  .one (by have := h.lt; omega) ⟨hl, .inr ⟨g, n, xs.toArray, rfl, hB, h, Nat.le_refl _, hm, by simpa using hl, by simp only [List.toList_toArray]; rw [List.take_of_length_le (by omega)]⟩⟩
end Go.Proofs.Ytgajlplmpbaanaa

/- plane.Cut: its contract. -/
namespace Go.Proofs.Ytgajlplmpbaanaa
open Go.RowKit
set_option linter.unusedVariables false
set_option linter.unusedSimpArgs false
set_option maxRecDepth 100000

theorem made_cut (n : Nat) : madeCells (Value.agg zeroB.toArray).cells (n * 64) = (ints .i64 (List.replicate (n * 64) 0)).toArray := by
  rw [show ints .i64 (List.replicate (n * 64) 0) = List.replicate (n * 64) (.int .i64 0) by simp [ints]]
  apply Array.ext
  · simp [madeCells]
  · intro i h1 h2
    have hz : ∀ j, j < 64 → zeroB[j]? = some (.int .i64 0) := by
      intro j hj
      show (ints .i64 (List.replicate 64 0))[j]? = _
      exact ints_at (List.getElem?_replicate.trans (if_pos hj))
    have h3 := hz (i % 64) (Nat.mod_lt _ (by omega))
    have hl : (zeroB.toArray).size = 64 := by simp [zeroB_length]
    simp only [madeCells, Value.cells, Array.getElem_map, Array.getElem_range, hl, List.getElem_toArray, List.getElem_replicate]
    rw [getElem!_def]
    simp [h3]
theorem run_make_cut (n : Nat) (h : n ≤ 1000000) (u : World) : (Instr.makeSlice 23 (.int .i64 (n : Int)) (.int .i64 (n : Int))).run Try.prog u =
    .ok (.slice (some ⟨u.heap.size, 0, none⟩) n n) (u.alloc (.cells (ints .i64 (List.replicate (n * 64) 0)).toArray 31)) := by
  obtain ⟨i0, hi, hz0, hz1, hz2⟩ := info_parts info_blk3
  have h := run_make (P := Try.prog) u 23 31 i0 (.agg zeroB.toArray) Try.underlying23 hi hz0 .i64 .i64 n n (by omega) (by omega) (by rw [hz2]; omega) (by omega)
  rw [h, hz1]
  simp only [Int.toNat_natCast]
  rw [made_cut]
/-- The numbers of all blocks, one behind another. -/
def cutF (l : List Int) (W H j : Nat) : Int := cellAt l W H (8 * (j / 64 / acrossN W)) (8 * (j / 64 % acrossN W)) (j % 64)
theorem cutF_rows (l : List Int) (W H : Nat) : rowsC (cutL l W H) = ints .i64 ((List.range (manyN W H * 64)).map (cutF l W H)) := by
  have hr : ∀ r ∈ cutL l W H, r.length = 64 := cutK_rows
  have hl : (rowsC (cutL l W H)).length = manyN W H * 64 := by rw [rowsC_length hr, cutL_length]
  apply List.ext_getElem?
  intro t
  by_cases ht : t < manyN W H * 64
  · have h1 : t / 64 < manyN W H := by omega
    have h2 := rowsC_at hr (cutL_get (l := l) h1) (show t % 64 < 64 by omega)
    rw [show t / 64 * 64 + t % 64 = t by omega] at h2
    rw [h2, ints_at (blockAt_get (by omega))]
    refine (ints_at ?_).symm
    rw [List.getElem?_map, List.getElem?_range ht]
    rfl
  · rw [List.getElem?_eq_none (by omega), List.getElem?_eq_none (by rw [ints_length]; simp; omega)]
set_option maxRecDepth 100000 in
set_option maxHeartbeats 2000000 in
theorem plCut_any : PCutSpec := by
  intro l A c G x y w hs hlb hl hcap hx hy hG
  obtain ⟨E, hE⟩ : ∃ E, E = eCut l x y := ⟨_, rfl⟩
  obtain ⟨O, hO⟩ : ∃ O, O = oCut l x y := ⟨_, rfl⟩
  rw [← hE, ← hO]
  have HE := veil hE; have HO := veil hO
  have HOe : Hid (E ≠ 0 → O = []) := by show _ → _; intro h; rw [hO]; exact if_neg (by rw [← hE]; exact h)
  have HOk : Hid (E = 0 → O = cutL l x.toNat y.toNat) := by show _ → _; intro h; rw [hO]; exact if_pos (by rw [← hE]; exact h)
  have HMa := veil (plMany_still x y w)
  have hempty : ∀ w', Below w.heap.size w w' → Owns w.heap.size [blkRow (.slice none 0 0) []] w' := fun w' h => (Owns.nil h.size).fresh _ _
  have Hempty := veil hempty
  clear hE hO hempty hlb hx hy
  unfold maxLen at hl
  go_enter Try.func9, Try.ntmps9
  go_wp2_with fail
  refine HMa.out.mono ?_
  rintro e wq ⟨rfl, hwq⟩
  obtain rfl : w = wq := hwq.symm
  clear hwq HMa
  by_cases hbad : badWH x y
  · have hE1 := HE.out.trans (eCut_bad hbad)
    have hO1 := HOe.out (by rw [hE1]; decide)
    have e1 : eSides x y = 1 := if_pos hbad
    rw [e1]
    subst hO1
    have HE1 := veil hE1
    clear hE1 e1 hbad
    go_wp2_with fail
    go_ret2
    exact ⟨_, ret_two rfl (by rw [HE1.out]; rfl), Hempty.out _ (Below.refl _ _), Below.refl _ _⟩
  · have e1 : eSides x y = 0 := if_neg hbad
    have e2 : oMany x y = (manyN x.toNat y.toNat : Nat) := if_neg hbad
    rw [e1, e2]
    have hb' := hbad
    unfold badWH at hb'
    obtain ⟨W, hW⟩ : ∃ W : Nat, x = (W : Int) := ⟨x.toNat, by omega⟩
    obtain ⟨H, hH⟩ : ∃ H : Nat, y = (H : Int) := ⟨y.toNat, by omega⟩
    subst hW hH
    rw [Int.toNat_natCast, Int.toNat_natCast] at HOk
    rw [Int.toNat_natCast, Int.toNat_natCast]
    have hW1 : 1 ≤ W ∧ W ≤ 64 := by omega
    have hH1 : 1 ≤ H ∧ H ≤ 64 := by omega
    have hM64 := many_le hW1.2 hH1.2
    obtain ⟨M, hM⟩ : ∃ M, M = manyN W H := ⟨_, rfl⟩
    rw [← hM] at hM64 ⊢
    have HM := veil hM
    obtain ⟨N, hN⟩ : ∃ N, N = W * H := ⟨_, rfl⟩
    have hN64 : N ≤ 4096 := by rw [hN]; exact Nat.mul_le_mul hW1.2 hH1.2
    have hNz : (W : Int) * (H : Int) = (N : Int) := by rw [hN]; simp
    have HN := veil hN
    have Hbad : Hid (¬ badWH (W : Int) (H : Int)) := hbad
    clear hN hM e1 e2 hb' hbad
    by_cases hlen : l.length = N
    · have hlz : ((l.length : Int) != (N : Int)) = false := by simp; omega
      have HE2 := veil (HE.out.trans (eCut_in Hbad.out (by rw [hlen, hNz])))
      have Hlen := veil hlen
      have hl4 : l.length ≤ 4096 := by omega
      have HC := veil (plAll_any l A c G 0 255 w hs (by omega) hG)
      clear hlen HE HO
      go_wp2_with fail
      refine HC.out.mono ?_
      rintro e w1 ⟨rfl, hb1⟩
      clear HC
      cases hin : inB 0 255 l with
      | false =>
        have hE1 := HE2.out
        rw [if_neg (by rw [hin]; decide)] at hE1
        have hO1 := HOe.out (by rw [hE1]; decide)
        subst hO1
        have HE1 := veil hE1
        clear hE1 hin
        have HB1 := veil hb1
        go_wp2_with fail
        go_ret2
        exact ⟨_, ret_two rfl (by rw [HE1.out]; rfl), Hempty.out _ HB1.out, HB1.out⟩
      | true =>
        have hE0 := HE2.out
        rw [if_pos hin] at hE0
        have hOc := HOk.out hE0
        have HE0 := veil hE0; have HOc := veil hOc; have Hin := veil hin
        clear hE0 hOc hin HE2 HOk HOe Hbad hlz
        have hmk := run_make_cut M (by omega) w1
        obtain ⟨g0, hg0⟩ : ∃ g0, g0 = w1.heap.size := ⟨_, rfl⟩
        have HK0 : Hid (Blk (w1.alloc (.cells (ints .i64 (List.replicate (M * 64) 0)).toArray 31)) g0 (ints .i64 (fillP (cutF l W H) (M * 64) (64 * 0))) 31) := veil (by rw [Nat.mul_zero, fillP_0, hg0]; exact Blk.new ..)
        have hgw : w.heap.size ≤ g0 := by rw [hg0]; exact hb1.size
        have HB1 := veil (hb1.alloc hb1.size (.cells (ints .i64 (List.replicate (M * 64) 0)).toArray 31))
        obtain ⟨W1, hW1'⟩ : ∃ W1, W1 = w1.alloc (.cells (ints .i64 (List.replicate (M * 64) 0)).toArray 31) := ⟨_, rfl⟩
        rw [← hW1'] at HK0 HB1 hmk
        rw [← hg0] at hmk
        clear hW1' hg0 hb1
        obtain ⟨P, hP⟩ : ∃ P, P = acrossN W := ⟨_, rfl⟩
        have hP8 : 1 ≤ P ∧ P ≤ 8 := by rw [hP]; unfold acrossN; omega
        have HP := veil hP
        have HAl := veil (fun W' => along_any W hW1.2 W')
        rw [← hP] at HAl
        have zP0 : ((P : Int) == 0) = false := by rw [beq_eq_false_iff_ne]; omega
        clear hP
        go_wp2_with fail
        clear hmk
        go_loopg [11, 12, 13, 14, 15, 16, 39] M (fun gk v11 v12 v13 v14 v15 v16 iv wr => ∃ k : Nat, gk = M - k ∧ k ≤ M ∧ iv = .int .i64 (k : Int) ∧ Hid (Blk wr g0 (ints .i64 (fillP (cutF l W H) (M * 64) (64 * k))) 31) ∧ Hid (Below w.heap.size w wr))
        case atStart => exact ⟨0, rfl, Nat.zero_le _, rfl, HK0, HB1⟩
        case round =>
          clear HK0 HB1
          obtain ⟨k, rfl, hk, rfl, HK, HB⟩ := hrel
          by_cases hkt : k < M
          · have hkz : (k : Int) < (M : Int) := by omega
            obtain ⟨a, ha⟩ : ∃ a : Nat, a = k / P := ⟨_, rfl⟩
            obtain ⟨b, hb⟩ : ∃ b : Nat, b = k % P := ⟨_, rfl⟩
            obtain ⟨m, hm⟩ : ∃ m : Nat, m = 8 * a := ⟨_, rfl⟩
            obtain ⟨n, hn⟩ : ∃ n : Nat, n = 8 * b := ⟨_, rfl⟩
            have za : (k : Int) / (P : Int) = (a : Int) := by rw [ha]; simp
            have za2 : (k : Int).tdiv (P : Int) = (a : Int) := by rw [Int.tdiv_eq_ediv_of_nonneg (by omega)]; exact za
            have zb : (k : Int) % (P : Int) = (b : Int) := by rw [hb]; simp
            have zb2 : (k : Int).tmod (P : Int) = (b : Int) := by rw [Int.tmod_eq_emod_of_nonneg (by omega)]; exact zb
            have hb8 : b < 8 := by have : b < P := by rw [hb]; exact Nat.mod_lt _ (by omega)
                                   omega
            have ha64 : a ≤ k := by rw [ha]; exact Nat.div_le_self _ _
            have zm : 8 * (a : Int) = (m : Int) := by omega
            have zn : 8 * (b : Int) = (n : Int) := by omega
            have hmn : m ≤ 512 ∧ n ≤ 64 := by omega
            have HF : Hid (∀ i, i < 64 → cutF l W H (64 * k + i) = cellAt l W H m n i) := veil fun i hi => by
              unfold cutF
              rw [show (64 * k + i) / 64 = k by omega, show (64 * k + i) % 64 = i by omega, ← HP.out, ← ha, ← hb, hm, hn]
            clear ha hb hm hn
            go_wp2_with fail
            go_quiet (first | (go_at_call 21; with_reducible exact Calls.quiet_of_same (HAl.out _)) | fail)
            have HBd : Hid (Below w.heap.size w (wr.drewN nq)) := HB.out.drewN nq
            have HKd : Hid (Blk (wr.drewN nq) g0 (ints .i64 (fillP (cutF l W H) (M * 64) (64 * k + 0))) 31) := HK.out.drewN nq
            obtain ⟨W2, hW2⟩ : ∃ W2, W2 = wr.drewN nq := ⟨_, rfl⟩
            rw [← hW2] at HBd HKd ⊢
            clear hW2 HK HB za za2 zb zb2
            go_wp2_with fail
            go_loopg [14, 15, 16, 52] 64 (fun gk v14 v15 v16 iv wr => ∃ i : Nat, gk = 64 - i ∧ i ≤ 64 ∧ iv = .int .i64 (i : Int) ∧ Hid (Blk wr g0 (ints .i64 (fillP (cutF l W H) (M * 64) (64 * k + i))) 31) ∧ Hid (Below w.heap.size w wr))
            case atStart => exact ⟨0, rfl, Nat.zero_le _, rfl, HKd, HBd⟩
            case round =>
              clear HKd HBd
              obtain ⟨i, rfl, hi, rfl, HK, HB⟩ := hrel
              by_cases hit : i < 64
              · have hiz : (i : Int) < 64 := by omega
                obtain ⟨q, hq⟩ : ∃ q : Nat, q = i / 8 := ⟨_, rfl⟩
                obtain ⟨r, hr⟩ : ∃ r : Nat, r = i % 8 := ⟨_, rfl⟩
                obtain ⟨r1, hr1⟩ : ∃ r1 : Nat, r1 = min (m + q) (H - 1) := ⟨_, rfl⟩
                obtain ⟨c1, hc1⟩ : ∃ c1 : Nat, c1 = min (n + r) (W - 1) := ⟨_, rfl⟩
                have hix : W * r1 + c1 < N := by rw [hr1, hc1, HN.out]; exact idx_lt (by omega) (by omega)
                obtain ⟨p1, hp1⟩ : ∃ p1 : Nat, p1 = W * r1 := ⟨_, rfl⟩
                obtain ⟨j, hj⟩ : ∃ j : Nat, j = p1 + c1 := ⟨_, rfl⟩
                have hjl : j < l.length := by have := Hlen.out; omega
                have hs6 := hs.below HB.out hG
                obtain ⟨g, o, v, rfl, hg, hx, hcx⟩ := hs6.int hjl
                have hvi : 0 ≤ v ∧ v ≤ 255 := inB_at Hin.out hx
                have hcell : cutF l W H (64 * k + i) = v - 128 := by
                  rw [HF.out i hit]
                  unfold cellAt
                  rw [← hq, ← hr, ← hr1, ← hc1, ← hp1, ← hj, getD_of hx]
                have hti : 64 * k + i < M * 64 := by omega
                obtain ⟨t, ht⟩ : ∃ t : Nat, t = 64 * k + i := ⟨_, rfl⟩
                have hcx2 : wr.drew.cell? ⟨g, o + j, none⟩ = some (.int .i64 v) := hcx
                obtain ⟨y0, hy0⟩ : ∃ y0, (fillP (cutF l W H) (M * 64) (64 * k + i))[64 * k + i]? = some y0 := ⟨_, fillP_at hti⟩
                have hcy : wr.drew.cell? ⟨g0, k * 64 + i, none⟩ = some (.int .i64 y0) := by
                  rw [show k * 64 + i = 64 * k + i by omega]
                  exact HK.out.cell (ints_at hy0)
                have hfy : wr.drew.frozen? ⟨g0, k * 64 + i, none⟩ = false := HK.out.frozen _
                have HK5 : Hid (Blk (wr.drew.setCell ⟨g0, k * 64 + i, none⟩ (.int .i64 (v - 128))) g0 (ints .i64 (fillP (cutF l W H) (M * 64) (64 * k + (i + 1)))) 31) := veil (by
                  have := HK.out.set (64 * k + i) (.int .i64 (v - 128))
                  rw [show (ints .i64 (fillP (cutF l W H) (M * 64) (64 * k + i))).set (64 * k + i) (.int .i64 (v - 128)) = ints .i64 ((fillP (cutF l W H) (M * 64) (64 * k + i)).set (64 * k + i) (v - 128)) by simp [ints, List.map_set], ← hcell, fillP_next hti, hcell] at this
                  rw [show k * 64 + i = 64 * k + i by omega]
                  exact this)
                have HB5 : Hid (Below w.heap.size w (wr.drew.setCell ⟨g0, k * 64 + i, none⟩ (.int .i64 (v - 128)))) := veil (HB.out.drew.setCell (by simpa using hgw) _)
                have zq : (i : Int) / 8 = (q : Int) := by omega
                have zr : (i : Int) % 8 = (r : Int) := by omega
                obtain ⟨e1, he1⟩ : ∃ e1 : Nat, e1 = m + q := ⟨_, rfl⟩
                obtain ⟨e2, he2⟩ : ∃ e2 : Nat, e2 = n + r := ⟨_, rfl⟩
                obtain ⟨h1, hh1⟩ : ∃ h1 : Nat, h1 = H - 1 := ⟨_, rfl⟩
                obtain ⟨w1, hw1⟩ : ∃ w1 : Nat, w1 = W - 1 := ⟨_, rfl⟩
                have z1 : (m : Int) + (q : Int) = (e1 : Int) := by omega
                have z2 : (n : Int) + (r : Int) = (e2 : Int) := by omega
                have z3 : (H : Int) - 1 = (h1 : Int) := by omega
                have z4 : (W : Int) - 1 = (w1 : Int) := by omega
                have z5 : ((h1 : Int) < (e1 : Int) ∧ h1 = r1) ∨ (¬ (h1 : Int) < (e1 : Int) ∧ e1 = r1) := by omega
                have z6 : ((w1 : Int) < (e2 : Int) ∧ w1 = c1) ∨ (¬ (w1 : Int) < (e2 : Int) ∧ e2 = c1) := by omega
                have z7 : (r1 : Int) * (W : Int) = (p1 : Int) := by rw [hp1, Nat.mul_comm]; simp
                have z8 : (p1 : Int) + (c1 : Int) = (j : Int) := by omega
                have b1 : q < 8 ∧ r < 8 ∧ e1 < 600 ∧ e2 < 80 ∧ h1 < 64 ∧ w1 < 64 ∧ r1 < 64 ∧ c1 < 64 ∧ p1 ≤ 4096 ∧ j < 4096 := by omega
                have hjz : (j : Int) < (l.length : Int) := by omega
                have y1 : IntKind.i64.wrap (p1 : Int) = (p1 : Int) := by rw [IntKind.wrap_i64]; omega
                have y2 : IntKind.i64.wrap (j : Int) = (j : Int) := by rw [IntKind.wrap_i64]; omega
                have y3 : IntKind.i64.wrap (v - 128) = v - 128 := by rw [IntKind.wrap_i64]; omega
                clear hy0 HK HB hx hcell hq hr hr1 hc1 hix hp1 hj he1 he2 hh1 hw1 hs6 ht hti
                rcases z5 with ⟨z5, rfl⟩ | ⟨z5, rfl⟩ <;> rcases z6 with ⟨z6, rfl⟩ | ⟨z6, rfl⟩
                all_goals
                  go_wp2_with fail
                  go_still_tail 14, (by kernel_rfl)
                  repeat still_step
                  try refine wpStill_nil ?_
                  change wpList _ _ _ _ _ wr.drew
                  go_wp2_with fail
                  go_roundg (64 - (i + 1))
                  case rel => exact ⟨i + 1, rfl, by omega, by go_num, HK5, HB5⟩
                  case measure => omega
              · obtain rfl : i = 64 := by omega
                have HK2 : Hid (Blk wr g0 (ints .i64 (fillP (cutF l W H) (M * 64) (64 * (k + 1)))) 31) := HK
                have HB2 := HB
                clear HK HB
                go_wp2_with fail
                go_roundg (M - (k + 1))
                case rel => exact ⟨k + 1, rfl, by omega, by go_num, HK2, HB2⟩
                case measure => omega
          · obtain rfl : M = k := by omega
            have hkz : ¬ (M : Int) < (M : Int) := by omega
            have HO3 : Hid (Owns w.heap.size [blkRow (.slice (some ⟨g0, 0, none⟩) M M) O] wr) := veil (by
              have h := HK.out
              rw [show 64 * M = M * 64 from Nat.mul_comm .., fillP_all] at h
              have hOl : O.length = M := by rw [HOc.out, cutL_length, HM.out]
              have hr : rowsC O = ints .i64 ((List.range (M * 64)).map (cutF l W H)) := by rw [HOc.out, cutF_rows, HM.out]
              rw [← hr] at h
              have hrl : (rowsC O).length = M * 64 := by rw [hr, ints_length]; simp
              have := Owns.ofBlk (n := M) (size := 64) h hgw hrl (by unfold maxLen; omega)
              show Owns _ [⟨31, 64, _, O.length, rowsC O⟩] _
              rw [hOl]; exact this)
            have HE1 := HE0
            clear HK
            go_wp2_with fail
            go_ret2
            exact ⟨_, ret_two rfl (by rw [HE1.out]; rfl), HO3.out, HB.out⟩
    · have hlz : ((l.length : Int) != (N : Int)) = true := by simp; omega
      have hE1 := HE.out.trans (eCut_len Hbad.out (by rw [hNz]; omega))
      have hO1 := HOe.out (by rw [hE1]; decide)
      subst hO1
      have HE1 := veil hE1
      clear hE1 hlen
      go_wp2_with fail
      go_ret2
      exact ⟨_, ret_two rfl (by rw [HE1.out]; rfl), Hempty.out _ (Below.refl _ _), Below.refl _ _⟩
end Go.Proofs.Ytgajlplmpbaanaa

/- From the form's readings of the arguments to the words of Mem: slices of integers, slices of structs of integers. -/
namespace Go.Proofs.Ytgajlplmpbaanaa
open Go.RowKit Go.ChangeShapes Go.WideShapes Go.ChangeAt Go.Deep
set_option linter.unusedVariables false
set_option linter.unusedSimpArgs false
set_option maxRecDepth 100000

theorem own : ownKnob Try.prog.godebug = none := by kernel_rfl
theorem laidOut : laidOutB Try.prog = true := by kernel_rfl

section
variable {H : Type} {enc : TypeId × Value → H}

theorem bulk_pos (d : DataW H) : 1 ≤ Rows.uptoBulk d := by
  cases d with
  | lit l => cases l <;> simp [Rows.uptoBulk]
  | nil => simp [Rows.uptoBulk]
  | ptr d => simp [Rows.uptoBulk]
  | slice elems spare => simp [Rows.uptoBulk]
  | agg parts => simp [Rows.uptoBulk]
  | iface t d => simp [Rows.uptoBulk]
  | map entries => simp [Rows.uptoBulk]
  | held h => simp [Rows.uptoBulk]
theorem bulk_length (l : List (DataW H)) : l.length ≤ Rows.uptoBulkAll l := by
  induction l with
  | nil => simp [Rows.uptoBulkAll]
  | cons x r ih => have := bulk_pos x; simp only [Rows.uptoBulkAll, List.length_cons]; omega

/-- A slice of integers that came in. -/
theorem openInts {W : World} {t e : TypeId} {k : IntKind} {a : Option Addr} {len cap : Nat} {d : DataW H} {p : List MemPlace} {sp : Nat → Bool} {hd : Bool}
    (ht : Try.prog.underlying t = some (.slice e)) (he : Try.prog.underlying e = some (.int k)) (hc : Try.prog.cellsOf e = 1)
    (h : DataW.Trod enc Try.prog W 0 sp hd t (.slice a len cap) d p) :
    ∃ xs : List Int, len = xs.length ∧ Seen W W.heap.size a (ints k xs) ∧ (∀ x ∈ xs, (Lit.int k x).wf = true) ∧ xs.length ≤ maxLen ∧ cap ≤ maxLen ∧ xs.length ≤ cap ∧ xs.length ≤ Rows.uptoBulk d := by
  obtain ⟨fuel, hf⟩ := h
  rcases open_ints ht he hc hf with ⟨hcs, _⟩ | ⟨x, l, c, zs, hcs, _, hl, hm, hz, hx, hcell, hwz⟩
  · simp [Value.cells] at hcs
    obtain ⟨rfl, rfl, rfl⟩ := hcs
    exact ⟨[], rfl, .inl rfl, by simp, Nat.zero_le _, Nat.zero_le _, Nat.zero_le _, Nat.zero_le _⟩
  · simp [Value.cells] at hcs
    obtain ⟨rfl, rfl, rfl⟩ := hcs
    have hlz : len ≤ zs.length := by rw [hz]; split <;> omega
    simp only [Prod.mk.injEq] at hx
    refine ⟨zs.take len, by simp [Nat.min_eq_left hlz], ?_, fun x hx => hwz x (List.mem_of_mem_take hx), by simp; omega, hm, by simp; omega, ?_⟩
    · by_cases h0 : len = 0
      · subst h0; exact .inl rfl
      · have h1 := hcell 0 (by omega)
        have hsp := World.cell?_spot h1
        have hb := World.block_lt_of_cell? W _ h1
        obtain ⟨b, o, s⟩ := x
        simp [Addr.add] at hsp hb
        subst hsp
        refine .inr ⟨b, o, rfl, hb, fun j u hu => ?_⟩
        have hj : j < zs.length := by
          have := (List.getElem?_eq_some_iff.1 hu).1
          simp [ints] at this; omega
        have h2 := hcell j hj
        have h3 : (ints k (zs.take len))[j]? = some (.int k (zs.getD j 0)) := by
          have hjl : j < len := by
            have := (List.getElem?_eq_some_iff.1 hu).1
            simp [ints] at this; omega
          simp [ints, List.getElem?_take, hjl, hj]
        rw [h3] at hu
        injection hu with hu
        subst hu
        rw [← h2]
        unfold Addr.add
        split
        · rename_i e; subst e; rfl
        · rfl
    · rw [hx.1]
      simp only [Rows.uptoBulk]
      have h1 := bulk_length (lits (H := H) k (zs.take len))
      have h2 : (lits (H := H) k (zs.take len)).length = (zs.take len).length := by simp [lits]
      omega

end
end Go.Proofs.Ytgajlplmpbaanaa
