/- Beyond the edges all is as at the edge, walked over what Cut and Many are to do. -/
import Derived.Test.YtgajlplmpbaanaaLawPlaneBack
namespace Go.Proofs.Ytgajlplmpbaanaa
open Go.RowKit
set_option linter.unusedVariables false
set_option linter.unusedSimpArgs false
set_option maxRecDepth 100000

set_option maxRecDepth 100000 in
set_option maxHeartbeats 4000000 in
theorem planeEdge_by (HC : PCutSpec) (HM : PManySpec) (l : List Int) (A : Option Addr) (c : Nat) (x y : Int) (w : World) (hs : Seen w w.heap.size A (ints .i64 l)) (hb : ∀ z ∈ l, In64 z) (hl : l.length ≤ maxLen) (hx : In64 x) (hy : In64 y) :
    Calls Try.prog 6 #[.slice A l.length c, .int .i64 x, .int .i64 y] w fun e w' => e = .returned (.bool true) ∧ Below w.heap.size w w' := by
  have HP := veil (planed_any HC HM w)
  have HS := veil (fun W => sides_any x y W hx hy)
  have Hbad := veil (sideN_ok x y)
  obtain ⟨a1, a2, _⟩ := sideN_in x
  obtain ⟨b1, b2, _⟩ := sideN_in y
  obtain ⟨W, hW⟩ : ∃ W, W = sideN x := ⟨_, rfl⟩
  obtain ⟨H, hH⟩ : ∃ H, H = sideN y := ⟨_, rfl⟩
  rw [← hW] at HS Hbad a1 a2
  rw [← hH] at HS Hbad b1 b2
  obtain ⟨N, hN⟩ : ∃ N, N = W * H := ⟨_, rfl⟩
  have hN4 : N ≤ 4096 := by rw [hN]; exact Nat.mul_le_mul a2 b2
  have zN : (W : Int) * (H : Int) = (N : Int) := by rw [hN]; simp
  have HN := veil hN
  have HSa := veil (fun W h hG => samples_any l A c w.heap.size N W h hb hl hN4 hG)
  have Hs := veil hs
  have HCa := veil HC
  have hm64 := many_le a2 b2
  clear hW hH hN hs hb hl hx hy HC HM
  go_enter Try.func6, Try.ntmps6
  go_wp2_with fail
  refine HP.out.mono ?_
  rintro e w1 ⟨rfl, hb1⟩
  have HB1 := veil hb1
  have HS1 := veil (HS.out w1)
  clear HP HS hb1
  go_wp2_with fail
  refine HS1.out.mono ?_
  rintro e wq ⟨rfl, hwq⟩
  subst hwq
  have HSb := veil (HSa.out w1 (Hs.out.below HB1.out (Nat.le_refl _)) HB1.out.size)
  clear HS1 HSa
  go_wp2_with fail
  refine HSb.out.mono ?_
  rintro e w2 ⟨g, ys, rfl, hyl, hyi, hys, hb2⟩
  have HB2 := veil (HB1.out.trans (hb2.mono HB1.out.size))
  have hyN : ys.length = W * H := by rw [hyl]; exact HN.out
  obtain ⟨ce, co⟩ := cut_ok Hbad.out hyN hyi
  have hC := HCa.out ys (some ⟨g, 0, none⟩) N w2.heap.size (W : Int) (H : Int) w2 hys (in64_of hyi (by omega) (by omega)) (by unfold maxLen; omega) (by omega) (by unfold In64; omega) (by unfold In64; omega) (Nat.le_refl _)
  rw [ce, co, hyl] at hC
  have HCb := veil hC
  have Hyl := veil hyl; have Hyi := veil hyi; have Hys := veil hys; have HyN := veil hyN
  clear hC HCa HSb ce co hyl hyi hys hb2 hyN HB1
  go_wp2_with fail
  refine HCb.out.mono ?_
  rintro e w3 ⟨v3, rfl, HO3, hb3⟩
  obtain ⟨A4, c4, hv4, hs4, hc4, hm4⟩ := HO3.seen (List.mem_cons_self ..)
  obtain rfl : v3 = .slice A4 (cutL ys W H).length c4 := hv4
  rw [cutL_length]
  have HB3 := veil (HB2.out.trans (hb3.mono HB2.out.size))
  have Hys3 := veil (Hys.out.below hb3 (Nat.le_refl _))
  have Hz3 := veil hb3.size
  have Hs4 := veil hs4
  have Hc4 : Hid ((cutL ys W H).length ≤ c4) := hc4
  have hPq : 1 ≤ acrossN W ∧ acrossN W ≤ 8 ∧ acrossN W = (W + 7) / 8 := by unfold acrossN; omega
  have Hget : Hid (∀ k, k < manyN W H → (cutL ys W H)[k]? = some (blockAt ys W H (8 * (k / acrossN W)) (8 * (k % acrossN W)))) := veil fun k hk => cutL_get hk
  have Hac : Hid (∀ k, 8 * (k % acrossN W) < W) := veil fun k => across_in (by omega)
  have Hdn : Hid (∀ k, k < manyN W H → 8 * (k / acrossN W) < H) := veil fun k hk => down_in (by omega) (by omega) hk
  have Hrows : Hid (∀ r ∈ cutL ys W H, r.length = 64) := veil cutK_rows
  have Hcl : Hid ((cutL ys W H).length = manyN W H) := veil (cutL_length _ _ _)
  obtain ⟨L, hL⟩ : ∃ L, L = cutL ys W H := ⟨_, rfl⟩
  rw [← hL] at Hs4 Hget Hrows Hcl
  obtain ⟨P, hP⟩ : ∃ P, P = acrossN W := ⟨_, rfl⟩
  rw [← hP] at hPq Hget Hac Hdn
  obtain ⟨M, hM⟩ : ∃ M, M = manyN W H := ⟨_, rfl⟩
  rw [← hM] at Hget Hdn Hcl hm64 ⊢
  obtain ⟨w7, hw7⟩ : ∃ w7 : Nat, w7 = W + 7 := ⟨_, rfl⟩
  have z2 : (W : Int) + 7 = (w7 : Int) := by omega
  have z3 : (w7 : Int) / 8 = (P : Int) := by omega
  have hw9 : w7 ≤ 71 := by omega
  obtain ⟨W3, rfl⟩ : ∃ W3 : World, W3 = w3 := ⟨_, rfl⟩
  have hP1 : 1 ≤ P ∧ P ≤ 8 := ⟨hPq.1, hPq.2.1⟩
  clear HO3 hb3 hs4 hc4 hm4 HCb HB2 Hys hPq hL hP hM hw7 Hc4 Hys3 Hz3
  go_wp2_with fail
  go_loopg [42] M (fun gk iv wr => ∃ k : Nat, gk = M - k ∧ k ≤ M ∧ iv = .int .i64 (k : Int) ∧ Hid (Below W3.heap.size W3 wr))
  case atStart => exact ⟨0, rfl, Nat.zero_le _, rfl, veil (Below.refl _ _)⟩
  case round =>
    obtain ⟨k, rfl, hk, rfl, HB⟩ := hrel
    obtain ⟨W1, rfl⟩ : ∃ W1 : World, W1 = wr := ⟨_, rfl⟩
    by_cases hkM : k < M
    · have hkz : (k : Int) < (M : Int) := by omega
      have hb := HB.out
      have hcl := Hcl.out
      obtain ⟨g4, o4, r, rfl, hg, hr, hrl, hrange⟩ := Seen.row Hs4.out Hrows.out (by omega) (k := k) (by omega)
      have hrg := range_below hrange hb (by omega)
      have hre := hr.symm.trans (Hget.out k hkM)
      have Hre : Hid (r = blockAt ys W H (8 * (k / P)) (8 * (k % P))) := veil (by simpa using hre)
      have Hl : Hid ((ints .i64 r).length = 64) := by show _ = _; rw [ints_length, hrl]
      have hone := ints_one (k := .i64) (l := r)
      have hr2 := range_new W1 (ints .i64 r) 31
      have HBk := veil (Blk.new W1 (ints .i64 r) 31)
      have HBn := veil (hb.alloc hb.size (.cells (ints .i64 r).toArray 31))
      have Hat : Hid (∀ (k : Nat) (x : Int), r[k]? = some x → (ints .i64 r)[k]? = some (.int .i64 x)) := fun _ _ h => ints_at h
      obtain ⟨kq, hkq⟩ : ∃ kq, kq = k / P := ⟨_, rfl⟩
      obtain ⟨kr, hkr⟩ : ∃ kr, kr = k % P := ⟨_, rfl⟩
      rw [← hkq, ← hkr] at Hre
      have hac := Hac.out k
      have hdn := Hdn.out k hkM
      rw [← hkr] at hac
      rw [← hkq] at hdn
      have y1 : (k : Int) / (P : Int) = (kq : Int) := by rw [hkq]; simp
      have y2 : (k : Int) % (P : Int) = (kr : Int) := by rw [hkr]; simp
      have y3 : (k : Int).tdiv (P : Int) = (kq : Int) := by rw [Int.tdiv_eq_ediv_of_nonneg (by omega)]; exact y1
      have y4 : (k : Int).tmod (P : Int) = (kr : Int) := by rw [Int.tmod_eq_emod_of_nonneg (by omega)]; exact y2
      have hPz : ((P : Int) == 0) = false := by rw [beq_eq_false_iff_ne]; omega
      have hPz2 : ¬ (P : Int) = 0 := by omega
      clear hb hcl hrange hr hre HB hrl hkq hkr
      obtain ⟨xs, hxs⟩ : ∃ xs, xs = ints .i64 r := ⟨_, rfl⟩
      rw [← hxs] at Hl hone hr2 HBk HBn Hat hrg
      clear hxs
      go_wp2_with (first
        | (refine wpList_load_mid rfl 31 (.tmp 45) rfl g4 (o4 + k * 64) rfl xs _ hrg Try.underlying31 rfl (info_blkn Hl.out) ?_)
        | (refine wpList_store_new W1 rfl 31 (.tmp 11) (.tmp 46) rfl zeroB.toArray xs rfl rfl (info_blkn Hl.out) (by rw [Hl.out]; rfl) hone ?_)
        | (refine wpList_load_mid rfl 31 (.tmp 11) rfl W1.heap.size 0 rfl xs _ hr2 Try.underlying31 rfl (info_blkn Hl.out) ?_)
        | fail)
      go_loopg [48] 64 (fun gk iv w6 => ∃ i : Nat, gk = 64 - i ∧ i ≤ 64 ∧ iv = .int .i64 (i : Int) ∧ Hid (Blk w6 W1.heap.size xs 31) ∧ Hid (Below W3.heap.size W3 w6))
      case atStart => exact ⟨0, rfl, Nat.zero_le _, rfl, HBk, HBn⟩
      case round =>
        clear HBk HBn hrg hr2
        obtain ⟨i, rfl, hi, rfl, HK, HB⟩ := hrel
        by_cases hlt : i < 64
        · have hltz : (i : Int) < 64 := by omega
          obtain ⟨v, hv⟩ : ∃ v, v = cellAt ys W H (8 * kq) (8 * kr) i := ⟨_, rfl⟩
          have hrv : r[i]? = some v := by rw [Hre.out, hv]; exact blockAt_get hlt
          have hxv := Hat.out _ _ hrv
          have hvr := cell_rng (W := W) (H := H) (y := 8 * kq) (x := 8 * kr) (i := i) (by omega) (by omega) HyN.out Hyi.out
          rw [← hv] at hvr
          obtain ⟨i8, hi8⟩ : ∃ i8 : Nat, i8 = i / 8 := ⟨_, rfl⟩
          obtain ⟨im, him⟩ : ∃ im : Nat, im = i % 8 := ⟨_, rfl⟩
          obtain ⟨q8, hq8⟩ : ∃ q8 : Nat, q8 = kq * 8 := ⟨_, rfl⟩
          obtain ⟨r8, hr8⟩ : ∃ r8 : Nat, r8 = kr * 8 := ⟨_, rfl⟩
          obtain ⟨ro, hro⟩ : ∃ ro : Nat, ro = q8 + i8 := ⟨_, rfl⟩
          obtain ⟨co, hco⟩ : ∃ co : Nat, co = r8 + im := ⟨_, rfl⟩
          have x1 : (i : Int) / 8 = (i8 : Int) := by omega
          have x2 : (i : Int) % 8 = (im : Int) := by omega
          have x3 : (kq : Int) * 8 = (q8 : Int) := by omega
          have x4 : (kr : Int) * 8 = (r8 : Int) := by omega
          have x5 : (q8 : Int) + (i8 : Int) = (ro : Int) := by omega
          have x6 : (r8 : Int) + (im : Int) = (co : Int) := by omega
          have xb : kq < 64 ∧ kr < 64 ∧ q8 < 64 ∧ r8 < 64 ∧ i8 < 8 ∧ im < 8 ∧ ro < 80 ∧ co < 80 := by omega
          have Fc : ((co : Int) < (W : Int)) ∨ ((W : Int) ≤ (co : Int) ∧ ∃ i1 : Nat, i1 < 64 ∧ (i : Int) - 1 = (i1 : Int) ∧ wr.cell? ⟨W1.heap.size, i1, none⟩ = some (.int .i64 v)) := by
            by_cases h : co < W
            · exact .inl (by omega)
            · refine .inr ⟨by omega, ?_⟩
              obtain ⟨h1, h2⟩ := cut_right (l := ys) (W := W) (H := H) (y := 8 * kq) (b := kr) (i := i) hac (by omega)
              refine ⟨i - 1, by omega, by omega, HK.out.cell (Hat.out _ _ ?_)⟩
              rw [Hre.out, hv, h2]; exact blockAt_get (by omega)
          have Fr : ((ro : Int) < (H : Int)) ∨ ((H : Int) ≤ (ro : Int) ∧ ∃ i2 : Nat, i2 < 64 ∧ (i : Int) - 8 = (i2 : Int) ∧ wr.cell? ⟨W1.heap.size, i2, none⟩ = some (.int .i64 v)) := by
            by_cases h : ro < H
            · exact .inl (by omega)
            · refine .inr ⟨by omega, ?_⟩
              obtain ⟨h1, h2⟩ := cut_below (l := ys) (W := W) (H := H) (a := kq) (x := 8 * kr) (i := i) hdn (by omega)
              refine ⟨i - 8, by omega, by omega, HK.out.cell (Hat.out _ _ ?_)⟩
              rw [Hre.out, hv, h2]; exact blockAt_get (by omega)
          clear hv hrv hi8 him hq8 hr8 hro hco hac hdn
          go_wp2_with (first
            | (refine wpList_index_arr rfl 31 (.tmp 47) (.tmp 48) rfl 64 3 .i64 Try.underlying31 Try.underlying3 (by kernel_rfl) xs rfl .i64 i rfl (.int .i64 v) hlt hxv ?_)
            | fail)
          go_quiet (fail)
          rcases Fc with u1 | ⟨u1, i1, u2, u3, u4⟩ <;> rcases Fr with t1 | ⟨t1, i2, t2, t3, t4⟩
          all_goals
            go_wp2_with fail
            go_roundg (64 - (i + 1))
            case rel => exact ⟨i + 1, rfl, by omega, by go_num, HK, veil (HB.out.drewN _)⟩
            case measure => omega
        · obtain rfl : i = 64 := by omega
          go_wp2_with fail
          go_roundg (M - (k + 1))
          case rel => exact ⟨k + 1, rfl, by omega, by go_num, HB⟩
          case measure => omega
    · obtain rfl : M = k := by omega
      have hkz : ¬ (M : Int) < (M : Int) := by omega
      go_wp2_with fail
      go_ret
      exact ⟨rfl, HB3.out.trans (HB.out.mono HB3.out.size)⟩
end Go.Proofs.Ytgajlplmpbaanaa
