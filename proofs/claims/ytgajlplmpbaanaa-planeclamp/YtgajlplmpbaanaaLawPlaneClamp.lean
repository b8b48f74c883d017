/- Joined numbers are samples, walked over what Cut, Many and Join are to do. -/
import Derived.Test.YtgajlplmpbaanaaLawPlaneEdge
namespace Go.Proofs.Ytgajlplmpbaanaa
open Go.RowKit
set_option linter.unusedVariables false
set_option linter.unusedSimpArgs false
set_option maxRecDepth 100000

theorem joinL_rng (L : List (List Int)) (W H : Nat) : inB 0 255 (joinL L W H) = true := by
  rw [inB_mem]
  intro z hz
  obtain ⟨j, _, rfl⟩ := List.mem_map.1 hz
  unfold pixAt clampZ
  split
  · omega
  · split <;> omega
theorem eJoin_ok {L : List (List Int)} {x y : Int} (h : eJoin L x y = 0) : ¬ badWH x y ∧ L.length = manyN x.toNat y.toNat := by
  unfold eJoin at h
  by_cases h1 : badWH x y
  · rw [if_pos h1] at h; omega
  · rw [if_neg h1] at h
    by_cases h2 : L.length ≠ manyN x.toNat y.toNat
    · rw [if_pos h2] at h; omega
    · exact ⟨h1, by omega⟩
set_option maxRecDepth 100000 in
set_option maxHeartbeats 4000000 in
theorem planeClamp_by (HC : PCutSpec) (HM : PManySpec) (HJ : PJoinSpec) (L : List (List Int)) (A : Option Addr) (c : Nat) (x y : Int) (w : World) (hL : ∀ r ∈ L, r.length = 64) (hb : ∀ r ∈ L, ∀ z ∈ r, In64 z) (hs : Seen w w.heap.size A (rowsC L)) (hl : L.length ≤ maxLen) (hc : L.length ≤ c) (hx : In64 x) (hy : In64 y) :
    Calls Try.prog 7 #[.slice A L.length c, .int .i64 x, .int .i64 y] w fun e w' => e = .returned (.bool true) ∧ Below w.heap.size w w' := by
  have HP := veil (planed_any HC HM w)
  have HJa := veil (fun W h hG => HJ L A c w.heap.size x y W hL hb h hl hc hx hy hG)
  have Hs := veil hs
  obtain ⟨E, hE⟩ : ∃ E, E = eJoin L x y := ⟨_, rfl⟩
  obtain ⟨O, hO⟩ : ∃ O, O = oJoin L x y := ⟨_, rfl⟩
  rw [← hE, ← hO] at HJa
  have HE := veil hE; have HO := veil hO; have HCa := veil HC; have HLr := veil hL
  clear hE hO hs hb hc hx hy HC HM HJ hL
  go_enter Try.func7, Try.ntmps7
  go_wp2_with fail
  refine HP.out.mono ?_
  rintro e w1 ⟨rfl, hb1⟩
  have HB1 := veil hb1
  have HJb := veil (HJa.out w1 (Hs.out.below hb1 (Nat.le_refl _)) hb1.size)
  clear HP HJa hb1
  go_wp2_with fail
  refine HJb.out.mono ?_
  rintro e w2 ⟨v2, rfl, HO2, hb2⟩
  obtain ⟨A4, c4, hv4, hs4, hc4, hm4⟩ := HO2.seen (List.mem_cons_self ..)
  obtain rfl : v2 = .slice A4 O.length c4 := hv4
  have HB2 := veil (HB1.out.trans (hb2.mono HB1.out.size))
  have Hs4 := veil hs4
  have Hc4 : Hid (O.length ≤ c4) := hc4
  clear HO2 hb2 hs4 hc4 hm4 HJb HB1
  by_cases hE0 : E = 0
  · have h00 := hE0
    rw [HE.out] at h00
    obtain ⟨hbad, hlen⟩ := eJoin_ok h00
    have hO1 : O = joinL L x.toNat y.toNat := by rw [HO.out]; exact if_pos h00
    subst hE0
    have hb' := hbad
    unfold badWH at hb'
    obtain ⟨W, hW⟩ : ∃ W : Nat, x = (W : Int) := ⟨x.toNat, by omega⟩
    obtain ⟨H, hH⟩ : ∃ H : Nat, y = (H : Int) := ⟨y.toNat, by omega⟩
    subst hW hH
    rw [Int.toNat_natCast, Int.toNat_natCast] at hlen hO1
    have hW1 : 1 ≤ W ∧ W ≤ 64 := by omega
    have hH1 : 1 ≤ H ∧ H ≤ 64 := by omega
    obtain ⟨N, hN⟩ : ∃ N, N = W * H := ⟨_, rfl⟩
    have hON : O.length = W * H := by rw [hO1]; exact joinK_length _ _ _
    have hOr : inB 0 255 O = true := by rw [hO1]; exact joinL_rng L W H
    have hN4 : N ≤ 4096 := by rw [hN]; exact Nat.mul_le_mul hW1.2 hH1.2
    have zN : (W : Int) * (H : Int) = (N : Int) := by rw [hN]; simp
    obtain ⟨ce, co⟩ := cut_ok hbad hON hOr
    have hC := HCa.out O A4 c4 w2.heap.size (W : Int) (H : Int) w2 Hs4.out (in64_of hOr (by omega) (by omega)) (by unfold maxLen; omega) Hc4.out (by unfold In64; omega) (by unfold In64; omega) (Nat.le_refl _)
    have hONN : O.length = N := by omega
    rw [ce, co, hONN] at hC
    rw [hONN]
    have HCb := veil hC
    have HcO : Hid (∀ k i, i < 64 → k / acrossN W * 8 + i / 8 < H → k % acrossN W * 8 + i % 8 < W → cellAt O W H (8 * (k / acrossN W)) (8 * (k % acrossN W)) i = clampZ ((L.getD k []).getD i 0) (-128) 127) := veil fun k i h1 h2 h3 => by rw [hO1]; exact cut_join h1 h2 h3
    have hm64 := many_le hW1.2 hH1.2
    have hP1 : 1 ≤ acrossN W ∧ acrossN W ≤ 8 := by unfold acrossN; omega
    have hP7 : acrossN W = (W + 7) / 8 := rfl
    have Hget : Hid (∀ k, k < manyN W H → (cutL O W H)[k]? = some (blockAt O W H (8 * (k / acrossN W)) (8 * (k % acrossN W)))) := veil fun k hk => cutL_get hk
    have Hrows : Hid (∀ r ∈ cutL O W H, r.length = 64) := veil cutK_rows
    have Hcl : Hid ((cutL O W H).length = manyN W H) := veil (cutL_length _ _ _)
    obtain ⟨w7, hw7⟩ : ∃ w7 : Nat, w7 = W + 7 := ⟨_, rfl⟩
    have z2 : (W : Int) + 7 = (w7 : Int) := by omega
    obtain ⟨P, hP⟩ : ∃ P, P = acrossN W := ⟨_, rfl⟩
    rw [← hP] at hP1 hP7 HcO Hget
    have z3 : (w7 : Int) / 8 = (P : Int) := by omega
    have hw9 : w7 ≤ 71 := by omega
    have Hlm := veil hlen
    obtain ⟨M, hM⟩ : ∃ M, M = manyN W H := ⟨_, rfl⟩
    rw [← hM] at hlen Hlm Hget Hcl hm64
    have HM4 := veil hM
    rw [hlen]
    clear hb' hbad h00 hO1 hN hON hOr ce co hC hONN hP7 hw7 hP hM hlen HCa HE HO Hc4
    go_wp2_with fail
    refine HCb.out.mono ?_
    rintro e w3 ⟨v3, rfl, HO3, hb3⟩
    obtain ⟨A5, c5, hv5, hs5, hc5, hm5⟩ := HO3.seen (List.mem_cons_self ..)
    obtain rfl : v3 = .slice A5 (cutL O W H).length c5 := hv5
    rw [Hcl.out]
    obtain ⟨LL, hLL⟩ : ∃ LL, LL = cutL O W H := ⟨_, rfl⟩
    have Hs5 := veil hs5
    have hs5' := hs5
    clear hs5'
    have HB3 := veil (HB2.out.trans (hb3.mono HB2.out.size))
    have Hsw : Hid (Seen w3 w.heap.size A (rowsC L)) := veil (Hs.out.below HB3.out (Nat.le_refl _))
    obtain ⟨W3, rfl⟩ : ∃ W3 : World, W3 = w3 := ⟨_, rfl⟩
    have Hs5b : Hid (Seen W3 W3.heap.size A5 (rowsC (cutL O W H))) := Hs5.out
    have hz3 := HB3.out.size
    clear HO3 hb3 hs5 hc5 hm5 HCb HB2 Hs5 Hs4 Hs hLL
    go_wp2_with fail
    go_loopg [60] M (fun gk iv wr => ∃ k : Nat, gk = M - k ∧ k ≤ M ∧ iv = .int .i64 (k : Int) ∧ Hid (Below W3.heap.size W3 wr))
    case atStart => exact ⟨0, rfl, Nat.zero_le _, rfl, veil (Below.refl _ _)⟩
    case round =>
      obtain ⟨k, rfl, hk, rfl, HB⟩ := hrel
      obtain ⟨W1, rfl⟩ : ∃ W1 : World, W1 = wr := ⟨_, rfl⟩
      by_cases hkM : k < M
      · have hkz : (k : Int) < (M : Int) := by omega
        have hb := HB.out
        obtain ⟨g4, o4, r, rfl, hg, hr, hrl, hrange⟩ := Seen.row Hsw.out HLr.out (by omega) (k := k) (by rw [Hlm.out]; exact hkM)
        have hrg := range_below hrange hb (by omega)
        obtain ⟨g5, o5, r5, rfl, hg5, hr5, hrl5, hrange5⟩ := Seen.row Hs5b.out Hrows.out (by omega) (k := k) (by rw [Hcl.out]; exact hkM)
        have hrg5 := range_below hrange5 hb (by omega)
        have hre := hr5.symm.trans (Hget.out k hkM)
        have Hre : Hid (r5 = blockAt O W H (8 * (k / P)) (8 * (k % P))) := veil (by simpa using hre)
        have Hrk : Hid (L.getD k [] = r) := veil (getD_of hr)
        have HcK := veil (HcO.out k)
        have Hl : Hid ((ints .i64 r).length = 64) := by show _ = _; rw [ints_length, hrl]
        have Hat : Hid (∀ (k : Nat) (x : Int), r[k]? = some x → (ints .i64 r)[k]? = some (.int .i64 x)) := fun _ _ h => ints_at h
        have Hat5 : Hid (∀ (j : Nat) (x : Int), r5[j]? = some x → W1.cell? ⟨g5, o5 + k * 64 + j, none⟩ = some (.int .i64 x)) := fun j x h => hrg5 j _ (ints_at h)
        obtain ⟨kq, hkq⟩ : ∃ kq, kq = k / P := ⟨_, rfl⟩
        obtain ⟨kr, hkr⟩ : ∃ kr, kr = k % P := ⟨_, rfl⟩
        rw [← hkq, ← hkr] at Hre HcK
        have y1 : (k : Int) / (P : Int) = (kq : Int) := by rw [hkq]; simp
        have y2 : (k : Int) % (P : Int) = (kr : Int) := by rw [hkr]; simp
        have y3 : (k : Int).tdiv (P : Int) = (kq : Int) := by rw [Int.tdiv_eq_ediv_of_nonneg (by omega)]; exact y1
        have y4 : (k : Int).tmod (P : Int) = (kr : Int) := by rw [Int.tmod_eq_emod_of_nonneg (by omega)]; exact y2
        have hkq9 : kq ≤ 64 := by rw [hkq]; exact Nat.le_trans (Nat.div_le_self _ _) (by omega)
        have hkr9 : kr < 8 := by rw [hkr]; have := Nat.mod_lt k (show 0 < P by omega); omega
        have hPz : ((P : Int) == 0) = false := by rw [beq_eq_false_iff_ne]; omega
        have hPz2 : ¬ (P : Int) = 0 := by omega
        clear hb hrange hrange5 hrg5 hr hr5 hre hkq hkr
        obtain ⟨xs, hxs⟩ : ∃ xs, xs = ints .i64 r := ⟨_, rfl⟩
        rw [← hxs] at Hl Hat hrg
        clear hxs
        go_wp2_with (first
          | (refine wpList_load_mid rfl 31 (.tmp 65) rfl g4 (o4 + k * 64) rfl xs _ hrg Try.underlying31 rfl (info_blkn Hl.out) ?_)
          | fail)
        go_loopg [67] 64 (fun gk iv w6 => ∃ i q : Nat, gk = 64 - i ∧ i ≤ 64 ∧ iv = .int .i64 (i : Int) ∧ w6 = W1.drewN q)
        case atStart => exact ⟨0, 0, rfl, Nat.zero_le _, rfl, rfl⟩
        case round =>
          clear hrg
          obtain ⟨i, q, rfl, hi, rfl, rfl⟩ := hrel
          by_cases hlt : i < 64
          · have hltz : (i : Int) < 64 := by omega
            obtain ⟨v, hrv⟩ := some_at (xs := r) (j := i) (by omega)
            have hxv := Hat.out _ _ hrv
            obtain ⟨v5, hv5⟩ : ∃ v5, v5 = cellAt O W H (8 * kq) (8 * kr) i := ⟨_, rfl⟩
            have hcell5 : ∀ n, (W1.drewN n).cell? ⟨g5, o5 + k * 64 + i, none⟩ = some (.int .i64 v5) := fun n => Hat5.out i v5 (by rw [Hre.out, hv5]; exact blockAt_get hlt)
            have hcl := HcK.out i hlt
            rw [Hrk.out, getD_of hrv, ← hv5] at hcl
            obtain ⟨i8, hi8⟩ : ∃ i8 : Nat, i8 = i / 8 := ⟨_, rfl⟩
            obtain ⟨im, him⟩ : ∃ im : Nat, im = i % 8 := ⟨_, rfl⟩
            obtain ⟨q8, hq8⟩ : ∃ q8 : Nat, q8 = kq * 8 := ⟨_, rfl⟩
            obtain ⟨r8, hr8⟩ : ∃ r8 : Nat, r8 = kr * 8 := ⟨_, rfl⟩
            obtain ⟨ro, hro⟩ : ∃ ro : Nat, ro = q8 + i8 := ⟨_, rfl⟩
            obtain ⟨co, hco⟩ : ∃ co : Nat, co = r8 + im := ⟨_, rfl⟩
            rw [← hi8, ← him, ← hq8, ← hr8, ← hro, ← hco] at hcl
            have x1 : (i : Int) / 8 = (i8 : Int) := by omega
            have x2 : (i : Int) % 8 = (im : Int) := by omega
            have x3 : (kq : Int) * 8 = (q8 : Int) := by omega
            have x4 : (kr : Int) * 8 = (r8 : Int) := by omega
            have x5 : (q8 : Int) + (i8 : Int) = (ro : Int) := by omega
            have x6 : (r8 : Int) + (im : Int) = (co : Int) := by omega
            have xb : kq ≤ 64 ∧ kr < 64 ∧ q8 ≤ 512 ∧ r8 < 64 ∧ i8 < 8 ∧ im < 8 ∧ ro < 600 ∧ co < 80 := by omega
            have F : (¬ (ro : Int) < (H : Int)) ∨ ((ro : Int) < (H : Int) ∧ ¬ (co : Int) < (W : Int)) ∨ ((ro : Int) < (H : Int) ∧ (co : Int) < (W : Int) ∧ ((v < -128 ∧ v5 = -128) ∨ (¬ v < -128 ∧ (127 : Int) < v ∧ v5 = 127) ∨ (¬ v < -128 ∧ ¬ (127 : Int) < v ∧ v5 = v))) := by
              by_cases h1 : ro < H
              · by_cases h2 : co < W
                · refine .inr (.inr ⟨by omega, by omega, ?_⟩)
                  have := hcl h1 h2
                  unfold clampZ at this
                  split at this <;> first | omega | (split at this <;> omega)
                · exact .inr (.inl ⟨by omega, by omega⟩)
              · exact .inl (by omega)
            clear hv5 hrv hi8 him hq8 hr8 hro hco hcl
            go_wp2_with (first
              | (refine wpList_index_arr rfl 31 (.tmp 66) (.tmp 67) rfl 64 3 .i64 Try.underlying31 Try.underlying3 (by kernel_rfl) xs rfl .i64 i rfl (.int .i64 v) hlt hxv ?_)
              | fail)
            go_quiet (fail)
            rcases F with u1 | ⟨u1, u2⟩ | ⟨u1, u2, ⟨u3, rfl⟩ | ⟨u3, u4, rfl⟩ | ⟨u3, u4, rfl⟩⟩
            all_goals
              go_wp2_with fail
              go_roundg (64 - (i + 1))
              case rel => exact ⟨i + 1, _, rfl, by omega, by go_num, rfl⟩
              case measure => omega
          · obtain rfl : i = 64 := by omega
            go_wp2_with fail
            go_roundg (M - (k + 1))
            case rel => exact ⟨k + 1, rfl, by omega, by go_num, veil (HB.out.drewN _)⟩
            case measure => omega
      · obtain rfl : M = k := by omega
        have hkz : ¬ (M : Int) < (M : Int) := by omega
        go_wp2_with fail
        go_ret
        exact ⟨rfl, HB3.out.trans (HB.out.mono HB3.out.size)⟩
  · have hO1 : O = [] := by rw [HO.out]; exact if_neg (by rw [← HE.out]; exact hE0)
    subst hO1
    have hEz : (E != 0) = true := by rw [bne_iff_ne]; exact hE0
    clear hE0 HE HO HCa Hs4 Hc4
    go_wp2_with fail
    go_ret
    exact ⟨rfl, HB2.out⟩
end Go.Proofs.Ytgajlplmpbaanaa
