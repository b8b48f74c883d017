/- The law on one segment for all, walked (over scan's contracts). -/
import Derived.Test.YtddkhkpdbjjboaaBd12
import Derived.Test.YtddkhkpdbjjboaaBd16
import Derived.Test.YtddkhkpdbjjboaaBd17
import Derived.Test.YtddkhkpdbjjboaaBd18
namespace Go.Proofs.Ytddkhkpdbjjboaa
open Go.RowKit
set_option linter.unusedVariables false
set_option linter.unusedSimpArgs false
set_option maxRecDepth 100000

theorem run_take_bytes (A : Option Addr) (n c h : Nat) (h2 : h ≤ c) (u : World) : (Instr.sliceAt 29 (.slice A n c) none (some (.int .i64 (h : Int))) none).run Try.prog u = .ok (.slice A h c) u := by
  have he : Try.prog.underlying 29 = some (.slice (Try.prog.elem 29)) := by kernel_rfl
  have hz : (sizeOf (Try.prog.elem 29)).run Try.prog u = .ok 1 u := by kernel_rfl
  rw [run_sliceAt_slice _ _ _ _ _ _ he, run_slice_h _ _ _ _ _ he _ _ (by omega) (by omega), hz]
  simp [Result.andThen, sliced]
  intro _
  cases A with
  | none => rfl
  | some a => simp [Addr.add]
theorem seen_take {w : World} {G k : Nat} {A : Option Addr} {xs : List Int} (hs : Seen w G A (ints .u8 xs)) : Seen w G A (ints .u8 (xs.take k)) := by
  have e : ints .u8 (xs.take k) = (ints .u8 xs).take k := by simp [ints]
  rw [e]
  rcases hs with hs | ⟨g, o, rfl, hg, hc⟩
  · rw [hs]; exact .inl (by simp)
  · refine .inr ⟨g, o, rfl, hg, fun j u hu => ?_⟩
    rw [List.getElem?_take] at hu
    split at hu
    · exact hc j u hu
    · cases hu
theorem segF_bytes (cs syms cs2 syms2 : List Int) (L : List (List Int)) : Bytes (segF cs syms cs2 syms2 L) := by
  unfold segF
  split
  · exact stuffB_by (packB_bytes _)
  · intro x hx; simp at hx
set_option maxRecDepth 100000 in
set_option maxHeartbeats 4000000 in
theorem scanOne_by (HS : EncSpec) (HD : DecSpec) (A : Option Addr) (c : Nat) (L : List (List Int)) (every at_ : Int) (w : World)
    (hs : Seen w w.heap.size A (rowsC L)) (hl : ∀ r ∈ L, r.length = 64) (hm : L.length ≤ maxLen) (hcap : L.length ≤ c) (hev : -9223372036854775808 ≤ every ∧ every ≤ 9223372036854775807) (hat : -9223372036854775808 ≤ at_ ∧ at_ ≤ 9223372036854775807) :
    Calls Try.prog 5 #[.slice A L.length c, .int .i64 every, .int .i64 at_] w fun e w' => e = .returned (.bool true) ∧ Below w.heap.size w w' := by
  have HMy := veil (fun W h hG => may_any L A c w.heap.size W hl hm h hG)
  have HBl := veil blocked_any
  have Hs := veil hs
  have Hl := veil hl
  obtain ⟨q, hq⟩ : ∃ q, q = (eL L == 0) := ⟨_, rfl⟩
  rw [← hq] at HMy
  have Hq := veil hq
  clear hs hl hq
  go_enter Try.func5, Try.ntmps5
  go_wp2_with fail
  refine (HBl.out _).mono ?_
  rintro e w0 ⟨rfl, hbw0⟩
  have hz0 := hbw0.size
  clear HBl
  go_wp2_with fail
  refine (HMy.out w0 (Hs.out.below hbw0 (Nat.le_refl _)) hz0).mono ?_
  rintro e w1 ⟨rfl, hb1⟩
  have hbw1 := hbw0.trans (hb1.mono hz0)
  clear HMy hbw0 hb1 hz0
  cases q with
  | false =>
    clear Hq
    go_wp2_with fail
    go_ret
    exact ⟨rfl, hbw1⟩
  | true =>
    have h0 : eL L = 0 := by have := Hq.out; simpa using this.symm
    obtain ⟨h400, hin⟩ := eL_zero h0
    by_cases hempty : L.length = 0
    · have hz : ((L.length : Int) == 0) = true := beq_iff_eq.2 (by omega)
      clear Hq
      go_wp2_with fail
      go_ret
      exact ⟨rfl, hbw1⟩
    · have hz : ((L.length : Int) == 0) = false := beq_eq_false_iff_ne.2 (by omega)
      by_cases hbig : 100 < L.length
      · have hbz : (100 : Int) < (L.length : Int) := by omega
        clear Hq
        go_wp2_with fail
        go_ret
        exact ⟨rfl, hbw1⟩
      · have hbz : ¬ (100 : Int) < (L.length : Int) := by omega
        have hn1 : 1 ≤ L.length := by omega
        have hn100 : L.length ≤ 100 := by omega
        have HR1 := veil (rest_any every (101 - (L.length : Int)) w1 (by omega) (by omega) hev)
        have hrr : 0 ≤ every % (101 - (L.length : Int)) ∧ every % (101 - (L.length : Int)) < 101 - (L.length : Int) := ⟨Int.emod_nonneg _ (by omega), Int.emod_lt_of_pos _ (by omega)⟩
        obtain ⟨ee, hee⟩ : ∃ ee, ee = every % (101 - (L.length : Int)) := ⟨_, rfl⟩
        rw [← hee] at HR1 hrr
        have HF := veil (fitting0_any L A c w.heap.size w1 Hl.out hcap h400 hin (Hs.out.below hbw1 (Nat.le_refl _)) hbw1.size)
        rw [fc_one, fc_one] at HF
        have htl := toksB_len L 0
        have e1 := errB_tally true (toksB 0 L) (by omega)
        have e2 := errB_tally false (toksB 0 L) (by omega)
        rw [decide_eq_true (⟨e1, e2⟩ : errB (tally true (toksB 0 L)) = 0 ∧ errB (tally false (toksB 0 L)) = 0)] at HF
        have H0 := veil h0; have E1 := veil e1; have E2 := veil e2
        have hw1 : IntKind.i64.wrap (101 - (L.length : Int)) = 101 - (L.length : Int) := by rw [IntKind.wrap_i64]; omega
        clear Hq h0 hin htl e1 e2 hee hempty hbig
        go_wp2_with fail
        refine HR1.out.mono ?_
        rintro e w1' ⟨rfl, hw1'⟩
        rw [← hw1']
        clear hw1' HR1 w1'
        go_wp2_with fail
        refine HF.out.mono ?_
        rintro e w2 ⟨cs, syms, A1, c1, cs2, syms2, A2, c2, rfl, hM1, hM2, hs1, hs2, hb2, hc1, hc2⟩
        have hbw2 := hbw1.trans (hb2.mono hbw1.size)
        have hen := fit_enc Hl.out H0.out hM1 hM2 E1.out E2.out
        have hT : TabsIn cs syms A1 c1 cs2 syms2 A2 c2 w2.heap.size w2 := ⟨hM1.len, Nat.le_trans hM1.short (by unfold maxLen; decide), hc1, hM1.bnd, hs1, hM2.len, Nat.le_trans hM2.short (by unfold maxLen; decide), hc2, hM2.bnd, hs2⟩
        have hA0 := scan_one (every := 0) hen (.inl rfl) (by omega) (by omega)
        have hA1 := scan_one (every := (L.length : Int) + ee) hen (.inr (by omega)) (by omega) (by omega)
        have hlen := segF_len (cs := cs) (syms := syms) (cs2 := cs2) (syms2 := syms2) hM1.len hM2.len Hl.out
        have hby := segF_bytes cs syms cs2 syms2 L
        have hpos := segF_pos hM1.len hen (by intro e; subst e; simp at hn1)
        have hcut := fun k hk => cut_bad (every := (L.length : Int) + ee) hM1.len hM2.len Hl.out hen (q := k) hk (by omega)
        have HE0 := veil (fun W (t : TabsIn cs syms A1 c1 cs2 syms2 A2 c2 w2.heap.size W) h3 hG => HS cs syms A1 c1 cs2 syms2 A2 c2 w2.heap.size L A c 0 W t Hl.out hm hcap h3 hG)
        have HE1 := veil (fun W (t : TabsIn cs syms A1 c1 cs2 syms2 A2 c2 w2.heap.size W) h3 hG => HS cs syms A1 c1 cs2 syms2 A2 c2 w2.heap.size L A c ((L.length : Int) + ee) W t Hl.out hm hcap h3 hG)
        have HE2 := veil (fun W (t : TabsIn cs syms A1 c1 cs2 syms2 A2 c2 w2.heap.size W) h3 hG => segEncode_any cs syms A1 c1 cs2 syms2 A2 c2 w2.heap.size L A c W t.len t.max t.bnd t.see t.len2 t.max2 t.bnd2 t.see2 Hl.out hm h3 hG)
        have hso := fun out (h : SegOut cs syms cs2 syms2 L out) => segOut_is cs syms cs2 syms2 h
        obtain ⟨S, hS⟩ : ∃ S, S = segF cs syms cs2 syms2 L := ⟨_, rfl⟩
        rw [hA0.1, hA0.2, ← hS] at HE0
        rw [hA1.1, hA1.2, ← hS] at HE1
        rw [hen] at HE2
        rw [← hS] at hlen hby hpos hcut hso
        have Hso := veil hso; have Hcut := veil hcut; have Hby := veil hby
        have h34 := tabs34 (syms := syms) (A := A1) (c := c1) (syms2 := syms2) (A2 := A2) (c2 := c2) hM1.len hM2.len
        have H34 := veil h34
        have hone : ∀ u ∈ tabsCells cs A1 syms.length c1 cs2 A2 syms2.length c2, u.oneCell' = true := fun u hu => by
          rcases List.mem_append.1 hu with h | h
          · exact tabCells_one u h
          · exact tabCells_one u h
        have hb3 := below1 w2 (.cells (tabsCells cs A1 syms.length c1 cs2 A2 syms2.length c2).toArray 27)
        have hB3 := Blk.new w2 (tabsCells cs A1 syms.length c1 cs2 A2 syms2.length c2) 27
        have HDec := veil (fun k G W (t : TabsIn cs syms A1 c1 cs2 syms2 A2 c2 G W) (A5 : Option Addr) (c5 : Nat) (hk : k < S.length) (h5 : (S.take k).length ≤ c5) (h3 : Seen W G A5 (ints .u8 (S.take k))) (hG : G ≤ W.heap.size) => HD cs syms A1 c1 cs2 syms2 A2 c2 G (S.take k) A5 c5 (L.length : Int) ((L.length : Int) + ee) W t (fun x hx => Hby.out x (List.mem_of_mem_take hx)) (by rw [List.length_take]; omega) h5 h3 hG)
        clear hS hM1 hM2 hs1 hs2 hc1 hc2 hen hA0 hA1 hso hcut hby h34 HF H0 E1 E2
        unfold tabsV at HE0 HE1 HE2 HDec ⊢
        generalize tabsCells cs A1 syms.length c1 cs2 A2 syms2.length c2 = zs at *
        obtain ⟨W3, hW3⟩ : ∃ W3, W3 = w2.alloc (.cells zs.toArray 27) := ⟨_, rfl⟩
        have hz3 : W3.heap.size = w2.heap.size + 1 := by rw [hW3]; simp
        have hHW := veil hW3
        rw [← hW3] at hb3 hB3
        have hT3 := hT.below hb3 (Nat.le_refl _)
        have hbw3 := hbw2.trans (hb3.mono hbw2.size)
        have Hs3 := veil ((Hs.out.below hbw3 (Nat.le_refl _)).up hbw2.size)
        have HT3 := veil hT3
        have hr3 := hB3.range
        clear hT hb3 hbw2 hb2 hW3 hbw1
        go_upto_region 7 with (first
          | (refine wpList_store_new w2 rfl 27 (.tmp 7) (.tmp 43) rfl _ zs rfl rfl (by rw [H34.out]; kernel_rfl) (by rw [H34.out]; rfl) hone ?_)
          | fail)
        rw [← hHW.out]
        clear hHW hone
        go_wp2_with (first
          | (refine wpList_load_mid rfl 27 (.tmp 7) rfl w2.heap.size 0 rfl zs _ hr3 Try.underlying27 rfl (by rw [H34.out]; kernel_rfl) ?_)
          | fail)
        refine (HE0.out W3 HT3.out Hs3.out (by omega)).mono ?_
        rintro e w4 ⟨v4, rfl, HO4, hb4⟩
        obtain ⟨A4, c4, hv4, hs4, hc4, hm4⟩ := HO4.seen (List.mem_cons_self ..)
        obtain rfl : v4 = .slice A4 S.length c4 := hv4
        have hs4' : Seen w4 w4.heap.size A4 (ints .u8 S) := hs4
        have hc4' : S.length ≤ c4 := hc4
        have hB4 := hB3.below hb4 (by omega)
        have hr4 := hB4.range
        have hz4 := hb4.size
        have hbw4 := hbw3.trans (hb4.mono hbw3.size)
        have HT4 := veil (HT3.out.below hb4 (by omega))
        have Hs4 := veil (Hs3.out.below hb4 (by omega))
        have Ha4 := veil hs4'
        clear hr3 hb4 hs4 hs4' HO4 HT3 Hs3 HE0 hB3 hbw3 hc4
        go_wp2_with (first
          | (refine wpList_load_mid rfl 27 (.tmp 7) rfl w2.heap.size 0 rfl zs _ hr4 Try.underlying27 rfl (by rw [H34.out]; kernel_rfl) ?_)
          | fail)
        refine (HE1.out w4 HT4.out Hs4.out (by omega)).mono ?_
        rintro e w5 ⟨v5, rfl, HO5, hb5⟩
        obtain ⟨A5, c5, hv5, hs5, hc5, hm5⟩ := HO5.seen (List.mem_cons_self ..)
        obtain rfl : v5 = .slice A5 S.length c5 := hv5
        have hs5' : Seen w5 w5.heap.size A5 (ints .u8 S) := hs5
        have hB5 := hB4.below hb5 (by omega)
        have hr5 := hB5.range
        have hz5 := hb5.size
        have hbw5 := hbw4.trans (hb5.mono hbw4.size)
        have HT5 := veil (HT4.out.below hb5 (by omega))
        have Hs5 := veil (Hs4.out.below hb5 (by omega))
        have Ha5 := veil ((Ha4.out.below hb5 (Nat.le_refl _)).up hz5)
        have Hd5 := veil hs5'
        clear hr4 hb5 hs5 hs5' HO5 HT4 Hs4 HE1 hB4 hbw4 hc5 Ha4
        go_wp2_with (first
          | (refine wpList_load_mid rfl 27 (.tmp 7) rfl w2.heap.size 0 rfl zs _ hr5 Try.underlying27 rfl (by rw [H34.out]; kernel_rfl) ?_)
          | fail)
        refine (HE2.out w5 HT5.out Hs5.out (by omega)).mono ?_
        rintro e w6 ⟨v6, out6, rfl, HO6, hS6, hb6⟩
        obtain rfl := Hso.out out6 hS6
        obtain ⟨A6, c6, hv6, hs6, hc6, hm6⟩ := HO6.seen (List.mem_cons_self ..)
        obtain rfl : v6 = .slice A6 out6.length c6 := hv6
        have hs6' : Seen w6 w6.heap.size A6 (ints .u8 out6) := hs6
        have hB6 := hB5.below hb6 (by omega)
        have hz6 := hb6.size
        have hbw6 := hbw5.trans (hb6.mono hbw5.size)
        have HT6 := veil (HT5.out.below hb6 (by omega))
        have Ha6 := veil ((Ha5.out.below hb6 (Nat.le_refl _)).up hz6)
        have Hd6 := veil ((Hd5.out.below hb6 (Nat.le_refl _)).up hz6)
        have hEq1 := eqByte A4 A5 c4 c5 w6.heap.size out6 out6 w6 Ha6.out Hd6.out (by unfold maxLen; omega) (by unfold maxLen; omega)
        have hEq2 := eqByte A4 A6 c4 c6 w6.heap.size out6 out6 w6 Ha6.out hs6' (by unfold maxLen; omega) (by unfold maxLen; omega)
        rw [decide_eq_true (rfl : out6 = out6)] at hEq1 hEq2
        have HEq1 := veil hEq1; have HEq2 := veil hEq2
        clear hr5 hb6 hs6 hs6' HO6 HT5 Hs5 HE2 hB5 hbw5 hc6 Ha5 Hd5 Hd6 hEq1 hEq2 hS6 Hso
        go_wp2_with fail
        refine HEq1.out.mono ?_
        rintro e w7 ⟨rfl, rfl⟩
        go_wp2_with fail
        refine HEq2.out.mono ?_
        rintro e w7 ⟨rfl, rfl⟩
        go_upto_region 12 with fail
        obtain ⟨qq, hqq, hqlt⟩ : ∃ qq : Nat, at_ % (out6.length : Int) = (qq : Int) ∧ qq < out6.length := by
          have h1 := Int.emod_nonneg at_ (b := (out6.length : Int)) (by omega)
          have h2 := Int.emod_lt_of_pos at_ (b := (out6.length : Int)) (by omega)
          exact ⟨(at_ % (out6.length : Int)).toNat, by omega, by omega⟩
        have HRq := fun W => rest_any at_ (out6.length : Int) W (by omega) (by omega) hat
        rw [hqq] at HRq
        have HRq := veil HRq
        have hcutb := run_take_bytes A4 out6.length c4 qq (by omega)
        have hbd : Below w6.heap.size w6 w6.drew := (Below.refl _ _).drew
        have htl : (out6.take qq).length = qq := by rw [List.length_take]; omega
        have hDC := HDec.out qq w6.heap.size w6.drew ((HT6.out.up (by omega)).below hbd (Nat.le_refl _)) A4 c4 hqlt (by rw [htl]; omega) (seen_take (Ha6.out.below hbd (Nat.le_refl _))) (Nat.le_refl _)
        have hne := Hcut.out qq hqlt
        rw [htl] at hDC
        obtain ⟨er, her⟩ : ∃ er, er = eScD cs syms cs2 syms2 (out6.take qq) (L.length : Int) ((L.length : Int) + ee) := ⟨_, rfl⟩
        rw [← her] at hDC hne
        have hneb : (er != 0) = true := by simpa using hne
        have HDC := veil hDC
        clear hDC her hne htl hbd Ha6 HT6 HDec Hcut HEq1 HEq2 hqq
        refine wp_region_held_drew (S := fun w' => Blk w' w2.heap.size zs 27) (by kernel_rfl) hB6 (fun hHeld0 => ?_)
        refine take_load 0 91 27 (.tmp 7) w2.heap.size 0 zs _ rfl rfl (by kernel_rfl) (by kernel_rfl) (by kernel_rfl) (fun _ _ _ h => h) rfl rfl rfl (fun w' h => h.range) Try.underlying27 rfl (by rw [H34.out]; kernel_rfl) hHeld0 rfl ?_
        refine take_pure 1 92 (.slice A4 out6.length c4) _ rfl rfl (by kernel_rfl) (by kernel_rfl) (by kernel_rfl) (fun _ _ _ h => h) rfl (fun w' hS => by go_simp) hHeld0 rfl ?_
        refine take_pure 2 93 (.int .i64 at_) _ rfl rfl (by kernel_rfl) (by kernel_rfl) (by kernel_rfl) (fun _ _ _ h => h) rfl (fun w' hS => by go_simp) hHeld0 rfl ?_
        refine take_pure 3 94 (.slice A4 out6.length c4) _ rfl rfl (by kernel_rfl) (by kernel_rfl) (by kernel_rfl) (fun _ _ _ h => h) rfl (fun w' hS => by go_simp) hHeld0 rfl ?_
        refine take_pure 4 95 (.int .i64 (out6.length : Int)) _ rfl rfl (by kernel_rfl) (by kernel_rfl) (by kernel_rfl) (fun _ _ _ h => h) rfl (fun w' hS => by go_simp) hHeld0 rfl ?_
        refine take_pure 7 98 (.slice A L.length c) _ rfl rfl (by kernel_rfl) (by kernel_rfl) (by kernel_rfl) (fun _ _ _ h => h) rfl (fun w' hS => by go_simp) hHeld0 rfl ?_
        refine take_pure 8 99 (.int .i64 (L.length : Int)) _ rfl rfl (by kernel_rfl) (by kernel_rfl) (by kernel_rfl) (fun _ _ _ h => h) rfl (fun w' hS => by go_simp) hHeld0 rfl ?_
        refine take_pure 9 100 (.int .i64 ((L.length : Int) + ee)) _ rfl rfl (by kernel_rfl) (by kernel_rfl) (by kernel_rfl) (fun _ _ _ h => h) rfl (fun w' hS => by go_simp) hHeld0 rfl ?_
        refine wpAnyH_ready (rs := [5]) (by kernel_rfl) (by simp) ?_
        refine AllReadyH.cons rfl (fun K hK => ?_) AllReadyH.nil
        go_simp
        refine (HRq.out _).mono ?_
        rintro e w7 ⟨rfl, rfl⟩
        refine hK.out _ _ hHeld0 (fun hHeld1 => ?_)
        clear hK K
        refine take_pure 6 97 (.slice A4 qq c4) _ rfl rfl (by kernel_rfl) (by kernel_rfl) (by kernel_rfl) (fun _ _ _ h => h) rfl (fun w' hS => by go_simp) hHeld1 rfl ?_
        refine wpAnyH_ready (rs := [10]) (by kernel_rfl) (by simp) ?_
        refine AllReadyH.cons rfl (fun K hK => ?_) AllReadyH.nil
        go_simp
        refine HDC.out.mono ?_
        rintro e w8 ⟨v8, rfl, _, hb8⟩
        have hbw8 : Below w.heap.size w w8 := hbw6.trans ((below_of_drew hb8).mono (by have := hbw6.size; exact this))
        refine hK.out _ _ (hHeld1.below hb8 hHeld1.lt) (fun hHeld2 => ?_)
        clear hK K
        refine take_pure 11 90 (.tuple #[v8, .int .i64 er]) _ rfl rfl (by kernel_rfl) (by kernel_rfl) (by kernel_rfl) (fun _ _ _ h => h) rfl (fun w' hS => by go_simp) hHeld2 rfl ?_
        refine take_pure 12 102 v8 _ rfl rfl (by kernel_rfl) (by kernel_rfl) (by kernel_rfl) (fun _ _ _ h => h) rfl (fun w' hS => by go_simp) hHeld2 rfl ?_
        refine take_pure 13 103 (.int .i64 er) _ rfl rfl (by kernel_rfl) (by kernel_rfl) (by kernel_rfl) (fun _ _ _ h => h) rfl (fun w' hS => by go_simp) hHeld2 rfl ?_
        refine take_pure 14 15 v8 _ rfl rfl (by kernel_rfl) (by kernel_rfl) (by kernel_rfl) (fun _ _ _ h => h) rfl (fun w' hS => by go_simp) hHeld2 rfl ?_
        refine take_pure 15 16 (.int .i64 er) _ rfl rfl (by kernel_rfl) (by kernel_rfl) (by kernel_rfl) (fun _ _ _ h => h) rfl (fun w' hS => by go_simp) hHeld2 rfl ?_
        refine wpAnyH_done (by kernel_rfl) ?_ _
        go_wp2_with fail
        go_ret
        exact ⟨rfl, hbw8⟩
end Go.Proofs.Ytddkhkpdbjjboaa
